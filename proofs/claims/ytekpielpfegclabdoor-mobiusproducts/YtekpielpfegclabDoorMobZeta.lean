/- Package mobius: below, zeta. -/
import Derived.Test.YtekpielpfegclabDoorMobTimes
import Derived.Test.YtekpielpfegclabDoorRefLow
namespace Go.Proofs.YtekpielpfegclabDoor
open Go.RowKit Go.Shelf

theorem shr_bitM {x j : Nat} (hx : x < 4294967296) : (bits BinOp.and IntKind.u32 ((x : Int) / 2 ^ j) 1 == 1) = hasB x j := by
  have e : ((x : Int) / 2 ^ j) = ((x / 2 ^ j : Nat) : Int) := by simp
  have h1 : x / 2 ^ j < 4294967296 := Nat.lt_of_le_of_lt (Nat.div_le_self _ _) hx
  have h2 := bits_and32 (x / 2 ^ j) 1 h1 (by decide)
  rw [e]
  refine (congrArg (· == (1 : Int)) h2).trans ?_
  unfold hasB
  rw [Nat.testBit_eq_decide_div_mod_eq, Bool.eq_iff_iff, beq_iff_eq, decide_eq_true_iff]
  have : (x / 2 ^ j) &&& 1 = x / 2 ^ j % 2 := Nat.and_one_is_mod _
  unfold andW
  rw [this]
  omega
theorem mbelow_any (n : Int) (a : Option Addr) (cap : Nat) (us : List Nat) (i j n₀ : Nat) (hf : Fit us) (hi : i < us.length) (hj : j < 32) (w : World) (hw : IsWords n₀ w a us) (hn : n₀ ≤ w.heap.size) :
    Calls Tryd.prog 41 #[.agg #[.int .i64 n, .slice a us.length cap], .int .i64 i, .int .i64 j] w fun e w' => e = .returned (.bool (hasB (wd us i) j)) ∧ Below w.heap.size w w' := by
  obtain ⟨b, off, rfl, hb, hc⟩ := hw.at hi
  have hci := hc i hi
  have hfi := hf i
  have hbw : b < w.heap.size := by omega
  clear hc
  go_enter Tryd.func41, Tryd.ntmps41
  go_wp2
  go_ret
  exact ⟨ret_bool (shr_bitM hfi), (Below.refl _ _).alloc (Nat.le_refl _) _⟩

theorem ord_sq (w : World) (v0 v1 x0 x1 : Value) {W : World} (h : (w.alloc (.cells #[v0, v1] 24)).alloc (.cells #[x0, x1] 48) = W) :
    Row W w.heap.size 24 [v0, v1] ∧ Row W (w.heap.size + 1) 48 [x0, x1] ∧ Below w.heap.size w W ∧ W.heap.size = w.heap.size + 1 + 1 := by
  subst h
  have r0 := Row.new w 24 [v0, v1]
  have r1 := Row.new (w.alloc (.cells #[v0, v1] 24)) 48 [x0, x1]
  rw [World.size_alloc] at r1
  exact ⟨r0.alloc _, r1, ((Below.refl _ _).alloc (Nat.le_refl _) _).alloc (by simp) _, by simp⟩

set_option maxRecDepth 100000 in
set_option maxHeartbeats 4000000 in
/-- **zeta**: 1 where a is below b -/
theorem zeta_any (a : Option Addr) (cap : Nat) (us : List Nat) (n₀ : Nat) (hf : Fit us) (hl : us.length ≤ 16) (w : World) (hw : IsWords n₀ w a us) (hn₀ : n₀ ≤ w.heap.size) :
    Calls Tryd.prog 29 #[.agg #[.int .i64 us.length, .slice a us.length cap]] w fun e w' => ∃ p, e = .returned (sqV us.length p) ∧ w.heap.size ≤ p ∧ Below w.heap.size w w' ∧ Row w' p 2 (bvals (tabL us.length (zet us))) := by
  obtain ⟨n, hn⟩ : ∃ n, n = us.length := ⟨_, rfl⟩
  rw [← hn] at hl ⊢
  have h2 : n * n ≤ 256 := Nat.mul_le_mul hl hl
  have hb := blank_any n hl
  have hrow := row_any n
  have hbel := fun i (hi : i < n) j (hj : j < 32) (W : World) (hW : IsWords n₀ W a us) (hs : n₀ ≤ W.heap.size) => mbelow_any n a cap us i j n₀ hf (by omega) hj W hW hs
  rw [← hn] at hbel
  clear hn
  unfold sqV at hb hrow
  unfold sqV
  go_enter Tryd.func29, Tryd.ntmps29
  go_wp2_with fail
  obtain ⟨W0, hW0⟩ : ∃ W0, (w.alloc (.cells #[.int .i64 n, .slice a n cap] 24)).alloc (.cells #[.int .i64 0, .slice none 0 0] 48) = W0 := ⟨_, rfl⟩
  obtain ⟨r0, r4, hB0, hs0⟩ := ord_sq w _ _ _ _ hW0
  rw [hW0]
  refine (hb _).mono ?_
  rintro e w1 ⟨rfl, hb1, hr1⟩
  rw [hs0] at hr1
  have hs1 := hb1.size
  have lt1 := hr1.lt
  rw [hs0] at hs1
  obtain ⟨W1, hW1⟩ : ∃ W1, w1.alloc (.cells #[.int .i64 n, .slice (some ⟨w.heap.size + 1 + 1 + 1, 0, none⟩) (n * n) (n * n)] 48) = W1 := ⟨_, rfl⟩
  obtain ⟨r5, hB1, hs2⟩ := sq_cells w1 _ _ hW1
  have q0 := row_below (row_below r0 hb1 r0.lt) hB1 (by omega)
  have q4 := row_below (row_below r4 hb1 r4.lt) hB1 (by omega)
  have p1 : Row W1 (w.heap.size + 1 + 1 + 1) 2 (bvals (List.replicate (n * n) 0)) := row_below hr1 hB1 hr1.lt
  have hBW : Below w.heap.size w W1 := (hB0.trans (hb1.mono (by omega))).trans (hB1.mono (by omega))
  have c20 := q0.cell (i := 0) rfl
  rw [hs0]
  go_wp2_with fail
  clear hb hB0 hr1 hb1 hB1 r0 r4 c20
  have hpp : w.heap.size + 1 < w.heap.size + 1 + 1 + 1 := by omega
  generalize w1.heap.size = B at *
  generalize w.heap.size + 1 + 1 + 1 = p at *
  clear hW1 hW0
  go_loopw [11] (fun i wr => ∃ (k : Nat) (P : List B64), k ≤ n ∧ i = .int .i64 k ∧ Below w.heap.size w wr ∧ Row wr B 48 [.int .i64 n, .slice (some ⟨p, 0, none⟩) (n * n) (n * n)] ∧ Row wr w.heap.size 24 [.int .i64 n, .slice a n cap] ∧ Row wr (w.heap.size + 1) 48 [.int .i64 0, .slice none 0 0] ∧ Row wr p 2 (bvals P) ∧ P.length = n * n ∧ ∀ a, a < n → ∀ b, b < n → mat n P a b = if a < k then zet us a b else 0) (fun i _ => n - (intOf i).toNat)
  case atStart => exact ⟨0, _, Nat.zero_le _, rfl, hBW, r5, q0, q4, p1, by simp, fun a _ b _ => bd_replicate _ _⟩
  case round =>
    obtain ⟨k, P, hk, rfl, hB, rB, r0, r4, rP, hlP, hP⟩ := hrel
    clear hBW r5 q0 q4 p1
    by_cases hlt : k < n
    · have c0 := r0.cell (i := 0) rfl
      go_wp2_with fail
      clear c0
      go_loopw [16] (fun i wr => ∃ (j : Nat) (P : List B64), j ≤ n ∧ i = .int .i64 j ∧ Below w.heap.size w wr ∧ Row wr B 48 [.int .i64 n, .slice (some ⟨p, 0, none⟩) (n * n) (n * n)] ∧ Row wr w.heap.size 24 [.int .i64 n, .slice a n cap] ∧ Row wr (w.heap.size + 1) 48 [.int .i64 0, .slice none 0 0] ∧ Row wr p 2 (bvals P) ∧ P.length = n * n ∧ ∀ a, a < n → ∀ b, b < n → mat n P a b = if a < k ∨ a = k ∧ b < j then zet us a b else 0) (fun i _ => n - (intOf i).toNat)
      case atStart => exact ⟨0, _, Nat.zero_le _, rfl, hB, rB, r0, r4, rP, hlP, fun a ha b hb => by
        rw [hP a ha b hb]
        by_cases e : a < k
        · rw [if_pos e, if_pos (.inl e)]
        · rw [if_neg e, if_neg (by omega)]⟩
      case round =>
        clear hB rB r0 r4 rP hlP hP
        obtain ⟨j, P, hj, rfl, hB, rB, r0, r4, rP, hlP, hP⟩ := hrel
        have hBs := hB.size
        have ltB := rB.lt
        have lt0 := r0.lt
        have lt4 := r4.lt
        have ltP := rP.lt
        by_cases hjt : j < n
        · have c0 := r0.cell (i := 0) rfl
          have c1 := r0.cell (i := 1) rfl
          have hpl := plc_lt hlt hjt
          have HP := hide hP
          have hcall := hbel k hlt j (by omega) _ (hw.below (hB.mono hn₀)) (by omega)
          clear hP
          go_wp2_with fail
          refine hcall.mono ?_
          rintro e w2 ⟨rfl, hb2⟩
          clear hcall c0 c1
          have kB := rB.keep hb2
          have k0 := r0.keep hb2
          have k4 := r4.keep hb2
          have kP := rP.keep hb2
          have hB2 := hB.trans (hb2.mono hBs)
          cases hz : hasB (wd us k) j with
          | true =>
            have d0 := kB.cell (i := 0) rfl
            have d1 := kB.cell (i := 1) rfl
            have hc := kP.cell (bvals_at (i := k * n + j) (by omega))
            have hfz := kP.frozen (k * n + j)
            have ltB2 := kB.lt
            have ltP2 := kP.lt
            go_wp2_with fail
            refine (hrow p k hl hlt _).mono ?_
            rintro e w3 ⟨rfl, hb3⟩
            clear d0 d1 hc hfz
            have hc := (kP.keep hb3).cell (bvals_at (i := k * n + j) (by omega))
            have hfz := (kP.keep hb3).frozen (k * n + j)
            have hset := (kP.keep hb3).set (k * n + j) (.int .i64 (1 : B64).toInt)
            rw [bvals_set] at hset
            go_wp2_with fail
            refine ⟨⟨j + 1, P.set (k * n + j) 1, by omega, by go_num, ?_, (kB.keep hb3).other (by omega) _ _, (k0.keep hb3).other (by omega) _ _, (k4.keep hb3).other (by omega) _ _, hset, by rw [List.length_set, hlP], fun a ha b hb => ?_⟩, by simp [intOf]; omega⟩
            · exact (hB2.trans (hb3.mono hB2.size)).setCell (p := ⟨p, k * n + j, none⟩) (by simp; omega) _
            · unfold mat
              rw [bd_set (by omega)]
              have h1 := HP.out a ha b hb
              unfold mat at h1
              by_cases e : k * n + j = a * n + b
              · obtain ⟨e1, e2⟩ := plc_inj hjt hb e
                subst e1; subst e2
                rw [if_pos rfl, if_pos (by omega)]
                unfold zet; rw [hz]; rfl
              · rw [if_neg e, h1]
                have : ¬ (a = k ∧ b = j) := fun h => e (by rw [h.1, h.2])
                by_cases e3 : a < k ∨ a = k ∧ b < j
                · rw [if_pos e3, if_pos (by omega)]
                · rw [if_neg e3, if_neg (by omega)]
          | false =>
            go_wp2_with fail
            refine ⟨⟨j + 1, P, by omega, by go_num, hB2, kB, k0, k4, kP, hlP, fun a ha b hb => ?_⟩, by simp [intOf]; omega⟩
            rw [HP.out a ha b hb]
            by_cases e : a = k ∧ b = j
            · obtain ⟨e1, e2⟩ := e
              subst e1; subst e2
              rw [if_neg (by omega), if_pos (by omega)]
              unfold zet; rw [hz]; rfl
            · by_cases e3 : a < k ∨ a = k ∧ b < j
              · rw [if_pos e3, if_pos (by omega)]
              · rw [if_neg e3, if_neg (by omega)]
        · obtain rfl : j = n := by omega
          go_wp2_with fail
          refine ⟨⟨k + 1, P, by omega, by go_num, hB, rB, r0, r4, rP, hlP, fun a ha b hb => ?_⟩, by simp [intOf]; omega⟩
          rw [hP a ha b hb]
          by_cases e : a < k + 1
          · rw [if_pos e, if_pos (by omega)]
          · rw [if_neg e, if_neg (by omega)]
    · obtain rfl : k = n := by omega
      have f0 := r4.frozen 0
      have f1 := r4.frozen 1
      have d0 := r4.cell (i := 0) rfl
      have d1 := r4.cell (i := 1) rfl
      have c0 := rB.cell (i := 0) rfl
      have c1 := rB.cell (i := 1) rfl
      have ltB := rB.lt
      have lt4 := r4.lt
      have ltP := rP.lt
      have e : P = tabL k (zet us) := mat_ext hlP (tabL_len _ _) fun a ha b hb => by
        rw [hP a ha b hb, mat_tabL _ a ha b hb, if_pos ha]
      subst e
      clear hP hlP hrow
      go_wp2
      have kk := (r4.set 0 (.int .i64 k)).set 1 (.slice (some ⟨p, 0, none⟩) (k * k) (k * k))
      have e0 := kk.cell (i := 0) rfl
      have e1 := kk.cell (i := 1) rfl
      refine bodyPost_ret (v := .agg #[.int .i64 k, .slice (some ⟨p, 0, none⟩) (k * k) (k * k)]) (by simp [results, Tryd.results29, go_sem, e0, e1]) rfl ⟨_, rfl, by omega, ?_, ?_⟩
      · exact (hB.setCell (p := ⟨w.heap.size + 1, 0, none⟩) (by simp) _).setCell (p := ⟨w.heap.size + 1, 1, none⟩) (by simp) _
      · exact (rP.other (by omega) _ _).other (by omega) _ _
end Go.Proofs.YtekpielpfegclabDoor
