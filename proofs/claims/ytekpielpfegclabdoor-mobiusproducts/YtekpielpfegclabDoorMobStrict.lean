/- Package mobius: strict. -/
import Derived.Test.YtekpielpfegclabDoorMobZeta
namespace Go.Proofs.YtekpielpfegclabDoor
open Go.RowKit Go.Shelf

theorem zetaN (n : Nat) (a : Option Addr) (cap : Nat) (us : List Nat) (n₀ : Nat) (hn : n = us.length) (hf : Fit us) (hl : n ≤ 16) (w : World) (hw : IsWords n₀ w a us) (hn₀ : n₀ ≤ w.heap.size) :
    Calls Tryd.prog 29 #[.agg #[.int .i64 n, .slice a n cap]] w fun e w' => ∃ p, e = .returned (sqV n p) ∧ w.heap.size ≤ p ∧ Below w.heap.size w w' ∧ Row w' p 2 (bvals (tabL n (zet us))) := by
  subst hn; exact zeta_any a cap us n₀ hf hl w hw hn₀

set_option maxRecDepth 100000 in
set_option maxHeartbeats 4000000 in
/-- **strict**: 1 where a is strictly below b -/
theorem strict_any (n : Nat) (a : Option Addr) (cap : Nat) (us : List Nat) (n₀ : Nat) (hn : n = us.length) (hf : Fit us) (hl : n ≤ 16) (w : World) (hw : IsWords n₀ w a us) (hn₀ : n₀ ≤ w.heap.size) :
    Calls Tryd.prog 31 #[.agg #[.int .i64 n, .slice a n cap]] w fun e w' => ∃ p, e = .returned (sqV n p) ∧ w.heap.size ≤ p ∧ Below w.heap.size w w' ∧ Row w' p 2 (bvals (tabL n (ltM us))) := by
  have h2 : n * n ≤ 256 := Nat.mul_le_mul hl hl
  have hz := fun (W : World) (hW : IsWords n₀ W a us) (hs : n₀ ≤ W.heap.size) => zetaN n a cap us n₀ hn hf hl W hW hs
  have hrow := row_any n
  clear hn
  unfold sqV at hz hrow
  unfold sqV
  go_enter Tryd.func31, Tryd.ntmps31
  go_wp2_with fail
  obtain ⟨W0, hW0⟩ : ∃ W0, (w.alloc (.cells #[.int .i64 n, .slice a n cap] 24)).alloc (.cells #[.int .i64 0, .slice none 0 0] 48) = W0 := ⟨_, rfl⟩
  obtain ⟨r0, r4, hB0, hs0⟩ := ord_sq w _ _ _ _ hW0
  rw [hW0]
  refine (hz _ (hw.below (hB0.mono hn₀)) (by omega)).mono ?_
  rintro e w1 ⟨p, rfl, hp0, hb1, hr1⟩
  have hs1 := hb1.size
  have lt1 := hr1.lt
  rw [hs0] at hs1 hp0
  obtain ⟨W1, hW1⟩ : ∃ W1, w1.alloc (.cells #[.int .i64 n, .slice (some ⟨p, 0, none⟩) (n * n) (n * n)] 48) = W1 := ⟨_, rfl⟩
  obtain ⟨r5, hB1, hs2⟩ := sq_cells w1 _ _ hW1
  have q0 := row_below (row_below r0 hb1 r0.lt) hB1 (by omega)
  have q4 := row_below (row_below r4 hb1 r4.lt) hB1 (by omega)
  have p1 := row_below hr1 hB1 hr1.lt
  have hBW : Below w.heap.size w W1 := (hB0.trans (hb1.mono (by omega))).trans (hB1.mono (by omega))
  have c20 := q0.cell (i := 0) rfl
  go_wp2_with fail
  clear hz hB0 hr1 hb1 hB1 r0 r4 c20
  generalize w1.heap.size = B at *
  clear hW1 hW0
  go_loopw [9] (fun i wr => ∃ (k : Nat) (P : List B64), k ≤ n ∧ i = .int .i64 k ∧ Below w.heap.size w wr ∧ Row wr B 48 [.int .i64 n, .slice (some ⟨p, 0, none⟩) (n * n) (n * n)] ∧ Row wr (w.heap.size + 1) 48 [.int .i64 0, .slice none 0 0] ∧ Row wr p 2 (bvals P) ∧ P.length = n * n ∧ ∀ a, a < n → ∀ b, b < n → mat n P a b = if a = b ∧ a < k then 0 else zet us a b) (fun i _ => n - (intOf i).toNat)
  case atStart => exact ⟨0, _, Nat.zero_le _, rfl, hBW, r5, q4, p1, tabL_len _ _, fun a ha b hb => by rw [mat_tabL _ a ha b hb, if_neg (by omega)]⟩
  case round =>
    obtain ⟨k, P, hk, rfl, hB, rB, r4, rP, hlP, hP⟩ := hrel
    clear hBW r5 q0 q4 p1
    have hBs := hB.size
    have ltB := rB.lt
    have lt4 := r4.lt
    have ltP := rP.lt
    by_cases hlt : k < n
    · have d0 := rB.cell (i := 0) rfl
      have d1 := rB.cell (i := 1) rfl
      have hpl := plc_lt hlt hlt
      have HP := hide hP
      clear hP
      go_wp2_with fail
      refine (hrow p k hl hlt _).mono ?_
      rintro e w3 ⟨rfl, hb3⟩
      clear d0 d1
      have hc := (rP.keep hb3).cell (bvals_at (i := k * n + k) (by omega))
      have hfz := (rP.keep hb3).frozen (k * n + k)
      have hset := (rP.keep hb3).set (k * n + k) (.int .i64 (0 : B64).toInt)
      rw [bvals_set] at hset
      go_wp2_with fail
      refine ⟨⟨k + 1, P.set (k * n + k) 0, by omega, by go_num, ?_, (rB.keep hb3).other (by omega) _ _, (r4.keep hb3).other (by omega) _ _, hset, by rw [List.length_set, hlP], fun a ha b hb => ?_⟩, by simp [intOf]; omega⟩
      · exact (hB.trans (hb3.mono hBs)).setCell (p := ⟨p, k * n + k, none⟩) (by simp; omega) _
      · unfold mat
        rw [bd_set (by omega)]
        have h1 := HP.out a ha b hb
        unfold mat at h1
        by_cases e : k * n + k = a * n + b
        · obtain ⟨e1, e2⟩ := plc_inj hlt hb e
          subst e1; subst e2
          rw [if_pos rfl, if_pos ⟨rfl, by omega⟩]
        · rw [if_neg e, h1]
          have : ¬ (a = k ∧ b = k) := fun h => e (by rw [h.1, h.2])
          by_cases e3 : a = b ∧ a < k
          · rw [if_pos e3, if_pos (by omega)]
          · rw [if_neg e3, if_neg (by omega)]
    · obtain rfl : k = n := by omega
      have f0 := r4.frozen 0
      have f1 := r4.frozen 1
      have d0 := r4.cell (i := 0) rfl
      have d1 := r4.cell (i := 1) rfl
      have c0 := rB.cell (i := 0) rfl
      have c1 := rB.cell (i := 1) rfl
      have e : P = tabL k (ltM us) := mat_ext hlP (tabL_len _ _) fun a ha b hb => by
        rw [hP a ha b hb, mat_tabL _ a ha b hb]
        unfold ltM zet underB
        by_cases e : a = b
        · subst e; simp [ha]
        · simp [e]
      subst e
      clear hP hlP hrow
      go_wp2
      have kk := (r4.set 0 (.int .i64 k)).set 1 (.slice (some ⟨p, 0, none⟩) (k * k) (k * k))
      have e0 := kk.cell (i := 0) rfl
      have e1 := kk.cell (i := 1) rfl
      refine bodyPost_ret (v := .agg #[.int .i64 k, .slice (some ⟨p, 0, none⟩) (k * k) (k * k)]) (by simp [results, Tryd.results31, go_sem, e0, e1]) rfl ⟨_, rfl, by omega, ?_, ?_⟩
      · exact (hB.setCell (p := ⟨w.heap.size + 1, 0, none⟩) (by simp) _).setCell (p := ⟨w.heap.size + 1, 1, none⟩) (by simp) _
      · exact (rP.other (by omega) _ _).other (by omega) _ _
end Go.Proofs.YtekpielpfegclabDoor
