/- The contracts of watershedkeep's size and loose. -/
import Derived.Test.YtjbfjdijgfhjfaaDoorKeepX
import Derived.Test.YtjbfjdijgfhjfaaDoorKeepUnder
import Derived.Test.YtjbfjdijgfhjfaaDoorSplitPlain
import Derived.Test.YtjbfjdijgfhjfaaDoorOwns
namespace Go.Proofs.YtjbfjdijgfhjfaaDoor
open Go.RowKit Go.Shelf

theorem cntF_succ (p : Nat → Bool) (k : Nat) : cntF p (k + 1) = cntF p k + (if p k then 1 else 0) := by
  unfold cntF
  rw [List.range_succ, List.filter_append, List.length_append]
  cases h : p k <;> simp [h]
theorem cntF_le (p : Nat → Bool) (k : Nat) : cntF p k ≤ k := by have := cntF_not p k; omega


set_option maxRecDepth 100000 in
set_option maxHeartbeats 1000000 in
theorem ksize_any (x : Nat) (hx : x < 4294967296) (w : World) :
    Calls Tryd.prog 16 #[.int .u32 (x : Nat)] w fun e w' => e = .returned (.int .i64 (cntF (hasB x) 32 : Nat)) ∧ w' = w := by
  go_enter Tryd.func16, Tryd.ntmps16
  go_wp2
  go_loopw [3, 4] (fun v i wr => ∃ k : Nat, k ≤ 32 ∧ i = .int .i64 k ∧ v = .int .i64 (cntF (hasB x) k : Nat) ∧ wr = w) (fun _ i _ => 32 - (intOf i).toNat)
  case atStart => exact ⟨0, Nat.zero_le _, rfl, rfl, rfl⟩
  case round =>
    obtain ⟨k, hk, rfl, rfl, rfl⟩ := hrel
    by_cases hlt : k < 32
    · have hd : decide ((k : Int) < 32) = true := by simp; omega
      have hc := cntF_le (hasB x) k
      have hstep := cntF_succ (hasB x) k
      cases hb : hasB x k with
      | true =>
        have B := Bit_any x k hx hlt
        simp only [hb] at B
        have HS : Hid (cntF (hasB x) (k + 1) = cntF (hasB x) k + 1) := by rw [hb] at hstep; exact hide hstep
        clear hstep hb
        generalize cntF (hasB x) k = c at *
        go_wp2_with (go_at_call 29; refine (B _).mono ?_; rintro e w3 ⟨rfl, hww⟩; rw [hww]; clear hww w3)
        exact ⟨⟨k + 1, by omega, by go_num, by rw [HS.out]; go_num, trivial⟩, by simp [intOf]; omega⟩
      | false =>
        have B := Bit_any x k hx hlt
        simp only [hb] at B
        have HS : Hid (cntF (hasB x) (k + 1) = cntF (hasB x) k) := by rw [hb] at hstep; exact hide hstep
        clear hstep hb
        generalize cntF (hasB x) k = c at *
        go_wp2_with (go_at_call 29; refine (B _).mono ?_; rintro e w3 ⟨rfl, hww⟩; rw [hww]; clear hww w3)
        exact ⟨⟨k + 1, by omega, by go_num, by rw [HS.out], trivial⟩, by simp [intOf]; omega⟩
    · obtain rfl : k = 32 := by omega
      go_wp2
      go_ret
      exact ⟨rfl, rfl⟩

/-- none of x is strictly below another one -/
def Loose (us : List Nat) (x : Nat) : Prop := ∀ i, i < us.length → ∀ j, j < us.length → hasB x i = true → hasB x j = true → underB us i j = false
def decLoose (us : List Nat) (x : Nat) : Decidable (Loose us x) := by unfold Loose; infer_instance
def looseB (us : List Nat) (x : Nat) : Bool := @decide (Loose us x) (decLoose us x)
theorem looseB_true {us : List Nat} {x : Nat} : looseB us x = true ↔ Loose us x := by unfold looseB; exact @decide_eq_true_iff _ (decLoose us x)
theorem looseB_false {us : List Nat} {x : Nat} : looseB us x = false ↔ ¬ Loose us x := by unfold looseB; exact @decide_eq_false_iff_not _ (decLoose us x)

set_option maxRecDepth 100000 in
set_option maxHeartbeats 2000000 in
theorem loose_any (a : Option Addr) (cap : Nat) (us : List Nat) (x : Nat) (hx : x < 4294967296) (n₀ : Nat) (hf : Fit us) (hl : us.length ≤ 16) (w : World) (hw : IsWords n₀ w a us) (hn₀ : n₀ ≤ w.heap.size) :
    Calls Tryd.prog 15 #[.agg #[.int .i64 us.length, .slice a us.length cap], .int .u32 (x : Nat)] w fun e w' => e = .returned (.bool (looseB us x)) ∧ Below w.heap.size w w' := by
  obtain ⟨r0, hb0, hs0⟩ := one_row w 24 (.int .i64 us.length) (.slice a us.length cap) rfl
  have lt0 := r0.lt
  have pun : ∀ (i j : Nat) (W : World), i < us.length → j < us.length → Below w.heap.size w W → Calls Tryd.prog 30 #[.agg #[.int .i64 us.length, .slice a us.length cap], .int .i64 i, .int .i64 j] W fun e w' => e = .returned (.bool (underB us i j)) ∧ Below W.heap.size W w' := fun i j W hi hj hW =>
    kunder_any us.length a cap us i j n₀ hf hi (by omega) W (hw.below (hW.mono hn₀)) (by have := hW.size; omega)
  go_enter Tryd.func15, Tryd.ntmps15
  go_wp2
  generalize w.alloc (.cells #[.int .i64 us.length, .slice a us.length cap] 24) = w1 at *
  go_loopw [5] (fun i wr => ∃ k : Nat, k ≤ us.length ∧ i = .int .i64 k ∧ Below w1.heap.size w1 wr ∧ ∀ i, i < k → ∀ j, j < us.length → hasB x i = true → hasB x j = true → underB us i j = false) (fun i _ => us.length - (intOf i).toNat)
  case atStart => exact ⟨0, Nat.zero_le _, rfl, Below.refl _ _, fun i hi => absurd hi (Nat.not_lt_zero _)⟩
  case round =>
    obtain ⟨k, hk, rfl, hbr, hrows⟩ := hrel
    have hbs := hbr.size
    have c0 := (row_below r0 hbr lt0).cell (i := 0) rfl
    by_cases hlt : k < us.length
    · go_wp2
      clear c0
      go_loopw [6] (fun i wr => ∃ j : Nat, j ≤ us.length ∧ i = .int .i64 j ∧ Below w1.heap.size w1 wr ∧ ∀ q, q < j → hasB x k = true → hasB x q = true → underB us k q = false) (fun i _ => us.length - (intOf i).toNat)
      case atStart => exact ⟨0, Nat.zero_le _, rfl, hbr, fun i hi => absurd hi (Nat.not_lt_zero _)⟩
      clear hbr hbs
      case round =>
        obtain ⟨j, hj, rfl, hbr, hrow⟩ := hrel
        have hbs := hbr.size
        have c0 := (row_below r0 hbr lt0).cell (i := 0) rfl
        have c1 := (row_below r0 hbr lt0).cell (i := 1) rfl
        by_cases hjl : j < us.length
        · have hp := pun k j _ hlt hjl (hb0.trans (hbr.mono (by omega)))
          have hnext : (hasB x k = true → hasB x j = true → underB us k j = false) → ∀ q, q < j + 1 → hasB x k = true → hasB x q = true → underB us k q = false := fun h q hq => by
            by_cases e : q = j
            · subst e; exact h
            · exact hrow q (by omega)
          have HB := hide hbr
          clear hrow hrows pun hbr
          rcases two_ways (hasB x k) with e1 | e1
          · skip
            have B1 := Bit_any x k hx (by omega)
            simp only [e1] at B1
            have HN := hide (hnext fun h => by rw [e1] at h; cases h)
            clear hnext e1
            go_wp2_with (go_at_call 29; refine (B1 _).mono ?_; rintro e w3 ⟨rfl, hww⟩; rw [hww]; clear hww w3)
            exact ⟨⟨j + 1, by omega, by go_num, HB.out, HN.out⟩, by simp [intOf]; omega⟩
          · skip
            have B1 := Bit_any x k hx (by omega)
            simp only [e1] at B1
            rcases two_ways (hasB x j) with e2 | e2
            · skip
              have B2 := Bit_any x j hx (by omega)
              simp only [e2] at B2
              have HN := hide (hnext fun _ h => by rw [e2] at h; cases h)
              clear hnext e1 e2
              go_wp2_with (go_at_call 29; (first | (refine (B1 _).mono ?_; clear B1) | (refine (B2 _).mono ?_; clear B2)); rintro e w3 ⟨rfl, hww⟩; rw [hww]; clear hww w3)
              exact ⟨⟨j + 1, by omega, by go_num, HB.out, HN.out⟩, by simp [intOf]; omega⟩
            · skip
              have B2 := Bit_any x j hx (by omega)
              simp only [e2] at B2
              rcases two_ways (underB us k j) with hu | hu
              · skip
                rw [hu] at hp
                have HN := hide (hnext fun _ _ => hu)
                clear hnext e1 e2 hu
                go_wp2_with (first | (go_at_call 29; (first | (refine (B1 _).mono ?_; clear B1) | (refine (B2 _).mono ?_; clear B2)); rintro e w3 ⟨rfl, hww⟩; rw [hww]; clear hww w3) | (go_at_call 30; refine hp.mono ?_; rintro e w4 ⟨rfl, hb4⟩))
                exact ⟨⟨j + 1, by omega, by go_num, HB.out.trans (hb4.mono hbs), HN.out⟩, by simp [intOf]; omega⟩
              · skip
                rw [hu] at hp
                have HF := hide (looseB_false.2 (show ¬ Loose us x from fun h => by rw [h k hlt j hjl e1 e2] at hu; cases hu))
                clear hnext e1 e2 hu
                go_wp2_with (first | (go_at_call 29; (first | (refine (B1 _).mono ?_; clear B1) | (refine (B2 _).mono ?_; clear B2)); rintro e w3 ⟨rfl, hww⟩; rw [hww]; clear hww w3) | (go_at_call 30; refine hp.mono ?_; rintro e w4 ⟨rfl, hb4⟩))
                go_ret
                exact ⟨ret_bool HF.out.symm, hb0.trans ((HB.out.trans (hb4.mono hbs)).mono (by omega))⟩
        · obtain rfl : j = us.length := by omega
          have HR := hide (show ∀ i, i < k + 1 → ∀ j, j < us.length → hasB x i = true → hasB x j = true → underB us i j = false from fun i hi => by
            by_cases e : i = k
            · subst e; exact hrow
            · exact hrows i (by omega))
          clear hrow hrows c1
          go_wp2
          exact ⟨⟨k + 1, by omega, by go_num, hbr, HR.out⟩, by simp [intOf]; omega⟩
    · obtain rfl : k = us.length := by omega
      have HF := hide (looseB_true.2 (show Loose us x from hrows))
      clear hrows
      go_wp2
      go_ret
      exact ⟨ret_bool HF.out.symm, hb0.trans (hbr.mono (by omega))⟩
end Go.Proofs.YtjbfjdijgfhjfaaDoor
