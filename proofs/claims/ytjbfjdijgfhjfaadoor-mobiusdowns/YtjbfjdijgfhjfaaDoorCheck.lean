/- The contract of the program's Check: the number of what is wrong. -/
import Derived.Test.YtjbfjdijgfhjfaaDoorMayBe
namespace Go.Proofs.YtjbfjdijgfhjfaaDoor
open Go.RowKit Go.Shelf

set_option maxRecDepth 100000 in
set_option maxHeartbeats 1000000 in
/-- **the program's Check tells the number of what is wrong, for every order** -/
theorem Check_any (n : Int) (a : Option Addr) (cap : Nat) (us : List Nat) (n₀ : Nat) (hf : Fit us) (w : World) (hT : TabAt w) (hw : IsWords n₀ w a us) (hg : 0 < n₀) (hn₀ : n₀ ≤ w.heap.size) :
    Calls Tryd.prog 21 #[.agg #[.int .i64 n, .slice a us.length cap]] w fun e w' => e = .returned (.int .i64 (codeOf n us)) ∧ Below w.heap.size w w' := by
  by_cases hl : n < 0 ∨ 16 < n
  · have Hc := hide (code_large (us := us) hl)
    rcases hl with hl | hl
    · have hd : decide (n < 0) = true := by simpa using hl
      go_enter Tryd.func21, Tryd.ntmps21
      go_wp2
      go_ret
      exact ⟨ret_int Hc.out.symm, (Below.refl _ _).alloc (Nat.le_refl _) _⟩
    · have hd : decide (n < 0) = false := by simp; omega
      go_enter Tryd.func21, Tryd.ntmps21
      go_wp2
      go_ret
      exact ⟨ret_int Hc.out.symm, (Below.refl _ _).alloc (Nat.le_refl _) _⟩
  · have h0 : 0 ≤ n := by omega
    have h1 : n ≤ 16 := by omega
    have hd : decide (n < 0) = false := by simp; omega
    by_cases hlen : (us.length : Int) = n
    · have hne : ((us.length : Int) != n) = false := by rw [bne_eq_false_iff_eq]; exact hlen
      have hl16 : us.length ≤ 16 := by omega
      have hb0 : Below w.heap.size w (w.alloc (.cells #[.int .i64 n, .slice a us.length cap] 24)) := (Below.refl _ _).alloc (Nat.le_refl _) _
      have hw1 := hw.below (hb0.mono hn₀)
      have hT1 := hT.below hb0 (by omega)
      have hwi := within_any a cap us n₀ hf hl16 _ hw1
      cases hin : insideB us with
      | false =>
        simp only [hin] at hwi
        have Hc := hide (code_arg hl hlen hin)
        clear hin hlen hb0 hw1 hT1
        go_enter Tryd.func21, Tryd.ntmps21
        go_wp2_with (go_at_call 38; refine hwi.mono ?_; rintro e w' ⟨rfl, rfl⟩)
        go_ret
        exact ⟨ret_int Hc.out.symm, (Below.refl _ _).alloc (Nat.le_refl _) _⟩
      | true =>
        simp only [hin] at hwi
        have hmb := mayBe_any a cap us n₀ hf (insideB_true.1 hin) hl16 _ hT1 hw1 hg (by simp; omega)
        cases ho : isOrdB us with
        | false =>
          simp only [ho] at hmb
          have Hc := hide (code_form hl hlen hin ho)
          have Hb := hide hb0
          clear hin hlen hb0 hw1 hT1 ho
          go_enter Tryd.func21, Tryd.ntmps21
          go_wp2_with (first | (go_at_call 38; refine hwi.mono ?_; rintro e w' ⟨rfl, rfl⟩) | (go_at_call 39; refine hmb.mono ?_; rintro e w1 ⟨rfl, hb1⟩))
          go_ret
          exact ⟨ret_int Hc.out.symm, Hb.out.trans (hb1.mono (by simp))⟩
        | true =>
          simp only [ho] at hmb
          have Hc := hide (code_ok hl hlen hin ho)
          have Hb := hide hb0
          clear hin hlen hb0 hw1 hT1 ho
          go_enter Tryd.func21, Tryd.ntmps21
          go_wp2_with (first | (go_at_call 38; refine hwi.mono ?_; rintro e w' ⟨rfl, rfl⟩) | (go_at_call 39; refine hmb.mono ?_; rintro e w1 ⟨rfl, hb1⟩))
          go_ret
          exact ⟨ret_int Hc.out.symm, Hb.out.trans (hb1.mono (by simp))⟩
    · have Hc := hide (code_len (us := us) hl hlen)
      have hne : ((us.length : Int) != n) = true := by rw [bne_iff_ne]; exact hlen
      go_enter Tryd.func21, Tryd.ntmps21
      go_wp2
      go_ret
      exact ⟨ret_int Hc.out.symm, (Below.refl _ _).alloc (Nat.le_refl _) _⟩
end Go.Proofs.YtjbfjdijgfhjfaaDoor
