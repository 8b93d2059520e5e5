/- The contract of watershedkeep's under. -/
import Derived.Test.YtjbfjdijgfhjfaaDoorKeepBelow
import Derived.Test.YtjbfjdijgfhjfaaDoorCoversPlain
namespace Go.Proofs.YtjbfjdijgfhjfaaDoor
open Go.RowKit Go.Shelf

theorem kunder_any (n : Int) (a : Option Addr) (cap : Nat) (us : List Nat) (i j n₀ : Nat) (hf : Fit us) (hi : i < us.length) (hj : j < 32) (w : World) (hw : IsWords n₀ w a us) (hn : n₀ ≤ w.heap.size) :
    Calls Tryd.prog 30 #[.agg #[.int .i64 n, .slice a us.length cap], .int .i64 i, .int .i64 j] w fun e w' => e = .returned (.bool (underB us i j)) ∧ Below w.heap.size w w' := by
  have hb0 : Below w.heap.size w (w.alloc (.cells #[.int .i64 n, .slice a us.length cap] 24)) := (Below.refl _ _).alloc (Nat.le_refl _) _
  have hbe := kbelow_any n a cap us i j n₀ hf hi hj _ (hw.below (hb0.mono hn)) (by simp; omega)
  have Hb := hide hb0
  clear hb0
  by_cases hij : i = j
  · have hd : ((i : Int) != (j : Int)) = false := by rw [bne_eq_false_iff_eq]; omega
    have Hu := hide (underB_false (us := us) (i := i) (j := j) (fun h => h.1 hij))
    clear hij
    go_enter Tryd.func30, Tryd.ntmps30
    go_wp2
    go_ret
    exact ⟨ret_bool Hu.out.symm, Hb.out⟩
  · have hd : ((i : Int) != (j : Int)) = true := by rw [bne_iff_ne]; omega
    have Hu := hide (show hasB (wd us i) j = underB us i j by unfold underB; simp [hij])
    clear hij
    go_enter Tryd.func30, Tryd.ntmps30
    go_wp2_with (go_at_call 47; refine hbe.mono ?_; rintro e w1 ⟨rfl, hb1⟩)
    go_ret
    exact ⟨ret_bool Hu.out, Hb.out.trans (hb1.mono (by simp))⟩
end Go.Proofs.YtjbfjdijgfhjfaaDoor
