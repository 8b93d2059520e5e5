/- The contract of refused. -/
import Derived.Test.YtekpielpfegclabDoorCheck
import Derived.Test.YtekpielpfegclabDoorSound
namespace Go.Proofs.YtekpielpfegclabDoor
open Go.RowKit Go.Shelf

theorem refused_any (n : Int) (a : Option Addr) (cap : Nat) (us : List Nat) (n₀ : Nat) (hf : Fit us) (w : World) (hT : TabAt w) (hw : IsWords n₀ w a us) (hg : 0 < n₀) (hn₀ : n₀ ≤ w.heap.size) :
    Calls Tryd.prog 9 #[.agg #[.int .i64 n, .slice a us.length cap]] w fun e w' => e = .returned (.bool (codeOf n us != 0)) ∧ Below w.heap.size w w' := by
  have hb0 : Below w.heap.size w (w.alloc (.cells #[.int .i64 n, .slice a us.length cap] 24)) := (Below.refl _ _).alloc (Nat.le_refl _) _
  have hck := Check_any n a cap us n₀ hf _ (hT.below hb0 (by omega)) (hw.below (hb0.mono hn₀)) hg (by simp; omega)
  generalize codeOf n us = c at *
  have Hb := hide hb0
  clear hb0
  go_enter Tryd.func9, Tryd.ntmps9
  go_wp2_with (go_at_call 22; refine hck.mono ?_; rintro e w1 ⟨rfl, hb1⟩)
  go_ret
  exact ⟨rfl, Hb.out.trans (hb1.mono (by simp))⟩

end Go.Proofs.YtekpielpfegclabDoor
