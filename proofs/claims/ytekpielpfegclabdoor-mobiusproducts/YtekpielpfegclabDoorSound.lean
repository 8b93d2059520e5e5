/- The contract of sound. -/
import Derived.Test.YtekpielpfegclabDoorRefCheck
namespace Go.Proofs.YtekpielpfegclabDoor
open Go.RowKit Go.Shelf

theorem sound_any (n : Int) (a : Option Addr) (cap : Nat) (us : List Nat) (n₀ : Nat) (hf : Fit us) (w : World) (hw : IsWords n₀ w a us) (hn₀ : n₀ ≤ w.heap.size) :
    Calls Tryd.prog 8 #[.agg #[.int .i64 n, .slice a us.length cap]] w fun e w' => e = .returned (.bool (codeOf n us == 0)) ∧ Below w.heap.size w w' := by
  have hb0 : Below w.heap.size w (w.alloc (.cells #[.int .i64 n, .slice a us.length cap] 24)) := (Below.refl _ _).alloc (Nat.le_refl _) _
  have hck := OrderCheck_any n a cap us n₀ hf _ (hw.below (hb0.mono hn₀)) (by simp; omega)
  generalize codeOf n us = c at *
  have Hb := hide hb0
  clear hb0
  go_enter Tryd.func8, Tryd.ntmps8
  go_wp2_with (go_at_call 21; refine hck.mono ?_; rintro e w1 ⟨rfl, hb1⟩)
  go_ret
  exact ⟨rfl, Hb.out.trans (hb1.mono (by simp))⟩
end Go.Proofs.YtekpielpfegclabDoor
