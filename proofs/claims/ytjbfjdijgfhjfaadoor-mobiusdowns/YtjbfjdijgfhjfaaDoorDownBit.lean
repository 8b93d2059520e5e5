/- The contracts of package downs' bit and has. -/
import Derived.Test.YtjbfjdijgfhjfaaDoorDual
import Derived.Test.YtjbfjdijgfhjfaaDoorDownPlain
namespace Go.Proofs.YtjbfjdijgfhjfaaDoor
open Go.RowKit Go.Shelf

theorem dbit_any (i : Nat) (hi : i < 32) (w : World) :
    Calls Tryd.prog 25 #[.int .i64 i] w fun e w' => e = .returned (.int .u32 (bitW i : Nat)) ∧ w' = w := by
  go_enter Tryd.func25, Tryd.ntmps25
  go_wp2
  go_ret
  exact ⟨ret_int (bit_raw hi), rfl⟩

theorem dhas_any (x i : Nat) (hx : x < 4294967296) (hi : i < 32) (w : World) :
    Calls Tryd.prog 56 #[.int .u32 x, .int .i64 i] w fun e w' => e = .returned (.bool (hasB x i)) ∧ w' = w := by
  go_enter Tryd.func56, Tryd.ntmps56
  go_wp2_with (go_at_call 25; refine (dbit_any _ (by omega) _).mono ?_; rintro e w' ⟨rfl, rfl⟩)
  go_ret
  exact ⟨ret_bool (by rw [bits_and32 _ _ hx (bitW_lt hi), and_bit_bne]), rfl⟩
end Go.Proofs.YtjbfjdijgfhjfaaDoor
