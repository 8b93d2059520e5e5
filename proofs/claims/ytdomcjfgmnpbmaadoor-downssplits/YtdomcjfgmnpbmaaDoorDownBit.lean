/- The contracts of package downs' bit and has. -/
import Derived.Test.YtdomcjfgmnpbmaaDoorDual
import Derived.Test.YtdomcjfgmnpbmaaDoorDownPlain
namespace Go.Proofs.YtdomcjfgmnpbmaaDoor
open Go.RowKit Go.Shelf

theorem dbit_any (i : Nat) (hi : i < 32) (w : World) :
    Calls Tryd.prog 37 #[.int .i64 i] w fun e w' => e = .returned (.int .u32 (bitW i : Nat)) ∧ w' = w := by
  go_enter Tryd.func37, Tryd.ntmps37
  go_wp2
  go_ret
  exact ⟨ret_int (bit_raw hi), rfl⟩

theorem dhas_any (x i : Nat) (hx : x < 4294967296) (hi : i < 32) (w : World) :
    Calls Tryd.prog 39 #[.int .u32 x, .int .i64 i] w fun e w' => e = .returned (.bool (hasB x i)) ∧ w' = w := by
  go_enter Tryd.func39, Tryd.ntmps39
  go_wp2_with (go_at_call 37; refine (dbit_any _ (by omega) _).mono ?_; rintro e w' ⟨rfl, rfl⟩)
  go_ret
  exact ⟨ret_bool (by rw [bits_and32 _ _ hx (bitW_lt hi), and_bit_bne]), rfl⟩
end Go.Proofs.YtdomcjfgmnpbmaaDoor
