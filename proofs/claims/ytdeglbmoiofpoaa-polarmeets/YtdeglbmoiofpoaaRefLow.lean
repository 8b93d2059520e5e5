/- Contracts: the document's Outside, Below; the program's within. -/
import Derived.Test.YtdeglbmoiofpoaaMarks
import Derived.Test.YtdeglbmoiofpoaaPlain
import Derived.Deep.QuietTactic
import Derived.BigQuiet
namespace Go.Proofs.Ytdeglbmoiofpoaa
open Go.RowKit Go.Shelf

set_option maxHeartbeats 400000 in
theorem Outside_any (x n : Nat) (hx : x < 4294967296) (hn : n ≤ 16) (w : World) :
    Calls Try.prog 15 #[.int .u32 x, .int .i64 n] w fun e w' => e = .returned (.bool (outsideB x n)) ∧ w' = w := by
  go_enter Try.func15, Try.ntmps15
  go_wp2
  go_loop [5] (fun i => ∃ k : Nat, n ≤ k ∧ k ≤ 32 ∧ i = .int .i64 k ∧ ∀ j, j < k → n ≤ j → hasB x j = false) (fun i => 32 - (intOf i).toNat)
  case atStart => exact ⟨n, Nat.le_refl _, by omega, rfl, fun j h1 h2 => by omega⟩
  case round =>
    obtain ⟨k, hk1, hk2, rfl, hall⟩ := hrel
    by_cases hlt : k < 32
    · cases hb : hasB x k with
      | true =>
        go_wp2_with (go_at_call 8; refine (Bit_any _ _ (by omega) (by omega) _).mono ?_; rintro e w' ⟨rfl, rfl⟩)
        go_ret
        exact ⟨ret_bool (outsideB_true ⟨k, hlt, hk1, hb⟩).symm, rfl⟩
      | false =>
        go_wp2_with (go_at_call 8; refine (Bit_any _ _ (by omega) (by omega) _).mono ?_; rintro e w' ⟨rfl, rfl⟩)
        go_round
        case rel => exact ⟨k + 1, by omega, by omega, by go_num, fun j h1 h2 => by
          by_cases e : j = k
          · rw [e]; exact hb
          · exact hall j (by omega) h2⟩
        case measure => simp [intOf]; omega
    · go_wp2
      go_ret
      exact ⟨ret_bool (outsideB_false.2 fun i h1 h2 => hall i (by omega) h2).symm, rfl⟩

end Go.Proofs.Ytdeglbmoiofpoaa
