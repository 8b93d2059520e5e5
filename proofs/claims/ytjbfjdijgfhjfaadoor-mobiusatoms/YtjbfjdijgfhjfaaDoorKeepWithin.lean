/- The contract of watershedkeep's within, where all are elements. -/
import Derived.Test.YtjbfjdijgfhjfaaDoorRefCheck
import Derived.Test.YtjbfjdijgfhjfaaDoorIntVals
namespace Go.Proofs.YtjbfjdijgfhjfaaDoor
open Go.RowKit Go.Shelf

theorem kwithin_true (n : Nat) (a : Option Addr) (cap : Nat) (l : List Nat) (n₀ : Nat) (h40 : l.length ≤ 1099511627776) (hall : ∀ i, i < l.length → wd l i < n) (w : World) (hw : IsInts n₀ w a l) :
    Calls Tryd.prog 7 #[.int .i64 n, .slice a l.length cap] w fun e w' => e = .returned (.bool true) ∧ w' = w := by
  go_enter Tryd.func7, Tryd.ntmps7
  go_wp2
  go_loop [9] (fun i => ∃ k : Nat, k ≤ l.length ∧ i = .int .i64 k) (fun i => l.length - (intOf i).toNat)
  case atStart => exact ⟨0, Nat.zero_le _, rfl⟩
  case round =>
    obtain ⟨k, hk, rfl⟩ := hrel
    by_cases hlt : k < l.length
    · obtain ⟨b, off, rfl, hb, hc⟩ := hw.at hlt
      have hck := hc k hlt
      clear hc
      have hx := hall k hlt
      have hd : decide (((wd l k : Nat) : Int) < 0) = false := by simp
      go_wp2
      go_round
      case rel => exact ⟨k + 1, by omega, by go_num⟩
      case measure => simp [intOf]; omega
    · go_wp2
      go_ret
      exact ⟨rfl, rfl⟩
end Go.Proofs.YtjbfjdijgfhjfaaDoor
