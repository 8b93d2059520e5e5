/- Slices of ints in memory; the contract of the document's Has. -/
import Derived.Test.YtilffmalkegioaaDoorIntVals
import Derived.Test.YtilffmalkegioaaDoorRefCheck
namespace Go.Proofs.YtilffmalkegioaaDoor
open Go.RowKit Go.Shelf

set_option maxHeartbeats 400000 in
theorem Has_any (a : Option Addr) (cap : Nat) (l : List Nat) (x n₀ : Nat) (h40 : l.length ≤ 1099511627776) (w : World) (hw : IsInts n₀ w a l) :
    Calls Tryd.prog 61 #[.slice a l.length cap, .int .i64 x] w fun e w' => e = .returned (.bool (memB l x)) ∧ w' = w := by
  go_enter Tryd.func61, Tryd.ntmps61
  go_wp2
  go_loop [9] (fun i => ∃ k : Nat, k ≤ l.length ∧ i = .int .i64 k ∧ ∀ j, j < k → wd l j ≠ x) (fun i => l.length - (intOf i).toNat)
  case atStart => exact ⟨0, Nat.zero_le _, rfl, fun j h1 => by omega⟩
  case round =>
    obtain ⟨k, hk, rfl, hall⟩ := hrel
    by_cases hlt : k < l.length
    · obtain ⟨b, off, rfl, hb, hc⟩ := hw.at hlt
      have hck := hc k hlt
      clear hc
      by_cases he : wd l k = x
      · have hd : ((x : Int) == ((wd l k : Nat) : Int)) = true := by rw [beq_iff_eq]; omega
        have Hm := hide (memB_true.2 (he ▸ wd_mem hlt))
        clear he
        go_wp2
        go_ret
        exact ⟨ret_bool Hm.out.symm, rfl⟩
      · have hd : ((x : Int) == ((wd l k : Nat) : Int)) = false := by rw [beq_eq_false_iff_ne]; omega
        have He := hide he
        clear he
        go_wp2
        go_round
        case rel => exact ⟨k + 1, by omega, by go_num, fun j h1 => by
          by_cases e : j = k
          · rw [e]; exact He.out
          · exact hall j (by omega)⟩
        case measure => simp [intOf]; omega
    · go_wp2
      go_ret
      refine ⟨ret_bool (memB_false.2 fun hm => ?_).symm, rfl⟩
      obtain ⟨i, hi, e⟩ := mem_wd hm
      exact hall i (by omega) e
end Go.Proofs.YtilffmalkegioaaDoor
