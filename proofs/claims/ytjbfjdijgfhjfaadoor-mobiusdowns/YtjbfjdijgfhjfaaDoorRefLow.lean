/- Contracts: the document's Outside, Below; the program's within. -/
import Derived.Test.YtjbfjdijgfhjfaaDoorMarks
import Derived.Test.YtjbfjdijgfhjfaaDoorPlain
import Derived.Deep.QuietTactic
import Derived.BigQuiet
namespace Go.Proofs.YtjbfjdijgfhjfaaDoor
open Go.RowKit Go.Shelf

set_option maxHeartbeats 400000 in
theorem Outside_any (x n : Nat) (hx : x < 4294967296) (hn : n ≤ 16) (w : World) :
    Calls Tryd.prog 45 #[.int .u32 x, .int .i64 n] w fun e w' => e = .returned (.bool (outsideB x n)) ∧ w' = w := by
  go_enter Tryd.func45, Tryd.ntmps45
  go_wp2
  go_loop [5] (fun i => ∃ k : Nat, n ≤ k ∧ k ≤ 32 ∧ i = .int .i64 k ∧ ∀ j, j < k → n ≤ j → hasB x j = false) (fun i => 32 - (intOf i).toNat)
  case atStart => exact ⟨n, Nat.le_refl _, by omega, rfl, fun j h1 h2 => by omega⟩
  case round =>
    obtain ⟨k, hk1, hk2, rfl, hall⟩ := hrel
    by_cases hlt : k < 32
    · cases hb : hasB x k with
      | true =>
        go_wp2_with (go_at_call 29; refine (Bit_any _ _ (by omega) (by omega) _).mono ?_; rintro e w' ⟨rfl, rfl⟩)
        go_ret
        exact ⟨ret_bool (outsideB_true ⟨k, hlt, hk1, hb⟩).symm, rfl⟩
      | false =>
        go_wp2_with (go_at_call 29; refine (Bit_any _ _ (by omega) (by omega) _).mono ?_; rintro e w' ⟨rfl, rfl⟩)
        go_round
        case rel => exact ⟨k + 1, by omega, by omega, by go_num, fun j h1 h2 => by
          by_cases e : j = k
          · rw [e]; exact hb
          · exact hall j (by omega) h2⟩
        case measure => simp [intOf]; omega
    · go_wp2
      go_ret
      exact ⟨ret_bool (outsideB_false.2 fun i h1 h2 => hall i (by omega) h2).symm, rfl⟩

theorem Below_any (n : Int) (a : Option Addr) (cap : Nat) (us : List Nat) (i j n₀ : Nat) (hf : Fit us) (hi : i < us.length) (hj : j < 32) (w : World) (hw : IsWords n₀ w a us) (hn : n₀ ≤ w.heap.size) :
    Calls Tryd.prog 46 #[.agg #[.int .i64 n, .slice a us.length cap], .int .i64 i, .int .i64 j] w fun e w' => e = .returned (.bool (hasB (wd us i) j)) ∧ Below w.heap.size w w' := by
  obtain ⟨b, off, rfl, hb, hc⟩ := hw.at hi
  have hci := hc i hi
  have hfi := hf i
  have hbw : b < w.heap.size := by omega
  clear hc
  go_enter Tryd.func46, Tryd.ntmps46
  go_wp2_with (go_at_call 29; refine (Bit_any _ _ hfi (by omega) _).mono ?_; rintro e w' ⟨rfl, rfl⟩)
  go_ret
  exact ⟨rfl, (Below.refl _ _).alloc (Nat.le_refl _) _⟩

set_option maxHeartbeats 400000 in
theorem within_any (a : Option Addr) (cap : Nat) (us : List Nat) (n₀ : Nat) (hf : Fit us) (hl : us.length ≤ 16) (w : World) (hw : IsWords n₀ w a us) :
    Calls Tryd.prog 38 #[.slice a us.length cap] w fun e w' => e = .returned (.bool (insideB us)) ∧ w' = w := by
  go_enter Tryd.func38, Tryd.ntmps38
  go_wp2
  go_loop [7] (fun i => ∃ k : Nat, k ≤ us.length ∧ i = .int .i64 k ∧ ∀ j, j < k → andN (wd us j) (allW us.length) = 0) (fun i => us.length - (intOf i).toNat)
  case atStart => exact ⟨0, Nat.zero_le _, rfl, fun j h1 => by omega⟩
  case round =>
    obtain ⟨k, hk2, rfl, hall⟩ := hrel
    by_cases hlt : k < us.length
    · obtain ⟨b, off, rfl, hb, hc⟩ := hw.at hlt
      have hci := hc k hlt
      have hbits := bits_andN32 (wd us k) (allW us.length) (hf k) (allW_lt (by omega))
      by_cases hz : andN (wd us k) (allW us.length) = 0
      · rw [hz] at hbits
        have Hz := hide hz; clear hz hc
        go_wp2_with (go_at_call 53; refine (all_any _ (by omega) _).mono ?_; rintro e w' ⟨rfl, rfl⟩)
        go_round
        case rel => exact ⟨k + 1, by omega, by go_num, fun j h1 => by
          by_cases e : j = k
          · rw [e]; exact Hz.out
          · exact hall j (by omega)⟩
        case measure => simp [intOf]; omega
      · have hne : (((andN (wd us k) (allW us.length) : Nat) : Int) != 0) = true := by rw [bne_iff_ne]; omega
        clear hc
        go_wp2_with (go_at_call 53; refine (all_any _ (by omega) _).mono ?_; rintro e w' ⟨rfl, rfl⟩)
        go_ret
        exact ⟨ret_bool (insideB_false.2 fun h => hz ((inside_iff hf).1 h k hlt)).symm, rfl⟩
    · go_wp2
      go_ret
      exact ⟨ret_bool (insideB_true.2 ((inside_iff hf).2 fun i hi => hall i (by omega))).symm, rfl⟩
end Go.Proofs.YtjbfjdijgfhjfaaDoor
