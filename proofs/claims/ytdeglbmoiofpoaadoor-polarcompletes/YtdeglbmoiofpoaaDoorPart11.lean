/- Contracts: the document's Outside, Below; the program's within. The contracts of the document's PolarCheck, PolarUp, PolarDown. -/
import Derived.Test.YtdeglbmoiofpoaaDoorPart2
import Derived.Test.YtdeglbmoiofpoaaDoorPart3
import Derived.Deep.QuietTactic
import Derived.BigQuiet
import Derived.Test.YtdeglbmoiofpoaaDoorPart6
namespace Go.Proofs.YtdeglbmoiofpoaaDoor
open Go.RowKit Go.Shelf

set_option maxHeartbeats 400000 in
theorem Outside_any (x n : Nat) (hx : x < 4294967296) (hn : n ≤ 16) (w : World) :
    Calls Tryd.prog 37 #[.int .u32 x, .int .i64 n] w fun e w' => e = .returned (.bool (outsideB x n)) ∧ w' = w := by
  go_enter Tryd.func37, Tryd.ntmps37
  go_wp2
  go_loop [5] (fun i => ∃ k : Nat, n ≤ k ∧ k ≤ 32 ∧ i = .int .i64 k ∧ ∀ j, j < k → n ≤ j → hasB x j = false) (fun i => 32 - (intOf i).toNat)
  case atStart => exact ⟨n, Nat.le_refl _, by omega, rfl, fun j h1 h2 => by omega⟩
  case round =>
    obtain ⟨k, hk1, hk2, rfl, hall⟩ := hrel
    by_cases hlt : k < 32
    · cases hb : hasB x k with
      | true =>
        go_wp2_with (go_at_call 44; refine (Bit_any _ _ (by omega) (by omega) _).mono ?_; rintro e w' ⟨rfl, rfl⟩)
        go_ret
        exact ⟨ret_bool (outsideB_true ⟨k, hlt, hk1, hb⟩).symm, rfl⟩
      | false =>
        go_wp2_with (go_at_call 44; refine (Bit_any _ _ (by omega) (by omega) _).mono ?_; rintro e w' ⟨rfl, rfl⟩)
        go_round
        case rel => exact ⟨k + 1, by omega, by omega, by go_num, fun j h1 h2 => by
          by_cases e : j = k
          · rw [e]; exact hb
          · exact hall j (by omega) h2⟩
        case measure => simp [intOf]; omega
    · go_wp2
      go_ret
      exact ⟨ret_bool (outsideB_false.2 fun i h1 h2 => hall i (by omega) h2).symm, rfl⟩

theorem Below_any (n : Int) (a : Option Addr) (cap : Nat) (us : List Nat) (i j n₀ : Nat) (hf : Fit us) (hi : i < us.length) (hj : j < 32) (w : World) (hw : IsWords n₀ w a us) (hn : n₀ ≤ w.heap.size) :
    Calls Tryd.prog 38 #[.agg #[.int .i64 n, .slice a us.length cap], .int .i64 i, .int .i64 j] w fun e w' => e = .returned (.bool (hasB (wd us i) j)) ∧ Below w.heap.size w w' := by
  obtain ⟨b, off, rfl, hb, hc⟩ := hw.at hi
  have hci := hc i hi
  have hfi := hf i
  have hbw : b < w.heap.size := by omega
  clear hc
  go_enter Tryd.func38, Tryd.ntmps38
  go_wp2_with (go_at_call 44; refine (Bit_any _ _ hfi (by omega) _).mono ?_; rintro e w' ⟨rfl, rfl⟩)
  go_ret
  exact ⟨rfl, (Below.refl _ _).alloc (Nat.le_refl _) _⟩

set_option maxHeartbeats 400000 in
theorem within_any (a : Option Addr) (cap : Nat) (us : List Nat) (n₀ : Nat) (hf : Fit us) (hl : us.length ≤ 16) (w : World) (hw : IsWords n₀ w a us) :
    Calls Tryd.prog 69 #[.slice a us.length cap] w fun e w' => e = .returned (.bool (insideB us)) ∧ w' = w := by
  go_enter Tryd.func69, Tryd.ntmps69
  go_wp2
  go_loop [7] (fun i => ∃ k : Nat, k ≤ us.length ∧ i = .int .i64 k ∧ ∀ j, j < k → andN (wd us j) (allW us.length) = 0) (fun i => us.length - (intOf i).toNat)
  case atStart => exact ⟨0, Nat.zero_le _, rfl, fun j h1 => by omega⟩
  case round =>
    obtain ⟨k, hk2, rfl, hall⟩ := hrel
    by_cases hlt : k < us.length
    · obtain ⟨b, off, rfl, hb, hc⟩ := hw.at hlt
      have hci := hc k hlt
      have hbits := bits_andN32 (wd us k) (allW us.length) (hf k) (allW_lt (by omega))
      by_cases hz : andN (wd us k) (allW us.length) = 0
      · rw [hz] at hbits
        have Hz := hide hz; clear hz hc
        go_wp2_with (go_at_call 88; refine (all_any _ (by omega) _).mono ?_; rintro e w' ⟨rfl, rfl⟩)
        go_round
        case rel => exact ⟨k + 1, by omega, by go_num, fun j h1 => by
          by_cases e : j = k
          · rw [e]; exact Hz.out
          · exact hall j (by omega)⟩
        case measure => simp [intOf]; omega
      · have hne : (((andN (wd us k) (allW us.length) : Nat) : Int) != 0) = true := by rw [bne_iff_ne]; omega
        clear hc
        go_wp2_with (go_at_call 88; refine (all_any _ (by omega) _).mono ?_; rintro e w' ⟨rfl, rfl⟩)
        go_ret
        exact ⟨ret_bool (insideB_false.2 fun h => hz ((inside_iff hf).1 h k hlt)).symm, rfl⟩
    · go_wp2
      go_ret
      exact ⟨ret_bool (insideB_true.2 ((inside_iff hf).2 fun i hi => hall i (by omega))).symm, rfl⟩
end Go.Proofs.YtdeglbmoiofpoaaDoor

namespace Go.Proofs.YtdeglbmoiofpoaaDoor
open Go.RowKit Go.Shelf

/-- have all of the set's rows among the first k the column j? -/
def allB (us : List Nat) (s j : Nat) : Nat → Bool
  | 0 => true
  | k + 1 => allB us s j k && !(hasB s k && !hasB (wd us k) j)
theorem allB_iff (us : List Nat) (s j : Nat) : ∀ k, allB us s j k = true ↔ ∀ i, i < k → hasB s i = true → hasB (wd us i) j = true
  | 0 => by simp [allB]
  | k + 1 => by
    unfold allB
    rw [Bool.and_eq_true, allB_iff us s j k]
    constructor
    · rintro ⟨h1, h2⟩ i hi hs
      by_cases e : i = k
      · subst e; rw [hs] at h2; simpa using h2
      · exact h1 i (by omega) hs
    · intro h
      refine ⟨fun i hi => h i (by omega), ?_⟩
      cases hs : hasB s k with
      | false => rfl
      | true => rw [h k (by omega) hs]; rfl
theorem up_ref (n : Nat) (us : List Nat) (s : Nat) : wordOf (fun j => allB us s j us.length) n = upW n us s := word_ext' fun j => by
  rw [hasB_wordOf, Bool.and_eq_true, decide_eq_true_iff, allB_iff, mem_up]
theorem dn_ref (us : List Nat) {c : Nat} (hc : c < 4294967296) : wordOf (fun i => decide (andW (wd us i) c = c)) us.length = dnW us c := word_ext' fun i => by
  rw [hasB_wordOf, Bool.and_eq_true, decide_eq_true_iff, decide_eq_true_iff, sub_and, mem_dn hc]

set_option maxRecDepth 100000 in
set_option maxHeartbeats 1000000 in
theorem RefPUp_any (n : Nat) (hn : n ≤ 16) (a : Option Addr) (cap : Nat) (us : List Nat) (hl : us.length ≤ 16) (s : Nat) (hs : s < 4294967296) (n₀ : Nat) (w : World) (hR : Rdy a us n₀ w) :
    Calls Tryd.prog 67 #[.agg #[.slice a us.length cap, .int .i64 n], .int .u32 s] w fun e w' => e = .returned (.int .u32 (upW n us s : Nat)) ∧ Below w.heap.size w w' := by
  obtain ⟨r0, hb0, hs0⟩ := one_row w 62 (.slice a us.length cap) (.int .i64 n) rfl
  have R1 := hR.step hb0
  have c0 := r0.cell (i := 0) rfl
  have c1 := r0.cell (i := 1) rfl
  have Hb := hide hb0
  have He := hide (up_ref n us s)
  clear hb0
  go_enter Tryd.func67, Tryd.ntmps67
  go_wp2_with fail
  go_loop [5, 6] (fun x i => ∃ k : Nat, k ≤ n ∧ i = .int .i64 k ∧ x = .int .u32 (wordOf (fun j => allB us s j us.length) k : Nat)) (fun _ i => n - (intOf i).toNat)
  case atStart => exact ⟨0, Nat.zero_le _, rfl, rfl⟩
  case round =>
    obtain ⟨k, hk, rfl, rfl⟩ := hrel
    by_cases hlt : k < n
    · have hst : wordOf (fun j => allB us s j us.length) (k + 1) = if allB us s k us.length then orW (wordOf (fun j => allB us s j us.length) k) (bitW k) else wordOf (fun j => allB us s j us.length) k := rfl
      have hwl := wordOf_lt (fun j => allB us s j us.length) (k := k) (by omega)
      have Hst := hide hst
      clear hst
      generalize wordOf (fun j => allB us s j us.length) k = x at *
      have hbr := bit_raw (i := k) (by omega)
      have hbl := bitW_lt (i := k) (by omega)
      have hor := bits_or32 x (bitW k) hwl hbl
      go_wp2
      go_loop [7, 8] (fun y j => ∃ j' : Nat, j' ≤ us.length ∧ j = .int .i64 j' ∧ y = .bool (allB us s k j')) (fun _ j => us.length - (intOf j).toNat)
      case atStart => exact ⟨0, Nat.zero_le _, rfl, rfl⟩
      case round =>
        obtain ⟨j, hj, rfl, rfl⟩ := hrel
        by_cases hlj : j < us.length
        · obtain ⟨b, off, rfl, hb, hcc⟩ := R1.wds.at hlj
          have hci := hcc j hlj
          have hss : allB us s k (j + 1) = (allB us s k j && !(hasB s j && !hasB (wd us j) k)) := rfl
          have hbit := fun W : World => Bit_any s j hs (by omega) W
          have hbit2 := fun W : World => Bit_any (wd us j) k (R1.fit j) (by omega) W
          clear hcc
          have hsj : hasB s j = false ∨ hasB s j = true := by cases hasB s j <;> simp
          have hbj : hasB (wd us j) k = false ∨ hasB (wd us j) k = true := by cases hasB (wd us j) k <;> simp
          rcases hsj with hsj | hsj
          · have HS : Hid (allB us s k (j + 1) = allB us s k j) := by rw [hss, hsj]; simp [Hid]
            rw [hsj] at hbit
            clear hss hsj hbj
            go_wp2_with (go_at_call 44; refine (hbit _).mono ?_; rintro e w1 ⟨rfl, hww⟩; rw [hww]; clear hww w1)
            go_round
            case rel => exact ⟨j + 1, by omega, by go_num, by rw [HS.out]⟩
            case measure => simp [intOf]; omega
          · rcases hbj with hbj | hbj
            · have HS : Hid (allB us s k (j + 1) = false) := by rw [hss, hsj, hbj]; simp [Hid]
              rw [hsj] at hbit
              simp only [hbj] at hbit2
              clear hss hsj hbj
              go_wp2_with (go_at_call 44; (first | (refine (hbit _).mono ?_; clear hbit) | (refine (hbit2 _).mono ?_; clear hbit2)); rintro e w1 ⟨rfl, hww⟩; rw [hww]; clear hww w1)
              go_round
              case rel => exact ⟨j + 1, by omega, by go_num, by rw [HS.out]⟩
              case measure => simp [intOf]; omega
            · have HS : Hid (allB us s k (j + 1) = allB us s k j) := by rw [hss, hsj, hbj]; simp [Hid]
              rw [hsj] at hbit
              simp only [hbj] at hbit2
              clear hss hsj hbj
              go_wp2_with (go_at_call 44; (first | (refine (hbit _).mono ?_; clear hbit) | (refine (hbit2 _).mono ?_; clear hbit2)); rintro e w1 ⟨rfl, hww⟩; rw [hww]; clear hww w1)
              go_round
              case rel => exact ⟨j + 1, by omega, by go_num, by rw [HS.out]⟩
              case measure => simp [intOf]; omega
        · obtain rfl : j = us.length := by omega
          have hcs : allB us s k us.length = false ∨ allB us s k us.length = true := by cases allB us s k us.length <;> simp
          rcases hcs with ho | ho
          · have HS : Hid (wordOf (fun j => allB us s j us.length) (k + 1) = x) := by have := Hst.out; rw [ho, if_neg (by simp)] at this; exact this
            rw [ho]
            go_wp2
            go_round
            case rel => exact ⟨k + 1, by omega, by go_num, by rw [HS.out]⟩
            case measure => simp [intOf]; omega
          · have HS : Hid (wordOf (fun j => allB us s j us.length) (k + 1) = orW x (bitW k)) := by have := Hst.out; rw [ho, if_pos rfl] at this; exact this
            rw [ho]
            go_wp2
            go_round
            case rel => exact ⟨k + 1, by omega, by go_num, by rw [HS.out]⟩
            case measure => simp [intOf]; omega
    · obtain rfl : k = n := by omega
      go_wp2
      go_ret
      exact ⟨ret_int (by rw [He.out]), Hb.out⟩

set_option maxRecDepth 100000 in
set_option maxHeartbeats 1000000 in
theorem RefPDown_any (n : Int) (a : Option Addr) (cap : Nat) (us : List Nat) (hl : us.length ≤ 16) (s : Nat) (hs : s < 4294967296) (n₀ : Nat) (w : World) (hR : Rdy a us n₀ w) :
    Calls Tryd.prog 68 #[.agg #[.slice a us.length cap, .int .i64 n], .int .u32 s] w fun e w' => e = .returned (.int .u32 (dnW us s : Nat)) ∧ Below w.heap.size w w' := by
  obtain ⟨r0, hb0, hs0⟩ := one_row w 62 (.slice a us.length cap) (.int .i64 n) rfl
  have R1 := hR.step hb0
  have c0 := r0.cell (i := 0) rfl
  have Hb := hide hb0
  have He := hide (dn_ref us hs)
  clear hb0
  go_enter Tryd.func68, Tryd.ntmps68
  go_wp2_with fail
  go_loop [5, 6] (fun x i => ∃ k : Nat, k ≤ us.length ∧ i = .int .i64 k ∧ x = .int .u32 (wordOf (fun i => decide (andW (wd us i) s = s)) k : Nat)) (fun _ i => us.length - (intOf i).toNat)
  case atStart => exact ⟨0, Nat.zero_le _, rfl, rfl⟩
  case round =>
    obtain ⟨k, hk, rfl, rfl⟩ := hrel
    by_cases hlt : k < us.length
    · obtain ⟨b, off, rfl, hb, hcc⟩ := R1.wds.at hlt
      have hci := hcc k hlt
      have hand := bits_and32 (wd us k) s (R1.fit k) hs
      have hwl := wordOf_lt (fun i => decide (andW (wd us i) s = s)) (k := k) (by omega)
      have hbr := bit_raw (i := k) (by omega)
      have hor := bits_or32 _ _ hwl (bitW_lt (i := k) (by omega))
      have hst : wordOf (fun i => decide (andW (wd us i) s = s)) (k + 1) = if decide (andW (wd us k) s = s) then orW (wordOf (fun i => decide (andW (wd us i) s = s)) k) (bitW k) else wordOf (fun i => decide (andW (wd us i) s = s)) k := rfl
      clear hcc
      by_cases ho : andW (wd us k) s = s
      · rw [ho] at hand
        rw [decide_eq_true ho, if_pos rfl] at hst
        have Hst := hide hst
        clear hst ho
        go_wp2
        go_round
        case rel => exact ⟨k + 1, by omega, by go_num, by rw [Hst.out]⟩
        case measure => simp [intOf]; omega
      · have hne : (((andW (wd us k) s : Nat) : Int) == (s : Int)) = false := by rw [beq_eq_false_iff_ne]; omega
        rw [decide_eq_false ho, if_neg (by simp)] at hst
        have Hst := hide hst
        clear hst ho
        go_wp2
        go_round
        case rel => exact ⟨k + 1, by omega, by go_num, by rw [Hst.out]⟩
        case measure => simp [intOf]; omega
    · obtain rfl : k = us.length := by omega
      go_wp2
      go_ret
      exact ⟨ret_int (by rw [He.out]), Hb.out⟩
end Go.Proofs.YtdeglbmoiofpoaaDoor
