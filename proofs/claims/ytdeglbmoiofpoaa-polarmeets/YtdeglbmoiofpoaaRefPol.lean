/- The contracts of the document's PolarCheck, PolarUp, PolarDown. -/
import Derived.Test.YtdeglbmoiofpoaaPolLow
import Derived.Test.YtdeglbmoiofpoaaRefLow
namespace Go.Proofs.Ytdeglbmoiofpoaa
open Go.RowKit Go.Shelf

/-- have all of the set's rows among the first k the column j? -/
def allB (us : List Nat) (s j : Nat) : Nat → Bool
  | 0 => true
  | k + 1 => allB us s j k && !(hasB s k && !hasB (wd us k) j)
theorem allB_iff (us : List Nat) (s j : Nat) : ∀ k, allB us s j k = true ↔ ∀ i, i < k → hasB s i = true → hasB (wd us i) j = true
  | 0 => by simp [allB]
  | k + 1 => by
    unfold allB
    rw [Bool.and_eq_true, allB_iff us s j k]
    constructor
    · rintro ⟨h1, h2⟩ i hi hs
      by_cases e : i = k
      · subst e; rw [hs] at h2; simpa using h2
      · exact h1 i (by omega) hs
    · intro h
      refine ⟨fun i hi => h i (by omega), ?_⟩
      cases hs : hasB s k with
      | false => rfl
      | true => rw [h k (by omega) hs]; rfl
theorem up_ref (n : Nat) (us : List Nat) (s : Nat) : wordOf (fun j => allB us s j us.length) n = upW n us s := word_ext' fun j => by
  rw [hasB_wordOf, Bool.and_eq_true, decide_eq_true_iff, allB_iff, mem_up]
theorem dn_ref (us : List Nat) {c : Nat} (hc : c < 4294967296) : wordOf (fun i => decide (andW (wd us i) c = c)) us.length = dnW us c := word_ext' fun i => by
  rw [hasB_wordOf, Bool.and_eq_true, decide_eq_true_iff, decide_eq_true_iff, sub_and, mem_dn hc]

set_option maxRecDepth 100000 in
set_option maxHeartbeats 1000000 in
theorem RefPCheck_any (n : Int) (a : Option Addr) (cap : Nat) (us : List Nat) (n₀ : Nat) (w : World) (hR : Rdy a us n₀ w) :
    Calls Try.prog 6 #[.agg #[.slice a us.length cap, .int .i64 n]] w fun e w' => e = .returned (.int .i64 (codeC n us)) ∧ Below w.heap.size w w' := by
  obtain ⟨r0, hb0, hs0⟩ := one_row w 24 (.slice a us.length cap) (.int .i64 n) rfl
  have R1 := hR.step hb0
  have c0 := r0.cell (i := 0) rfl
  have c1 := r0.cell (i := 1) rfl
  have Hb := hide hb0
  clear hb0
  by_cases hl : 16 < us.length ∨ n < 0 ∨ 16 < n
  · have Hc := hide (codeC_large hl)
    go_enter Try.func6, Try.ntmps6
    go_wp2_with fail
    all_goals first
      | (exfalso; omega)
      | (go_ret; exact ⟨ret_int Hc.out.symm, Hb.out⟩)
  · obtain ⟨m, rfl⟩ : ∃ m : Nat, n = m := ⟨n.toNat, by omega⟩
    have hl16 : us.length ≤ 16 := by omega
    have hm16 : m ≤ 16 := by omega
    have d1 : decide ((16 : Int) < (us.length : Int)) = false := decide_eq_false (by omega)
    have d2 : decide ((m : Int) < 0) = false := decide_eq_false (by omega)
    have d3 : decide ((16 : Int) < (m : Int)) = false := decide_eq_false (by omega)
    clear hl
    go_enter Try.func6, Try.ntmps6
    go_wp2_with fail
    go_loop [22] (fun i => ∃ k : Nat, k ≤ us.length ∧ i = .int .i64 k ∧ ∀ j, j < k → outsideB (wd us j) m = false) (fun i => us.length - (intOf i).toNat)
    case atStart => exact ⟨0, Nat.zero_le _, rfl, fun j h => by omega⟩
    case round =>
      obtain ⟨k, hk, rfl, hall⟩ := hrel
      by_cases hlt : k < us.length
      · obtain ⟨b, off, rfl, hb, hcc⟩ := R1.wds.at hlt
        have hci := hcc k hlt
        have hbe := Outside_any (wd us k) m (R1.fit k) hm16
        clear hcc
        have hcs : outsideB (wd us k) m = false ∨ outsideB (wd us k) m = true := by cases outsideB (wd us k) m <;> simp
        rcases hcs with ho | ho
        · rw [ho] at hbe
          have Ho := hide ho
          clear ho
          go_wp2_with (go_at_call 15; refine (hbe _).mono ?_; rintro e w' ⟨rfl, rfl⟩)
          go_round
          case rel => exact ⟨k + 1, by omega, by go_num, fun j h1 => by
            by_cases e : j = k
            · rw [e]; exact Ho.out
            · exact hall j (by omega)⟩
          case measure => simp [intOf]; omega
        · rw [ho] at hbe
          have Hc := hide (codeC_out hl16 hm16 (outAny_true hlt ho))
          clear ho
          go_wp2_with (go_at_call 15; refine (hbe _).mono ?_; rintro e w' ⟨rfl, rfl⟩)
          go_ret
          exact ⟨ret_int Hc.out.symm, Hb.out⟩
      · obtain rfl : k = us.length := by omega
        have Hc := hide (codeC_ok hl16 hm16 (outAny_false.2 hall))
        go_wp2
        go_ret
        exact ⟨ret_int Hc.out.symm, Hb.out⟩

set_option maxRecDepth 100000 in
set_option maxHeartbeats 1000000 in
theorem RefPUp_any (n : Nat) (hn : n ≤ 16) (a : Option Addr) (cap : Nat) (us : List Nat) (hl : us.length ≤ 16) (s : Nat) (hs : s < 4294967296) (n₀ : Nat) (w : World) (hR : Rdy a us n₀ w) :
    Calls Try.prog 16 #[.agg #[.slice a us.length cap, .int .i64 n], .int .u32 s] w fun e w' => e = .returned (.int .u32 (upW n us s : Nat)) ∧ Below w.heap.size w w' := by
  obtain ⟨r0, hb0, hs0⟩ := one_row w 24 (.slice a us.length cap) (.int .i64 n) rfl
  have R1 := hR.step hb0
  have c0 := r0.cell (i := 0) rfl
  have c1 := r0.cell (i := 1) rfl
  have Hb := hide hb0
  have He := hide (up_ref n us s)
  clear hb0
  go_enter Try.func16, Try.ntmps16
  go_wp2_with fail
  go_loop [5, 6] (fun x i => ∃ k : Nat, k ≤ n ∧ i = .int .i64 k ∧ x = .int .u32 (wordOf (fun j => allB us s j us.length) k : Nat)) (fun _ i => n - (intOf i).toNat)
  case atStart => exact ⟨0, Nat.zero_le _, rfl, rfl⟩
  case round =>
    obtain ⟨k, hk, rfl, rfl⟩ := hrel
    by_cases hlt : k < n
    · have hst : wordOf (fun j => allB us s j us.length) (k + 1) = if allB us s k us.length then orW (wordOf (fun j => allB us s j us.length) k) (bitW k) else wordOf (fun j => allB us s j us.length) k := rfl
      have hwl := wordOf_lt (fun j => allB us s j us.length) (k := k) (by omega)
      have Hst := hide hst
      clear hst
      generalize wordOf (fun j => allB us s j us.length) k = x at *
      have hbr := bit_raw (i := k) (by omega)
      have hbl := bitW_lt (i := k) (by omega)
      have hor := bits_or32 x (bitW k) hwl hbl
      go_wp2
      go_loop [7, 8] (fun y j => ∃ j' : Nat, j' ≤ us.length ∧ j = .int .i64 j' ∧ y = .bool (allB us s k j')) (fun _ j => us.length - (intOf j).toNat)
      case atStart => exact ⟨0, Nat.zero_le _, rfl, rfl⟩
      case round =>
        obtain ⟨j, hj, rfl, rfl⟩ := hrel
        by_cases hlj : j < us.length
        · obtain ⟨b, off, rfl, hb, hcc⟩ := R1.wds.at hlj
          have hci := hcc j hlj
          have hss : allB us s k (j + 1) = (allB us s k j && !(hasB s j && !hasB (wd us j) k)) := rfl
          have hbit := fun W : World => Bit_any s j hs (by omega) W
          have hbit2 := fun W : World => Bit_any (wd us j) k (R1.fit j) (by omega) W
          clear hcc
          have hsj : hasB s j = false ∨ hasB s j = true := by cases hasB s j <;> simp
          have hbj : hasB (wd us j) k = false ∨ hasB (wd us j) k = true := by cases hasB (wd us j) k <;> simp
          rcases hsj with hsj | hsj
          · have HS : Hid (allB us s k (j + 1) = allB us s k j) := by rw [hss, hsj]; simp [Hid]
            rw [hsj] at hbit
            clear hss hsj hbj
            go_wp2_with (go_at_call 8; refine (hbit _).mono ?_; rintro e w1 ⟨rfl, hww⟩; rw [hww]; clear hww w1)
            go_round
            case rel => exact ⟨j + 1, by omega, by go_num, by rw [HS.out]⟩
            case measure => simp [intOf]; omega
          · rcases hbj with hbj | hbj
            · have HS : Hid (allB us s k (j + 1) = false) := by rw [hss, hsj, hbj]; simp [Hid]
              rw [hsj] at hbit
              simp only [hbj] at hbit2
              clear hss hsj hbj
              go_wp2_with (go_at_call 8; (first | (refine (hbit _).mono ?_; clear hbit) | (refine (hbit2 _).mono ?_; clear hbit2)); rintro e w1 ⟨rfl, hww⟩; rw [hww]; clear hww w1)
              go_round
              case rel => exact ⟨j + 1, by omega, by go_num, by rw [HS.out]⟩
              case measure => simp [intOf]; omega
            · have HS : Hid (allB us s k (j + 1) = allB us s k j) := by rw [hss, hsj, hbj]; simp [Hid]
              rw [hsj] at hbit
              simp only [hbj] at hbit2
              clear hss hsj hbj
              go_wp2_with (go_at_call 8; (first | (refine (hbit _).mono ?_; clear hbit) | (refine (hbit2 _).mono ?_; clear hbit2)); rintro e w1 ⟨rfl, hww⟩; rw [hww]; clear hww w1)
              go_round
              case rel => exact ⟨j + 1, by omega, by go_num, by rw [HS.out]⟩
              case measure => simp [intOf]; omega
        · obtain rfl : j = us.length := by omega
          have hcs : allB us s k us.length = false ∨ allB us s k us.length = true := by cases allB us s k us.length <;> simp
          rcases hcs with ho | ho
          · have HS : Hid (wordOf (fun j => allB us s j us.length) (k + 1) = x) := by have := Hst.out; rw [ho, if_neg (by simp)] at this; exact this
            rw [ho]
            go_wp2
            go_round
            case rel => exact ⟨k + 1, by omega, by go_num, by rw [HS.out]⟩
            case measure => simp [intOf]; omega
          · have HS : Hid (wordOf (fun j => allB us s j us.length) (k + 1) = orW x (bitW k)) := by have := Hst.out; rw [ho, if_pos rfl] at this; exact this
            rw [ho]
            go_wp2
            go_round
            case rel => exact ⟨k + 1, by omega, by go_num, by rw [HS.out]⟩
            case measure => simp [intOf]; omega
    · obtain rfl : k = n := by omega
      go_wp2
      go_ret
      exact ⟨ret_int (by rw [He.out]), Hb.out⟩

set_option maxRecDepth 100000 in
set_option maxHeartbeats 1000000 in
theorem RefPDown_any (n : Int) (a : Option Addr) (cap : Nat) (us : List Nat) (hl : us.length ≤ 16) (s : Nat) (hs : s < 4294967296) (n₀ : Nat) (w : World) (hR : Rdy a us n₀ w) :
    Calls Try.prog 17 #[.agg #[.slice a us.length cap, .int .i64 n], .int .u32 s] w fun e w' => e = .returned (.int .u32 (dnW us s : Nat)) ∧ Below w.heap.size w w' := by
  obtain ⟨r0, hb0, hs0⟩ := one_row w 24 (.slice a us.length cap) (.int .i64 n) rfl
  have R1 := hR.step hb0
  have c0 := r0.cell (i := 0) rfl
  have Hb := hide hb0
  have He := hide (dn_ref us hs)
  clear hb0
  go_enter Try.func17, Try.ntmps17
  go_wp2_with fail
  go_loop [5, 6] (fun x i => ∃ k : Nat, k ≤ us.length ∧ i = .int .i64 k ∧ x = .int .u32 (wordOf (fun i => decide (andW (wd us i) s = s)) k : Nat)) (fun _ i => us.length - (intOf i).toNat)
  case atStart => exact ⟨0, Nat.zero_le _, rfl, rfl⟩
  case round =>
    obtain ⟨k, hk, rfl, rfl⟩ := hrel
    by_cases hlt : k < us.length
    · obtain ⟨b, off, rfl, hb, hcc⟩ := R1.wds.at hlt
      have hci := hcc k hlt
      have hand := bits_and32 (wd us k) s (R1.fit k) hs
      have hwl := wordOf_lt (fun i => decide (andW (wd us i) s = s)) (k := k) (by omega)
      have hbr := bit_raw (i := k) (by omega)
      have hor := bits_or32 _ _ hwl (bitW_lt (i := k) (by omega))
      have hst : wordOf (fun i => decide (andW (wd us i) s = s)) (k + 1) = if decide (andW (wd us k) s = s) then orW (wordOf (fun i => decide (andW (wd us i) s = s)) k) (bitW k) else wordOf (fun i => decide (andW (wd us i) s = s)) k := rfl
      clear hcc
      by_cases ho : andW (wd us k) s = s
      · rw [ho] at hand
        rw [decide_eq_true ho, if_pos rfl] at hst
        have Hst := hide hst
        clear hst ho
        go_wp2
        go_round
        case rel => exact ⟨k + 1, by omega, by go_num, by rw [Hst.out]⟩
        case measure => simp [intOf]; omega
      · have hne : (((andW (wd us k) s : Nat) : Int) == (s : Int)) = false := by rw [beq_eq_false_iff_ne]; omega
        rw [decide_eq_false ho, if_neg (by simp)] at hst
        have Hst := hide hst
        clear hst ho
        go_wp2
        go_round
        case rel => exact ⟨k + 1, by omega, by go_num, by rw [Hst.out]⟩
        case measure => simp [intOf]; omega
    · obtain rfl : k = us.length := by omega
      go_wp2
      go_ret
      exact ⟨ret_int (by rw [He.out]), Hb.out⟩
end Go.Proofs.Ytdeglbmoiofpoaa
