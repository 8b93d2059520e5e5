/- The contracts of package polar's smallest functions: bit, all, within, beyond, check, columnsOf, rowsOf. The contracts of package polar's Up, Down and Implies. -/
import Derived.Test.YtdeglbmoiofpoaaDoorPart4
import Derived.Test.YtdeglbmoiofpoaaDoorPart5
import Derived.Lib.QuietBelow
import Derived.BigQuiet
namespace Go.Proofs.YtdeglbmoiofpoaaDoor
open Go.RowKit Go.Shelf

theorem pbit_any (i : Nat) (hi : i < 32) (w : World) :
    Calls Tryd.prog 66 #[.int .i64 i] w fun e w' => e = .returned (.int .u32 (bitW i : Nat)) ∧ w' = w := by
  go_enter Tryd.func66, Tryd.ntmps66
  go_wp2
  go_ret
  exact ⟨ret_int (bit_raw hi), rfl⟩
theorem pall_any (n : Nat) (hn : n < 32) (w : World) :
    Calls Tryd.prog 83 #[.int .i64 n] w fun e w' => e = .returned (.int .u32 (allW n : Nat)) ∧ w' = w := by
  go_enter Tryd.func83, Tryd.ntmps83
  go_wp2_with (go_at_call 66; refine (pbit_any _ hn _).mono ?_; rintro e w' ⟨rfl, rfl⟩)
  go_ret
  refine ⟨ret_int ?_, rfl⟩
  have h := bitW_lt hn
  have h0 := bitW_pos n
  have e : allW n = bitW n - 1 := rfl
  rw [e]; omega
theorem pwithin_any (x y : Nat) (hx : x < 4294967296) (hy : y < 4294967296) (w : World) :
    Calls Tryd.prog 35 #[.int .u32 x, .int .u32 y] w fun e w' => e = .returned (.bool (withB x y)) ∧ w' = w := by
  go_enter Tryd.func35, Tryd.ntmps35
  go_wp2
  go_ret
  refine ⟨ret_bool ?_, rfl⟩
  rw [bits_andN32 _ _ hx hy]
  unfold withB
  by_cases h : andN x y = 0
  · rw [h]; rfl
  · rw [decide_eq_false h, beq_eq_false_iff_ne]; omega
theorem pbeyond_any (s n : Nat) (hs : s < 4294967296) (hn : n ≤ 16) (w : World) :
    Calls Tryd.prog 82 #[.int .u32 s, .int .i64 n] w fun e w' => e = .returned (.bool (outsideB s n)) ∧ w' = w := by
  have h := with_out (n := n) hs
  go_enter Tryd.func82, Tryd.ntmps82
  go_wp2_with (first | (go_at_call 83; refine (pall_any _ (by omega) _).mono ?_; rintro e w' ⟨rfl, rfl⟩) | (go_at_call 35; refine (pwithin_any _ _ hs (allW_lt (by omega)) _).mono ?_; rintro e w' ⟨rfl, rfl⟩))
  go_ret
  exact ⟨ret_bool rfl, rfl⟩

/-- what a call is told of the rows that came in -/
structure Rdy (a : Option Addr) (us : List Nat) (n₀ : Nat) (w : World) : Prop where
  fit : Fit us
  wds : IsWords n₀ w a us
  le : n₀ ≤ w.heap.size
theorem Rdy.step {a : Option Addr} {us : List Nat} {n₀ : Nat} {w w' : World} (h : Rdy a us n₀ w) (hb : Below w.heap.size w w') : Rdy a us n₀ w' :=
  ⟨h.fit, h.wds.below (hb.mono h.le), Nat.le_trans h.le hb.size⟩

set_option maxRecDepth 100000 in
set_option maxHeartbeats 1000000 in
theorem pcheck_any (n : Int) (a : Option Addr) (cap : Nat) (us : List Nat) (n₀ : Nat) (w : World) (hR : Rdy a us n₀ w) :
    Calls Tryd.prog 60 #[.agg #[.slice a us.length cap, .int .i64 n]] w fun e w' => e = .returned (.int .i64 (codeC n us)) ∧ Below w.heap.size w w' := by
  obtain ⟨r0, hb0, hs0⟩ := one_row w 62 (.slice a us.length cap) (.int .i64 n) rfl
  have R1 := hR.step hb0
  have c0 := r0.cell (i := 0) rfl
  have c1 := r0.cell (i := 1) rfl
  have Hb := hide hb0
  clear hb0
  by_cases hl : 16 < us.length ∨ n < 0 ∨ 16 < n
  · have Hc := hide (codeC_large hl)
    go_enter Tryd.func60, Tryd.ntmps60
    go_wp2_with fail
    all_goals first
      | (exfalso; omega)
      | (go_ret; exact ⟨ret_int Hc.out.symm, Hb.out⟩)
  · obtain ⟨m, rfl⟩ : ∃ m : Nat, n = m := ⟨n.toNat, by omega⟩
    have hl16 : us.length ≤ 16 := by omega
    have hm16 : m ≤ 16 := by omega
    have d1 : decide ((16 : Int) < (us.length : Int)) = false := decide_eq_false (by omega)
    have d2 : decide ((m : Int) < 0) = false := decide_eq_false (by omega)
    have d3 : decide ((16 : Int) < (m : Int)) = false := decide_eq_false (by omega)
    clear hl
    go_enter Tryd.func60, Tryd.ntmps60
    go_wp2_with fail
    go_loop [22] (fun i => ∃ k : Nat, k ≤ us.length ∧ i = .int .i64 k ∧ ∀ j, j < k → outsideB (wd us j) m = false) (fun i => us.length - (intOf i).toNat)
    case atStart => exact ⟨0, Nat.zero_le _, rfl, fun j h => by omega⟩
    case round =>
      obtain ⟨k, hk, rfl, hall⟩ := hrel
      by_cases hlt : k < us.length
      · obtain ⟨b, off, rfl, hb, hcc⟩ := R1.wds.at hlt
        have hci := hcc k hlt
        have hbe := pbeyond_any (wd us k) m (R1.fit k) hm16
        clear hcc
        have hcs : outsideB (wd us k) m = false ∨ outsideB (wd us k) m = true := by cases outsideB (wd us k) m <;> simp
        rcases hcs with ho | ho
        · rw [ho] at hbe
          have Ho := hide ho
          clear ho
          go_wp2_with (go_at_call 82; refine (hbe _).mono ?_; rintro e w' ⟨rfl, rfl⟩)
          go_round
          case rel => exact ⟨k + 1, by omega, by go_num, fun j h1 => by
            by_cases e : j = k
            · rw [e]; exact Ho.out
            · exact hall j (by omega)⟩
          case measure => simp [intOf]; omega
        · rw [ho] at hbe
          have Hc := hide (codeC_out hl16 hm16 (outAny_true hlt ho))
          clear ho
          go_wp2_with (go_at_call 82; refine (hbe _).mono ?_; rintro e w' ⟨rfl, rfl⟩)
          go_ret
          exact ⟨ret_int Hc.out.symm, Hb.out⟩
      · obtain rfl : k = us.length := by omega
        have Hc := hide (codeC_ok hl16 hm16 (outAny_false.2 hall))
        go_wp2
        go_ret
        exact ⟨ret_int Hc.out.symm, Hb.out⟩

set_option maxRecDepth 100000 in
set_option maxHeartbeats 1000000 in
theorem pcols_any (n : Nat) (hn : n ≤ 16) (a : Option Addr) (cap : Nat) (us : List Nat) (hl : us.length ≤ 16) (s : Nat) (hs : s < 4294967296) (n₀ : Nat) (w : World) (hR : Rdy a us n₀ w) :
    Calls Tryd.prog 62 #[.agg #[.slice a us.length cap, .int .i64 n], .int .u32 s] w fun e w' => e = .returned (.int .u32 (upW n us s : Nat)) ∧ Below w.heap.size w w' := by
  obtain ⟨r0, hb0, hs0⟩ := one_row w 62 (.slice a us.length cap) (.int .i64 n) rfl
  have R1 := hR.step hb0
  have c0 := r0.cell (i := 0) rfl
  have c1 := r0.cell (i := 1) rfl
  have Hb := hide hb0
  clear hb0
  go_enter Tryd.func62, Tryd.ntmps62
  go_wp2_with (go_at_call 83; refine (pall_any _ (by omega) _).mono ?_; rintro e w' ⟨rfl, rfl⟩)
  go_loop [5, 14] (fun x i => ∃ k : Nat, k ≤ us.length ∧ i = .int .i64 k ∧ x = .int .u32 (upK n us s k : Nat)) (fun _ i => us.length - (intOf i).toNat)
  case atStart => exact ⟨0, Nat.zero_le _, rfl, rfl⟩
  case round =>
    obtain ⟨k, hk, rfl, rfl⟩ := hrel
    by_cases hlt : k < us.length
    · obtain ⟨b, off, rfl, hb, hcc⟩ := R1.wds.at hlt
      have hci := hcc k hlt
      have hbits := bits_and32 s (bitW k) hs (bitW_lt (by omega))
      have hbne := and_bit_bne s k
      have hand := bits_and32 _ _ (upK_lt (n := n) (by omega) us s k) (R1.fit k)
      have hst : upK n us s (k + 1) = if hasB s k then andW (upK n us s k) (wd us k) else upK n us s k := rfl
      clear hcc
      have hcs : hasB s k = false ∨ hasB s k = true := by cases hasB s k <;> simp
      rcases hcs with ho | ho
      · rw [ho] at hbne
        rw [ho, if_neg (by simp)] at hst
        have Hst := hide hst
        clear hst ho
        go_wp2_with (go_at_call 66; refine (pbit_any _ (by omega) _).mono ?_; rintro e w' ⟨rfl, rfl⟩)
        go_round
        case rel => exact ⟨k + 1, by omega, by go_num, by rw [Hst.out]⟩
        case measure => simp [intOf]; omega
      · rw [ho] at hbne
        rw [ho, if_pos rfl] at hst
        have Hst := hide hst
        clear hst ho
        go_wp2_with (go_at_call 66; refine (pbit_any _ (by omega) _).mono ?_; rintro e w' ⟨rfl, rfl⟩)
        go_round
        case rel => exact ⟨k + 1, by omega, by go_num, by rw [Hst.out]⟩
        case measure => simp [intOf]; omega
    · obtain rfl : k = us.length := by omega
      go_wp2
      go_ret
      exact ⟨rfl, Hb.out⟩

set_option maxRecDepth 100000 in
set_option maxHeartbeats 1000000 in
theorem prows_any (n : Int) (a : Option Addr) (cap : Nat) (us : List Nat) (hl : us.length ≤ 16) (s : Nat) (hs : s < 4294967296) (n₀ : Nat) (w : World) (hR : Rdy a us n₀ w) :
    Calls Tryd.prog 84 #[.agg #[.slice a us.length cap, .int .i64 n], .int .u32 s] w fun e w' => e = .returned (.int .u32 (dnW us s : Nat)) ∧ Below w.heap.size w w' := by
  obtain ⟨r0, hb0, hs0⟩ := one_row w 62 (.slice a us.length cap) (.int .i64 n) rfl
  have R1 := hR.step hb0
  have c0 := r0.cell (i := 0) rfl
  have Hb := hide hb0
  clear hb0
  go_enter Tryd.func84, Tryd.ntmps84
  go_wp2_with fail
  go_loop [5, 11] (fun x i => ∃ k : Nat, k ≤ us.length ∧ i = .int .i64 k ∧ x = .int .u32 (wordOf (fun i => withB s (wd us i)) k : Nat)) (fun _ i => us.length - (intOf i).toNat)
  case atStart => exact ⟨0, Nat.zero_le _, rfl, rfl⟩
  case round =>
    obtain ⟨k, hk, rfl, rfl⟩ := hrel
    by_cases hlt : k < us.length
    · obtain ⟨b, off, rfl, hb, hcc⟩ := R1.wds.at hlt
      have hci := hcc k hlt
      have hwi := pwithin_any s (wd us k) hs (R1.fit k)
      have hwl := wordOf_lt (fun i => withB s (wd us i)) (k := k) (by omega)
      have hor := bits_or32 _ _ hwl (bitW_lt (i := k) (by omega))
      have hst : wordOf (fun i => withB s (wd us i)) (k + 1) = if withB s (wd us k) then orW (wordOf (fun i => withB s (wd us i)) k) (bitW k) else wordOf (fun i => withB s (wd us i)) k := rfl
      clear hcc
      have hcs : withB s (wd us k) = false ∨ withB s (wd us k) = true := by cases withB s (wd us k) <;> simp
      rcases hcs with ho | ho
      · rw [ho] at hwi
        rw [ho, if_neg (by simp)] at hst
        have Hst := hide hst
        clear hst ho
        go_wp2_with (go_at_call 35; refine (hwi _).mono ?_; rintro e w' ⟨rfl, rfl⟩)
        go_round
        case rel => exact ⟨k + 1, by omega, by go_num, by rw [Hst.out]⟩
        case measure => simp [intOf]; omega
      · rw [ho] at hwi
        rw [ho, if_pos rfl] at hst
        have Hst := hide hst
        clear hst ho
        go_wp2_with (first | (go_at_call 35; refine (hwi _).mono ?_; rintro e w' ⟨rfl, rfl⟩) | (go_at_call 66; refine (pbit_any _ (by omega) _).mono ?_; rintro e w' ⟨rfl, rfl⟩))
        go_round
        case rel => exact ⟨k + 1, by omega, by go_num, by rw [Hst.out]⟩
        case measure => simp [intOf]; omega
    · obtain rfl : k = us.length := by omega
      go_wp2
      go_ret
      exact ⟨rfl, Hb.out⟩
end Go.Proofs.YtdeglbmoiofpoaaDoor

namespace Go.Proofs.YtdeglbmoiofpoaaDoor
open Go.RowKit Go.Shelf

/-- what a call that tells a set answers -/
def polAns (c : Int) (x : Nat) : Ending := .returned (.tuple #[.int .u32 (x : Nat), .int .i64 c])
/-- what a call that tells yes or no answers -/
def polYes (c : Int) (x : Bool) : Ending := .returned (.tuple #[.bool x, .int .i64 c])
/-- what is wrong with a context and a set of m things -/
def codeCS (n : Int) (us : List Nat) (m s : Nat) : Int := if codeC n us ≠ 0 then codeC n us else if outsideB s m = true then 2 else 0
theorem codeCS_bad {n : Int} {us : List Nat} {m s : Nat} (h : codeC n us ≠ 0) : codeCS n us m s = codeC n us := by unfold codeCS; rw [if_pos h]
theorem codeCS_out {n : Int} {us : List Nat} {m s : Nat} (h : codeC n us = 0) (h' : outsideB s m = true) : codeCS n us m s = 2 := by unfold codeCS; rw [if_neg (by simp [h]), if_pos h']
theorem codeCS_ok {n : Int} {us : List Nat} {m s : Nat} (h : codeC n us = 0) (h' : outsideB s m = false) : codeCS n us m s = 0 := by unfold codeCS; rw [if_neg (by simp [h]), if_neg (by simp [h'])]
theorem codeCS_zero {n : Int} {us : List Nat} {m s : Nat} (h : codeCS n us m s = 0) : codeC n us = 0 ∧ outsideB s m = false := by
  by_cases h1 : codeC n us = 0
  · refine ⟨h1, ?_⟩
    cases ho : outsideB s m with
    | false => rfl
    | true => rw [codeCS_out h1 ho] at h; cases h
  · rw [codeCS_bad h1] at h; exact absurd h h1

theorem prows_re (n : Int) (a : Option Addr) (cap : Nat) (us : List Nat) (hl : us.length ≤ 16) (s : Nat) (hs : s < 4294967296) (n₀ : Nat) (W : World) (hR : Rdy a us n₀ W) (r : Nat) (hr : dnW us s = r) (d : Nat) (os : Array Obj) :
    Calls Tryd.prog 84 #[.agg #[.slice a us.length cap, .int .i64 n], .int .u32 s] (Go.Sort.grow (redrawn W d) os) fun e w'' => e = .returned (.int .u32 (r : Nat)) ∧ ∃ p : Regrown, w'' = Go.Sort.grow (redrawn W p.d) p.os := by
  subst hr
  exact Calls.regrown_of (prows_any n a cap us hl s hs n₀ _ (hR.step (below_regrown W d os)))
theorem pwithin_re (x y : Nat) (hx : x < 4294967296) (hy : y < 4294967296) (W : World) (r : Bool) (hr : withB x y = r) (d : Nat) (os : Array Obj) :
    Calls Tryd.prog 35 #[.int .u32 x, .int .u32 y] (Go.Sort.grow (redrawn W d) os) fun e w'' => e = .returned (.bool r) ∧ ∃ p : Regrown, w'' = Go.Sort.grow (redrawn W p.d) p.os := by
  subst hr
  exact Calls.regrown_of ((pwithin_any x y hx hy _).mono fun e w' h => ⟨h.1, h.2 ▸ Below.refl _ _⟩)

end Go.Proofs.YtdeglbmoiofpoaaDoor
