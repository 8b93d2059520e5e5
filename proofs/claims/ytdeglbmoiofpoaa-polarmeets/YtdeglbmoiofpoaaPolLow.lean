/- The contracts of package polar's smallest functions: bit, all, within, beyond, check, columnsOf, rowsOf. -/
import Derived.Test.YtdeglbmoiofpoaaOwns
import Derived.Test.YtdeglbmoiofpoaaPolPlain
namespace Go.Proofs.Ytdeglbmoiofpoaa
open Go.RowKit Go.Shelf

theorem pbit_any (i : Nat) (hi : i < 32) (w : World) :
    Calls Try.prog 21 #[.int .i64 i] w fun e w' => e = .returned (.int .u32 (bitW i : Nat)) ∧ w' = w := by
  go_enter Try.func21, Try.ntmps21
  go_wp2
  go_ret
  exact ⟨ret_int (bit_raw hi), rfl⟩
theorem pall_any (n : Nat) (hn : n < 32) (w : World) :
    Calls Try.prog 19 #[.int .i64 n] w fun e w' => e = .returned (.int .u32 (allW n : Nat)) ∧ w' = w := by
  go_enter Try.func19, Try.ntmps19
  go_wp2_with (go_at_call 21; refine (pbit_any _ hn _).mono ?_; rintro e w' ⟨rfl, rfl⟩)
  go_ret
  refine ⟨ret_int ?_, rfl⟩
  have h := bitW_lt hn
  have h0 := bitW_pos n
  have e : allW n = bitW n - 1 := rfl
  rw [e]; omega
theorem pwithin_any (x y : Nat) (hx : x < 4294967296) (hy : y < 4294967296) (w : World) :
    Calls Try.prog 25 #[.int .u32 x, .int .u32 y] w fun e w' => e = .returned (.bool (withB x y)) ∧ w' = w := by
  go_enter Try.func25, Try.ntmps25
  go_wp2
  go_ret
  refine ⟨ret_bool ?_, rfl⟩
  rw [bits_andN32 _ _ hx hy]
  unfold withB
  by_cases h : andN x y = 0
  · rw [h]; rfl
  · rw [decide_eq_false h, beq_eq_false_iff_ne]; omega
theorem pbeyond_any (s n : Nat) (hs : s < 4294967296) (hn : n ≤ 16) (w : World) :
    Calls Try.prog 18 #[.int .u32 s, .int .i64 n] w fun e w' => e = .returned (.bool (outsideB s n)) ∧ w' = w := by
  have h := with_out (n := n) hs
  go_enter Try.func18, Try.ntmps18
  go_wp2_with (first | (go_at_call 19; refine (pall_any _ (by omega) _).mono ?_; rintro e w' ⟨rfl, rfl⟩) | (go_at_call 25; refine (pwithin_any _ _ hs (allW_lt (by omega)) _).mono ?_; rintro e w' ⟨rfl, rfl⟩))
  go_ret
  exact ⟨ret_bool rfl, rfl⟩

/-- what a call is told of the rows that came in -/
structure Rdy (a : Option Addr) (us : List Nat) (n₀ : Nat) (w : World) : Prop where
  fit : Fit us
  wds : IsWords n₀ w a us
  le : n₀ ≤ w.heap.size
theorem Rdy.step {a : Option Addr} {us : List Nat} {n₀ : Nat} {w w' : World} (h : Rdy a us n₀ w) (hb : Below w.heap.size w w') : Rdy a us n₀ w' :=
  ⟨h.fit, h.wds.below (hb.mono h.le), Nat.le_trans h.le hb.size⟩

set_option maxRecDepth 100000 in
set_option maxHeartbeats 1000000 in
theorem pcheck_any (n : Int) (a : Option Addr) (cap : Nat) (us : List Nat) (n₀ : Nat) (w : World) (hR : Rdy a us n₀ w) :
    Calls Try.prog 9 #[.agg #[.slice a us.length cap, .int .i64 n]] w fun e w' => e = .returned (.int .i64 (codeC n us)) ∧ Below w.heap.size w w' := by
  obtain ⟨r0, hb0, hs0⟩ := one_row w 24 (.slice a us.length cap) (.int .i64 n) rfl
  have R1 := hR.step hb0
  have c0 := r0.cell (i := 0) rfl
  have c1 := r0.cell (i := 1) rfl
  have Hb := hide hb0
  clear hb0
  by_cases hl : 16 < us.length ∨ n < 0 ∨ 16 < n
  · have Hc := hide (codeC_large hl)
    go_enter Try.func9, Try.ntmps9
    go_wp2_with fail
    all_goals first
      | (exfalso; omega)
      | (go_ret; exact ⟨ret_int Hc.out.symm, Hb.out⟩)
  · obtain ⟨m, rfl⟩ : ∃ m : Nat, n = m := ⟨n.toNat, by omega⟩
    have hl16 : us.length ≤ 16 := by omega
    have hm16 : m ≤ 16 := by omega
    have d1 : decide ((16 : Int) < (us.length : Int)) = false := decide_eq_false (by omega)
    have d2 : decide ((m : Int) < 0) = false := decide_eq_false (by omega)
    have d3 : decide ((16 : Int) < (m : Int)) = false := decide_eq_false (by omega)
    clear hl
    go_enter Try.func9, Try.ntmps9
    go_wp2_with fail
    go_loop [22] (fun i => ∃ k : Nat, k ≤ us.length ∧ i = .int .i64 k ∧ ∀ j, j < k → outsideB (wd us j) m = false) (fun i => us.length - (intOf i).toNat)
    case atStart => exact ⟨0, Nat.zero_le _, rfl, fun j h => by omega⟩
    case round =>
      obtain ⟨k, hk, rfl, hall⟩ := hrel
      by_cases hlt : k < us.length
      · obtain ⟨b, off, rfl, hb, hcc⟩ := R1.wds.at hlt
        have hci := hcc k hlt
        have hbe := pbeyond_any (wd us k) m (R1.fit k) hm16
        clear hcc
        have hcs : outsideB (wd us k) m = false ∨ outsideB (wd us k) m = true := by cases outsideB (wd us k) m <;> simp
        rcases hcs with ho | ho
        · rw [ho] at hbe
          have Ho := hide ho
          clear ho
          go_wp2_with (go_at_call 18; refine (hbe _).mono ?_; rintro e w' ⟨rfl, rfl⟩)
          go_round
          case rel => exact ⟨k + 1, by omega, by go_num, fun j h1 => by
            by_cases e : j = k
            · rw [e]; exact Ho.out
            · exact hall j (by omega)⟩
          case measure => simp [intOf]; omega
        · rw [ho] at hbe
          have Hc := hide (codeC_out hl16 hm16 (outAny_true hlt ho))
          clear ho
          go_wp2_with (go_at_call 18; refine (hbe _).mono ?_; rintro e w' ⟨rfl, rfl⟩)
          go_ret
          exact ⟨ret_int Hc.out.symm, Hb.out⟩
      · obtain rfl : k = us.length := by omega
        have Hc := hide (codeC_ok hl16 hm16 (outAny_false.2 hall))
        go_wp2
        go_ret
        exact ⟨ret_int Hc.out.symm, Hb.out⟩

set_option maxRecDepth 100000 in
set_option maxHeartbeats 1000000 in
theorem pcols_any (n : Nat) (hn : n ≤ 16) (a : Option Addr) (cap : Nat) (us : List Nat) (hl : us.length ≤ 16) (s : Nat) (hs : s < 4294967296) (n₀ : Nat) (w : World) (hR : Rdy a us n₀ w) :
    Calls Try.prog 11 #[.agg #[.slice a us.length cap, .int .i64 n], .int .u32 s] w fun e w' => e = .returned (.int .u32 (upW n us s : Nat)) ∧ Below w.heap.size w w' := by
  obtain ⟨r0, hb0, hs0⟩ := one_row w 24 (.slice a us.length cap) (.int .i64 n) rfl
  have R1 := hR.step hb0
  have c0 := r0.cell (i := 0) rfl
  have c1 := r0.cell (i := 1) rfl
  have Hb := hide hb0
  clear hb0
  go_enter Try.func11, Try.ntmps11
  go_wp2_with (go_at_call 19; refine (pall_any _ (by omega) _).mono ?_; rintro e w' ⟨rfl, rfl⟩)
  go_loop [5, 14] (fun x i => ∃ k : Nat, k ≤ us.length ∧ i = .int .i64 k ∧ x = .int .u32 (upK n us s k : Nat)) (fun _ i => us.length - (intOf i).toNat)
  case atStart => exact ⟨0, Nat.zero_le _, rfl, rfl⟩
  case round =>
    obtain ⟨k, hk, rfl, rfl⟩ := hrel
    by_cases hlt : k < us.length
    · obtain ⟨b, off, rfl, hb, hcc⟩ := R1.wds.at hlt
      have hci := hcc k hlt
      have hbits := bits_and32 s (bitW k) hs (bitW_lt (by omega))
      have hbne := and_bit_bne s k
      have hand := bits_and32 _ _ (upK_lt (n := n) (by omega) us s k) (R1.fit k)
      have hst : upK n us s (k + 1) = if hasB s k then andW (upK n us s k) (wd us k) else upK n us s k := rfl
      clear hcc
      have hcs : hasB s k = false ∨ hasB s k = true := by cases hasB s k <;> simp
      rcases hcs with ho | ho
      · rw [ho] at hbne
        rw [ho, if_neg (by simp)] at hst
        have Hst := hide hst
        clear hst ho
        go_wp2_with (go_at_call 21; refine (pbit_any _ (by omega) _).mono ?_; rintro e w' ⟨rfl, rfl⟩)
        go_round
        case rel => exact ⟨k + 1, by omega, by go_num, by rw [Hst.out]⟩
        case measure => simp [intOf]; omega
      · rw [ho] at hbne
        rw [ho, if_pos rfl] at hst
        have Hst := hide hst
        clear hst ho
        go_wp2_with (go_at_call 21; refine (pbit_any _ (by omega) _).mono ?_; rintro e w' ⟨rfl, rfl⟩)
        go_round
        case rel => exact ⟨k + 1, by omega, by go_num, by rw [Hst.out]⟩
        case measure => simp [intOf]; omega
    · obtain rfl : k = us.length := by omega
      go_wp2
      go_ret
      exact ⟨rfl, Hb.out⟩

set_option maxRecDepth 100000 in
set_option maxHeartbeats 1000000 in
theorem prows_any (n : Int) (a : Option Addr) (cap : Nat) (us : List Nat) (hl : us.length ≤ 16) (s : Nat) (hs : s < 4294967296) (n₀ : Nat) (w : World) (hR : Rdy a us n₀ w) :
    Calls Try.prog 20 #[.agg #[.slice a us.length cap, .int .i64 n], .int .u32 s] w fun e w' => e = .returned (.int .u32 (dnW us s : Nat)) ∧ Below w.heap.size w w' := by
  obtain ⟨r0, hb0, hs0⟩ := one_row w 24 (.slice a us.length cap) (.int .i64 n) rfl
  have R1 := hR.step hb0
  have c0 := r0.cell (i := 0) rfl
  have Hb := hide hb0
  clear hb0
  go_enter Try.func20, Try.ntmps20
  go_wp2_with fail
  go_loop [5, 11] (fun x i => ∃ k : Nat, k ≤ us.length ∧ i = .int .i64 k ∧ x = .int .u32 (wordOf (fun i => withB s (wd us i)) k : Nat)) (fun _ i => us.length - (intOf i).toNat)
  case atStart => exact ⟨0, Nat.zero_le _, rfl, rfl⟩
  case round =>
    obtain ⟨k, hk, rfl, rfl⟩ := hrel
    by_cases hlt : k < us.length
    · obtain ⟨b, off, rfl, hb, hcc⟩ := R1.wds.at hlt
      have hci := hcc k hlt
      have hwi := pwithin_any s (wd us k) hs (R1.fit k)
      have hwl := wordOf_lt (fun i => withB s (wd us i)) (k := k) (by omega)
      have hor := bits_or32 _ _ hwl (bitW_lt (i := k) (by omega))
      have hst : wordOf (fun i => withB s (wd us i)) (k + 1) = if withB s (wd us k) then orW (wordOf (fun i => withB s (wd us i)) k) (bitW k) else wordOf (fun i => withB s (wd us i)) k := rfl
      clear hcc
      have hcs : withB s (wd us k) = false ∨ withB s (wd us k) = true := by cases withB s (wd us k) <;> simp
      rcases hcs with ho | ho
      · rw [ho] at hwi
        rw [ho, if_neg (by simp)] at hst
        have Hst := hide hst
        clear hst ho
        go_wp2_with (go_at_call 25; refine (hwi _).mono ?_; rintro e w' ⟨rfl, rfl⟩)
        go_round
        case rel => exact ⟨k + 1, by omega, by go_num, by rw [Hst.out]⟩
        case measure => simp [intOf]; omega
      · rw [ho] at hwi
        rw [ho, if_pos rfl] at hst
        have Hst := hide hst
        clear hst ho
        go_wp2_with (first | (go_at_call 25; refine (hwi _).mono ?_; rintro e w' ⟨rfl, rfl⟩) | (go_at_call 21; refine (pbit_any _ (by omega) _).mono ?_; rintro e w' ⟨rfl, rfl⟩))
        go_round
        case rel => exact ⟨k + 1, by omega, by go_num, by rw [Hst.out]⟩
        case measure => simp [intOf]; omega
    · obtain rfl : k = us.length := by omega
      go_wp2
      go_ret
      exact ⟨rfl, Hb.out⟩
end Go.Proofs.Ytdeglbmoiofpoaa
