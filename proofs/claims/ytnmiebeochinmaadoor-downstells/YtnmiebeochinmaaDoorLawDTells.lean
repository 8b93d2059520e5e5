/- The walk of the law DownsTells: it answers true, and writes nothing that was there. -/
import Derived.Test.YtnmiebeochinmaaDoorDownAny
import Derived.Test.YtnmiebeochinmaaDoorRefDowns
import Derived.Test.YtnmiebeochinmaaDoorRefDual
namespace Go.Proofs.YtnmiebeochinmaaDoor
open Go.RowKit Go.Shelf

set_option maxRecDepth 100000 in
set_option maxHeartbeats 1000000 in
theorem dtells_bad (n : Int) (a : Option Addr) (cap : Nat) (us : List Nat) (s : Nat) (hs : s < 4294967296) (n₀ : Nat) (w : World) (hR : Ready a us n₀ w) (hc : codeOf n us ≠ 0) :
    Calls Tryd.prog 3 #[.agg #[.int .i64 n, .slice a us.length cap], .int .u32 s] w fun e w' => e = .returned (.bool true) ∧ Below w.heap.size w w' := by
  obtain ⟨r0, hb0, hs0⟩ := one_row w 24 (.int .i64 n) (.slice a us.length cap) rfl
  have R1 := hR.step hb0
  have hcs := codeS_bad (s := s) hc
  have d1 := downB R1 n cap hs (by rw [hcs]; exact hc)
  have d2 := fun W (hW : Ready a us n₀ W) => maxB hW n cap hs (by rw [hcs]; exact hc)
  have d3 := fun W (hW : Ready a us n₀ W) => minB hW n cap hs (by rw [hcs]; exact hc)
  have d4 := fun W (hW : Ready a us n₀ W) => OrderCheck_any n a cap us n₀ hW.fit W hW.wds hW.le
  rw [hcs] at d1 d2 d3
  unfold setAns at d1 d2 d3
  clear hcs
  generalize codeOf n us = c at *
  have hne : (c != 0) = true := by rw [bne_iff_ne]; exact hc
  have heq : (c == 0) = false := by rw [beq_eq_false_iff_ne]; exact hc
  have Hb := hide hb0
  clear hb0 hc
  go_enter Tryd.func3, Tryd.ntmps3
  go_wp2_with fail
  refine d1.mono ?_
  rintro e w1 ⟨rfl, hb1⟩
  have hs1 := hb1.size
  have R2 := R1.step hb1
  have q0 := row_below r0 hb1 r0.lt
  have j0 := q0.cell (i := 0) rfl
  have j1 := q0.cell (i := 1) rfl
  go_wp2_with fail
  refine (d2 w1 R2).mono ?_
  rintro e w2 ⟨rfl, hb2⟩
  have hs2 := hb2.size
  have R3 := R2.step hb2
  have q1 := row_below q0 hb2 q0.lt
  have k0 := q1.cell (i := 0) rfl
  have k1 := q1.cell (i := 1) rfl
  clear j0 j1
  go_wp2_with fail
  refine (d3 w2 R3).mono ?_
  rintro e w3 ⟨rfl, hb3⟩
  have hs3 := hb3.size
  have R4 := R3.step hb3
  have q2 := row_below q1 hb3 q1.lt
  have l0 := q2.cell (i := 0) rfl
  have l1 := q2.cell (i := 1) rfl
  clear k0 k1
  go_wp2_with fail
  refine (d4 w3 R4).mono ?_
  rintro e w4 ⟨rfl, hb4⟩
  go_wp2_with fail
  go_ret
  exact ⟨ret_bool (by simp), (((Hb.out.trans (hb1.mono (by omega))).trans (hb2.mono (by omega))).trans (hb3.mono (by omega))).trans (hb4.mono (by omega))⟩

set_option maxRecDepth 100000 in
set_option maxHeartbeats 1000000 in
theorem dtells_out (a : Option Addr) (cap : Nat) (us : List Nat) (s : Nat) (hs : s < 4294967296) (n₀ : Nat) (w : World) (hR : Ready a us n₀ w) (hc : codeOf us.length us = 0) (ho : outsideB s us.length = true) :
    Calls Tryd.prog 3 #[.agg #[.int .i64 us.length, .slice a us.length cap], .int .u32 s] w fun e w' => e = .returned (.bool true) ∧ Below w.heap.size w w' := by
  obtain ⟨r0, hb0, hs0⟩ := one_row w 24 (.int .i64 us.length) (.slice a us.length cap) rfl
  have hl16 : us.length ≤ 16 := by have := code_zero hc; omega
  have R1 := hR.step hb0
  have hcs := codeS_out (s := s) hc ho
  have d1 := downB R1 us.length cap hs (by rw [hcs]; decide)
  have d2 := fun W (hW : Ready a us n₀ W) => maxB hW us.length cap hs (by rw [hcs]; decide)
  have d3 := fun W (hW : Ready a us n₀ W) => minB hW us.length cap hs (by rw [hcs]; decide)
  have d4 := fun W (hW : Ready a us n₀ W) => OrderCheck_any us.length a cap us n₀ hW.fit W hW.wds hW.le
  have d5 := fun W : World => Outside_any s us.length hs hl16 W
  rw [hcs] at d1 d2 d3
  rw [hc] at d4
  rw [ho] at d5
  unfold setAns at d1 d2 d3
  clear hcs hc ho
  have Hb := hide hb0
  clear hb0
  go_enter Tryd.func3, Tryd.ntmps3
  go_wp2_with fail
  refine d1.mono ?_
  rintro e w1 ⟨rfl, hb1⟩
  have hs1 := hb1.size
  have R2 := R1.step hb1
  have q0 := row_below r0 hb1 r0.lt
  have j0 := q0.cell (i := 0) rfl
  have j1 := q0.cell (i := 1) rfl
  go_wp2_with fail
  refine (d2 w1 R2).mono ?_
  rintro e w2 ⟨rfl, hb2⟩
  have hs2 := hb2.size
  have R3 := R2.step hb2
  have q1 := row_below q0 hb2 q0.lt
  have k0 := q1.cell (i := 0) rfl
  have k1 := q1.cell (i := 1) rfl
  clear j0 j1
  go_wp2_with fail
  refine (d3 w2 R3).mono ?_
  rintro e w3 ⟨rfl, hb3⟩
  have hs3 := hb3.size
  have R4 := R3.step hb3
  have q2 := row_below q1 hb3 q1.lt
  have l0 := q2.cell (i := 0) rfl
  have l1 := q2.cell (i := 1) rfl
  clear k0 k1
  go_wp2_with fail
  refine (d4 w3 R4).mono ?_
  rintro e w4 ⟨rfl, hb4⟩
  have q3 := row_below q2 hb4 q2.lt
  have m0 := q3.cell (i := 0) rfl
  have m1 := q3.cell (i := 1) rfl
  have x4 := d5 w4
  go_wp2_with (go_at_call 11; refine (d5 _).mono ?_; rintro e w5 ⟨rfl, rfl⟩)
  go_ret
  exact ⟨ret_bool (by simp), (((Hb.out.trans (hb1.mono (by omega))).trans (hb2.mono (by omega))).trans (hb3.mono (by omega))).trans (hb4.mono (by omega))⟩

set_option maxRecDepth 100000 in
set_option maxHeartbeats 1000000 in
theorem dtells_ok (a : Option Addr) (cap : Nat) (us : List Nat) (s : Nat) (hs : s < 4294967296) (n₀ : Nat) (w : World) (hR : Ready a us n₀ w) (hc : codeOf us.length us = 0) (ho : outsideB s us.length = false) :
    Calls Tryd.prog 3 #[.agg #[.int .i64 us.length, .slice a us.length cap], .int .u32 s] w fun e w' => e = .returned (.bool true) ∧ Below w.heap.size w w' := by
  obtain ⟨r0, hb0, hs0⟩ := one_row w 24 (.int .i64 us.length) (.slice a us.length cap) rfl
  obtain ⟨_, h16, _, hin, hord⟩ := code_zero hc
  have hl16 : us.length ≤ 16 := by omega
  have oS := only_of hs ho
  have R1 := hR.step hb0
  have hcs := codeS_ok (s := s) hc ho
  have d1 := downA R1 cap hs hcs
  have d2 := fun W (hW : Ready a us n₀ W) => maxA hW cap hs hcs
  have d3 := fun W (hW : Ready a us n₀ W) => minA hW cap hs hcs
  have d4 := fun W (hW : Ready a us n₀ W) => OrderCheck_any us.length a cap us n₀ hW.fit W hW.wds hW.le
  have d5 := fun W : World => Outside_any s us.length hs hl16 W
  have d6 := fun W (hW : Ready a us n₀ W) => DownsDown_any a cap us s hs n₀ hW.fit hl16 W hW.wds hW.le
  have d7 := fun W (hW : Ready a us n₀ W) => DownsMaximal_any a cap us s hs n₀ hW.fit hl16 W hW.wds hW.le
  have d8 := fun W (hW : Ready a us n₀ W) => OrderDual_any a cap us n₀ hW.fit hl16 W hW.wds hW.le
  rw [some_down oS] at d6
  rw [tops_ends (fun i hi => ord_refl hord hi) oS] at d7
  rw [hc] at d4
  rw [ho] at d5
  have HO := hide hord
  have HS := hide oS
  clear hcs hc ho hord oS hin
  unfold setAns at d1 d2 d3
  have Hb := hide hb0
  clear hb0
  go_enter Tryd.func3, Tryd.ntmps3
  go_wp2_with fail
  refine d1.mono ?_
  rintro e w1 ⟨rfl, hb1⟩
  have hs1 := hb1.size
  have R2 := R1.step hb1
  have q0 := row_below r0 hb1 r0.lt
  have j0 := q0.cell (i := 0) rfl
  have j1 := q0.cell (i := 1) rfl
  go_wp2_with fail
  refine (d2 w1 R2).mono ?_
  rintro e w2 ⟨rfl, hb2⟩
  have hs2 := hb2.size
  have R3 := R2.step hb2
  have q1 := row_below q0 hb2 q0.lt
  have k0 := q1.cell (i := 0) rfl
  have k1 := q1.cell (i := 1) rfl
  clear j0 j1
  go_wp2_with fail
  refine (d3 w2 R3).mono ?_
  rintro e w3 ⟨ds, rfl, hTur, hb3⟩
  have hs3 := hb3.size
  have R4 := R3.step hb3
  have q2 := row_below q1 hb3 q1.lt
  have l0 := q2.cell (i := 0) rfl
  have l1 := q2.cell (i := 1) rfl
  clear k0 k1
  go_wp2_with fail
  refine (d4 w3 R4).mono ?_
  rintro e w4 ⟨rfl, hb4⟩
  have q3 := row_below q2 hb4 q2.lt
  have m0 := q3.cell (i := 0) rfl
  have m1 := q3.cell (i := 1) rfl
  have R5 := R4.step hb4
  have hs4 := hb4.size
  go_wp2_with (go_at_call 11; refine (d5 _).mono ?_; rintro e w5 ⟨rfl, rfl⟩)
  refine (d6 w5 R5).mono ?_
  rintro e w6 ⟨rfl, hb6⟩
  have q4 := row_below q3 hb6 q3.lt
  have n0 := q4.cell (i := 0) rfl
  have n1 := q4.cell (i := 1) rfl
  have R6 := R5.step hb6
  have hs6 := hb6.size
  clear m0 m1
  go_wp2_with fail
  refine (d7 w6 R6).mono ?_
  rintro e w7 ⟨rfl, hb7⟩
  have q5 := row_below q4 hb7 q4.lt
  have o0 := q5.cell (i := 0) rfl
  have o1 := q5.cell (i := 1) rfl
  have R7 := R6.step hb7
  have hs7 := hb7.size
  clear n0 n1
  go_wp2_with fail
  refine (d8 w7 R7).mono ?_
  rintro e w8 ⟨v, es, rfl, hb8, hown, hTe⟩
  obtain rfl : es = ds := hTe.unique hTur
  obtain ⟨av, cv, rfl, hwv⟩ := ownsRow_words hown
  have hlD := hTur.len
  have hs8 := hb8.size
  have hmx := DownsMaximal_any av cv es s hs w8.heap.size hTur.fit (by omega) w8 hwv (Nat.le_refl _)
  rw [tops_ends (fun i hi => by rw [hTur.has i (by omega) i]; simp [show i < us.length by omega, ord_refl HO.out (show i < us.length by omega)]) (by rw [hlD]; exact HS.out), hlD] at hmx
  clear d1 d2 d3 d4 d5 d6 d7 d8 o0 o1
  go_wp2_with fail
  refine hmx.mono ?_
  rintro e w9 ⟨rfl, hb9⟩
  go_wp2_with fail
  go_ret
  exact ⟨ret_bool (by simp), (((((((Hb.out.trans (hb1.mono (by omega))).trans (hb2.mono (by omega))).trans (hb3.mono (by omega))).trans (hb4.mono (by omega))).trans (hb6.mono (by omega))).trans (hb7.mono (by omega))).trans (hb8.mono (by omega))).trans (hb9.mono (by omega))⟩

/-- **DownsTells answers true, for every order and any set, and writes nothing that was there** -/
theorem dtells_any (n : Int) (a : Option Addr) (cap : Nat) (us : List Nat) (s : Nat) (hs : s < 4294967296) (n₀ : Nat) (hf : Fit us) (w : World) (hT : TabAt w) (hw : IsWords n₀ w a us) (hg : 0 < n₀) (hn₀ : n₀ ≤ w.heap.size) :
    Calls Tryd.prog 3 #[.agg #[.int .i64 n, .slice a us.length cap], .int .u32 s] w fun e w' => e = .returned (.bool true) ∧ Below w.heap.size w w' := by
  have hR : Ready a us n₀ w := ⟨hf, hT, hw, hg, hn₀⟩
  by_cases hc : codeOf n us = 0
  · have hl := (code_zero hc).2.2.1
    subst hl
    cases ho : outsideB s us.length with
    | true => exact dtells_out a cap us s hs n₀ w hR hc ho
    | false => exact dtells_ok a cap us s hs n₀ w hR hc ho
  · exact dtells_bad n a cap us s hs n₀ w hR hc
end Go.Proofs.YtnmiebeochinmaaDoor
