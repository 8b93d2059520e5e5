/- The walk of the law DownsAll: it answers true, and writes nothing that was there. -/
import Derived.Test.YtdomcjfgmnpbmaaDoorCountAny
import Derived.Test.YtdomcjfgmnpbmaaDoorRefAll
import Derived.Test.YtdomcjfgmnpbmaaDoorRefCheck
import Derived.Test.YtdomcjfgmnpbmaaDoorSameW
namespace Go.Proofs.YtdomcjfgmnpbmaaDoor
open Go.RowKit Go.Shelf

theorem take_all {l : List Nat} {m : Nat} (h : l.length ≤ m) : l.take m = l := List.take_of_length_le h

set_option maxRecDepth 100000 in
set_option maxHeartbeats 1000000 in
theorem dall_bad (n : Int) (a : Option Addr) (cap : Nat) (us : List Nat) (n₀ : Nat) (w : World) (hR : Ready a us n₀ w) (hc : codeOf n us ≠ 0) :
    Calls Tryd.prog 3 #[.agg #[.int .i64 n, .slice a us.length cap]] w fun e w' => e = .returned (.bool true) ∧ Below w.heap.size w w' := by
  obtain ⟨r0, hb0, hs0⟩ := one_row w 24 (.int .i64 n) (.slice a us.length cap) rfl
  have R1 := hR.step hb0
  have d1 := All_bad n a cap us n₀ _ R1 hc
  have d2 := fun W (hW : Ready a us n₀ W) => Count_bad n a cap us n₀ W hW hc
  have d3 := fun W (hW : Ready a us n₀ W) => OrderCheck_any n a cap us n₀ hW.fit W hW.wds hW.le
  generalize codeOf n us = c at *
  have hne : (c != 0) = true := by rw [bne_iff_ne]; exact hc
  have Hb := hide hb0
  clear hb0 hc
  go_enter Tryd.func3, Tryd.ntmps3
  go_wp2_with fail
  refine d1.mono ?_
  rintro e w1 ⟨rfl, hb1⟩
  have hs1 := hb1.size
  have R2 := R1.step hb1
  have q0 := row_below r0 hb1 r0.lt
  have j0 := q0.cell (i := 0) rfl
  have j1 := q0.cell (i := 1) rfl
  go_wp2_with fail
  refine (d2 w1 R2).mono ?_
  rintro e w2 ⟨rfl, hb2⟩
  have hs2 := hb2.size
  have R3 := R2.step hb2
  have q1 := row_below q0 hb2 q0.lt
  have k0 := q1.cell (i := 0) rfl
  have k1 := q1.cell (i := 1) rfl
  clear j0 j1
  go_wp2_with fail
  refine (d3 w2 R3).mono ?_
  rintro e w3 ⟨rfl, hb3⟩
  go_wp2_with fail
  go_ret
  exact ⟨ret_bool (by simp), ((Hb.out.trans (hb1.mono (by omega))).trans (hb2.mono (by omega))).trans (hb3.mono (by omega))⟩

set_option maxRecDepth 100000 in
set_option maxHeartbeats 1000000 in
theorem dall_ok (a : Option Addr) (cap : Nat) (us : List Nat) (n₀ : Nat) (w : World) (hR : Ready a us n₀ w) (hc : codeOf us.length us = 0) :
    Calls Tryd.prog 3 #[.agg #[.int .i64 us.length, .slice a us.length cap]] w fun e w' => e = .returned (.bool true) ∧ Below w.heap.size w w' := by
  obtain ⟨r0, hb0, hs0⟩ := one_row w 24 (.int .i64 us.length) (.slice a us.length cap) rfl
  have hl16 : us.length ≤ 16 := by have := code_zero hc; omega
  have R1 := hR.step hb0
  have d1 := All_ok a cap us n₀ _ R1 hc
  have d2 := fun W (hW : Ready a us n₀ W) => Count_ok a cap us n₀ W hW hc
  have d3 := fun W (hW : Ready a us n₀ W) => OrderCheck_any us.length a cap us n₀ hW.fit W hW.wds hW.le
  have d4 := fun W (hW : Ready a us n₀ W) => DownsAll_any 256 (Nat.le_refl _) a cap us n₀ hW.fit hl16 W hW.wds hW.le
  rw [hc] at d3
  have Hb := hide hb0
  clear hb0 hc
  go_enter Tryd.func3, Tryd.ntmps3
  go_wp2_with fail
  refine d1.mono ?_
  rintro e w1 ⟨ds, hT, hb1, hAns⟩
  have hs1 := hb1.size
  have R2 := R1.step hb1
  have q0 := row_below r0 hb1 r0.lt
  have j0 := q0.cell (i := 0) rfl
  have j1 := q0.cell (i := 1) rfl
  have hAL : (allD ds).length ≤ 65536 := allD_len (by rw [hT.len]; exact hl16)
  rcases hAns with ⟨hbig, rfl⟩ | ⟨hsm, v, rfl, hown⟩
  · go_wp2_with fail
    refine (d2 w1 R2).mono ?_
    rintro e w2 ⟨ds2, rfl, hT2, hb2⟩
    obtain rfl : ds = ds2 := hT.unique hT2
    have hs2 := hb2.size
    have R3 := R2.step hb2
    have q1 := row_below q0 hb2 q0.lt
    have k0 := q1.cell (i := 0) rfl
    have k1 := q1.cell (i := 1) rfl
    clear j0 j1 hT2
    go_wp2_with fail
    refine (d3 w2 R3).mono ?_
    rintro e w3 ⟨rfl, hb3⟩
    have hs3 := hb3.size
    have R4 := R3.step hb3
    have q2 := row_below q1 hb3 q1.lt
    have l0 := q2.cell (i := 0) rfl
    have l1 := q2.cell (i := 1) rfl
    clear k0 k1
    go_wp2_with fail
    refine (d4 w3 R4).mono ?_
    rintro e w4 ⟨ds3, v3, rfl, hT3, hb4, hown4⟩
    obtain rfl : ds = ds3 := hT.unique hT3
    have HT := hide hT
    clear hT hT3 hown4 l0 l1 d1 d2 d3 d4
    go_wp2_with fail
    go_ret
    exact ⟨rfl, (((Hb.out.trans (hb1.mono (by omega))).trans (hb2.mono (by omega))).trans (hb3.mono (by omega))).trans (hb4.mono (by omega))⟩
  · go_wp2_with fail
    refine (d2 w1 R2).mono ?_
    rintro e w2 ⟨ds2, rfl, hT2, hb2⟩
    obtain rfl : ds = ds2 := hT.unique hT2
    have hs2 := hb2.size
    have R3 := R2.step hb2
    have q1 := row_below q0 hb2 q0.lt
    have k0 := q1.cell (i := 0) rfl
    have k1 := q1.cell (i := 1) rfl
    have hown2 := ownsRow_below hown hb2
    clear j0 j1 hT2 hown
    go_wp2_with fail
    refine (d3 w2 R3).mono ?_
    rintro e w3 ⟨rfl, hb3⟩
    have hs3 := hb3.size
    have R4 := R3.step hb3
    have q2 := row_below q1 hb3 q1.lt
    have l0 := q2.cell (i := 0) rfl
    have l1 := q2.cell (i := 1) rfl
    have hown3 := ownsRow_below hown2 hb3
    clear k0 k1 hown2
    go_wp2_with fail
    refine (d4 w3 R4).mono ?_
    rintro e w4 ⟨ds3, v3, rfl, hT3, hb4, hown4⟩
    obtain rfl : ds = ds3 := hT.unique hT3
    have hs4 := hb4.size
    have hown5 := ownsRow_below hown3 hb4
    rw [take_all hsm] at hown4
    obtain ⟨av, cv, rfl, hwv⟩ := ownsRow_words hown5
    obtain ⟨av3, cv3, rfl, hwv3⟩ := ownsRow_words hown4
    have hsame := Words_any av av3 cv cv3 (allD ds) (allD ds) w4.heap.size (by omega) w4 hwv hwv3
    clear hT hT3 hown3 hown4 hown5 l0 l1 d1 d2 d3 d4
    go_wp2_with fail
    refine hsame.mono ?_
    rintro e w5 ⟨rfl, hb5⟩
    go_wp2_with fail
    go_ret
    exact ⟨ret_bool (same_true rfl fun i _ => rfl), ((((Hb.out.trans (hb1.mono (by omega))).trans (hb2.mono (by omega))).trans (hb3.mono (by omega))).trans (hb4.mono (by omega))).trans (hb5.mono (by omega))⟩

/-- **DownsAll answers true, for every order, and writes nothing that was there** -/
theorem dall_any (n : Int) (a : Option Addr) (cap : Nat) (us : List Nat) (n₀ : Nat) (hf : Fit us) (w : World) (hT : TabAt w) (hw : IsWords n₀ w a us) (hg : 0 < n₀) (hn₀ : n₀ ≤ w.heap.size) :
    Calls Tryd.prog 3 #[.agg #[.int .i64 n, .slice a us.length cap]] w fun e w' => e = .returned (.bool true) ∧ Below w.heap.size w w' := by
  have hR : Ready a us n₀ w := ⟨hf, hT, hw, hg, hn₀⟩
  by_cases hc : codeOf n us = 0
  · have hl := (code_zero hc).2.2.1
    subst hl
    exact dall_ok a cap us n₀ w hR hc
  · exact dall_bad n a cap us n₀ w hR hc
end Go.Proofs.YtdomcjfgmnpbmaaDoor
