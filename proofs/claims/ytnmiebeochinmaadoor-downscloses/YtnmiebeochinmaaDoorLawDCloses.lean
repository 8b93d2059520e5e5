/- The walk of the law DownsCloses: it answers true, and writes nothing that was there. -/
import Derived.Test.YtnmiebeochinmaaDoorDownAny
namespace Go.Proofs.YtnmiebeochinmaaDoor
open Go.RowKit Go.Shelf

set_option maxRecDepth 100000 in
set_option maxHeartbeats 1000000 in
theorem dcloses_one (n : Int) (a : Option Addr) (cap : Nat) (us : List Nat) (s t : Nat) (hs : s < 4294967296) (ht : t < 4294967296) (n₀ : Nat) (w : World) (hR : Ready a us n₀ w) (hc : codeS n us s ≠ 0) :
    Calls Tryd.prog 5 #[.agg #[.int .i64 n, .slice a us.length cap], .int .u32 s, .int .u32 t] w fun e w' => e = .returned (.bool true) ∧ Below w.heap.size w w' := by
  obtain ⟨r0, hb0, hs0⟩ := one_row w 24 (.int .i64 n) (.slice a us.length cap) rfl
  have R1 := hR.step hb0
  have d1 := downB R1 n cap hs hc
  have d2 : ∀ W, Ready a us n₀ W → Calls Tryd.prog 7 #[.agg #[.int .i64 n, .slice a us.length cap], .int .u32 t] W fun e w' => ∃ c x, e = setAns c x ∧ Below W.heap.size W w' := by
    intro W hW
    by_cases h : codeS n us t = 0
    · have hl := codeS_len h
      subst hl
      exact (downA hW cap ht h).mono fun e w' ⟨h1, h2⟩ => ⟨_, _, h1, h2⟩
    · exact (downB hW n cap ht h).mono fun e w' ⟨h1, h2⟩ => ⟨_, _, h1, h2⟩
  unfold setAns at d1 d2
  generalize codeS n us s = c at *
  have hne : (c != 0) = true := by rw [bne_iff_ne]; exact hc
  have Hb := hide hb0
  clear hb0 hc
  go_enter Tryd.func5, Tryd.ntmps5
  go_wp2_with fail
  refine d1.mono ?_
  rintro e w1 ⟨rfl, hb1⟩
  have q0 := row_below r0 hb1 r0.lt
  have j0 := q0.cell (i := 0) rfl
  have j1 := q0.cell (i := 1) rfl
  go_wp2_with fail
  refine (d2 w1 (R1.step hb1)).mono ?_
  rintro e w2 ⟨c2, x2, rfl, hb2⟩
  go_wp2_with fail
  go_ret
  exact ⟨rfl, (Hb.out.trans (hb1.mono (by omega))).trans (hb2.mono (by have := hb1.size; omega))⟩

set_option maxRecDepth 100000 in
set_option maxHeartbeats 1000000 in
theorem dcloses_two (a : Option Addr) (cap : Nat) (us : List Nat) (s t : Nat) (hs : s < 4294967296) (ht : t < 4294967296) (n₀ : Nat) (w : World) (hR : Ready a us n₀ w) (hc : codeS us.length us s = 0) (hc2 : codeS us.length us t ≠ 0) :
    Calls Tryd.prog 5 #[.agg #[.int .i64 us.length, .slice a us.length cap], .int .u32 s, .int .u32 t] w fun e w' => e = .returned (.bool true) ∧ Below w.heap.size w w' := by
  obtain ⟨r0, hb0, hs0⟩ := one_row w 24 (.int .i64 us.length) (.slice a us.length cap) rfl
  have R1 := hR.step hb0
  have d1 := downA R1 cap hs hc
  have d2 := fun W (hW : Ready a us n₀ W) => downB hW us.length cap ht hc2
  unfold setAns at d1 d2
  generalize codeS us.length us t = c at *
  have hne : (c != 0) = true := by rw [bne_iff_ne]; exact hc2
  have Hb := hide hb0
  clear hb0 hc hc2
  go_enter Tryd.func5, Tryd.ntmps5
  go_wp2_with fail
  refine d1.mono ?_
  rintro e w1 ⟨rfl, hb1⟩
  have q0 := row_below r0 hb1 r0.lt
  have j0 := q0.cell (i := 0) rfl
  have j1 := q0.cell (i := 1) rfl
  go_wp2_with fail
  refine (d2 w1 (R1.step hb1)).mono ?_
  rintro e w2 ⟨rfl, hb2⟩
  go_wp2_with fail
  go_ret
  exact ⟨rfl, (Hb.out.trans (hb1.mono (by omega))).trans (hb2.mono (by have := hb1.size; omega))⟩

set_option maxRecDepth 100000 in
set_option maxHeartbeats 1000000 in
theorem dcloses_ok (a : Option Addr) (cap : Nat) (us : List Nat) (s t : Nat) (hs : s < 4294967296) (ht : t < 4294967296) (n₀ : Nat) (w : World) (hR : Ready a us n₀ w) (hc : codeS us.length us s = 0) (hc2 : codeS us.length us t = 0) :
    Calls Tryd.prog 5 #[.agg #[.int .i64 us.length, .slice a us.length cap], .int .u32 s, .int .u32 t] w fun e w' => e = .returned (.bool true) ∧ Below w.heap.size w w' := by
  obtain ⟨r0, hb0, hs0⟩ := one_row w 24 (.int .i64 us.length) (.slice a us.length cap) rfl
  obtain ⟨_, h16, _, hin, hord⟩ := code_zero (codeS_zero hc).1
  have hl16 : us.length ≤ 16 := by omega
  have oS := only_of hs (codeS_zero hc).2
  have oT := only_of ht (codeS_zero hc2).2
  have R1 := hR.step hb0
  have d1 := downA R1 cap hs hc
  have d2 := fun W (hW : Ready a us n₀ W) => downA hW cap ht hc2
  have lx := downW_lt hl16 s
  have ly := downW_lt hl16 t
  have d3 := fun W (hW : Ready a us n₀ W) => downA hW cap (orW_lt hs ht) (codeS_set hc (only_or oS oT))
  have d4 := fun W (hW : Ready a us n₀ W) => downA hW cap lx (codeS_set hc (only_down s))
  have d5 := fun W (hW : Ready a us n₀ W) => downA hW cap (andW_lt (b := downW us t) lx) (codeS_set hc (only_and (only_down s)))
  have e1 := bits_or32 s t hs ht
  have e2 := bits_and32 (downW us s) (downW us t) lx ly
  have e3 := bits_or32 (downW us s) s lx hs
  have e4 := bits_or32 (downW us s) (downW us t) lx ly
  rw [down_has hord oS] at e3
  rw [down_or] at d3
  rw [down_idem hin hord hR.fit] at d4
  rw [down_and hin hord hR.fit] at d5
  unfold setAns at d1 d2 d3 d4 d5
  generalize orW s t = st at *
  generalize andW (downW us s) (downW us t) = xy at *
  generalize orW (downW us s) (downW us t) = xoy at *
  generalize downW us s = x at *
  generalize downW us t = y at *
  have Hb := hide hb0
  clear hb0 hc hc2 hin hord oS oT
  go_enter Tryd.func5, Tryd.ntmps5
  go_wp2_with fail
  refine d1.mono ?_
  rintro e w1 ⟨rfl, hb1⟩
  have q0 := row_below r0 hb1 r0.lt
  have j0 := q0.cell (i := 0) rfl
  have j1 := q0.cell (i := 1) rfl
  have R2 := R1.step hb1
  have hs1 := hb1.size
  go_wp2_with fail
  refine (d2 w1 R2).mono ?_
  rintro e w2 ⟨rfl, hb2⟩
  have q1 := row_below q0 hb2 q0.lt
  have k0 := q1.cell (i := 0) rfl
  have k1 := q1.cell (i := 1) rfl
  have R3 := R2.step hb2
  have hs2 := hb2.size
  clear j0 j1
  go_wp2_with fail
  refine (d3 w2 R3).mono ?_
  rintro e w3 ⟨rfl, hb3⟩
  have q2 := row_below q1 hb3 q1.lt
  have l0 := q2.cell (i := 0) rfl
  have l1 := q2.cell (i := 1) rfl
  have R4 := R3.step hb3
  have hs3 := hb3.size
  clear k0 k1
  go_wp2_with fail
  refine (d4 w3 R4).mono ?_
  rintro e w4 ⟨rfl, hb4⟩
  have q3 := row_below q2 hb4 q2.lt
  have m0 := q3.cell (i := 0) rfl
  have m1 := q3.cell (i := 1) rfl
  have R5 := R4.step hb4
  have hs4 := hb4.size
  clear l0 l1
  go_wp2_with fail
  refine (d5 w4 R5).mono ?_
  rintro e w5 ⟨rfl, hb5⟩
  go_wp2_with fail
  go_ret
  exact ⟨ret_bool (by simp), ((((Hb.out.trans (hb1.mono (by omega))).trans (hb2.mono (by omega))).trans (hb3.mono (by omega))).trans (hb4.mono (by omega))).trans (hb5.mono (by omega))⟩

/-- **DownsCloses answers true, for every order and any two sets, and writes nothing that was there** -/
theorem dcloses_any (n : Int) (a : Option Addr) (cap : Nat) (us : List Nat) (s t : Nat) (hs : s < 4294967296) (ht : t < 4294967296) (n₀ : Nat) (hf : Fit us) (w : World) (hT : TabAt w) (hw : IsWords n₀ w a us) (hg : 0 < n₀) (hn₀ : n₀ ≤ w.heap.size) :
    Calls Tryd.prog 5 #[.agg #[.int .i64 n, .slice a us.length cap], .int .u32 s, .int .u32 t] w fun e w' => e = .returned (.bool true) ∧ Below w.heap.size w w' := by
  have hR : Ready a us n₀ w := ⟨hf, hT, hw, hg, hn₀⟩
  by_cases hc : codeS n us s = 0
  · have hl := codeS_len hc
    subst hl
    by_cases hc2 : codeS us.length us t = 0
    · exact dcloses_ok a cap us s t hs ht n₀ w hR hc hc2
    · exact dcloses_two a cap us s t hs ht n₀ w hR hc hc2
  · exact dcloses_one n a cap us s t hs ht n₀ w hR hc
end Go.Proofs.YtnmiebeochinmaaDoor
