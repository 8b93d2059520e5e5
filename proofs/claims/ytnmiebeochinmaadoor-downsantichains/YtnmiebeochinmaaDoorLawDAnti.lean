/- The walk of the law DownsAntichains: it answers true, and writes nothing that was there. -/
import Derived.Test.YtnmiebeochinmaaDoorDownAny
namespace Go.Proofs.YtnmiebeochinmaaDoor
open Go.RowKit Go.Shelf

set_option maxRecDepth 100000 in
set_option maxHeartbeats 1000000 in
theorem danti_bad (n : Int) (a : Option Addr) (cap : Nat) (us : List Nat) (s : Nat) (hs : s < 4294967296) (n₀ : Nat) (w : World) (hR : Ready a us n₀ w) (hc : codeS n us s ≠ 0) :
    Calls Tryd.prog 6 #[.agg #[.int .i64 n, .slice a us.length cap], .int .u32 s] w fun e w' => e = .returned (.bool true) ∧ Below w.heap.size w w' := by
  obtain ⟨r0, hb0, hs0⟩ := one_row w 24 (.int .i64 n) (.slice a us.length cap) rfl
  have R1 := hR.step hb0
  have d1 := downB R1 n cap hs hc
  have d2 := fun W (hW : Ready a us n₀ W) => maxB hW n cap hs hc
  unfold setAns at d1 d2
  generalize codeS n us s = c at *
  have hne : (c != 0) = true := by rw [bne_iff_ne]; exact hc
  have Hb := hide hb0
  clear hb0 hc
  go_enter Tryd.func6, Tryd.ntmps6
  go_wp2_with fail
  refine d1.mono ?_
  rintro e w1 ⟨rfl, hb1⟩
  have q0 := row_below r0 hb1 r0.lt
  have j0 := q0.cell (i := 0) rfl
  have j1 := q0.cell (i := 1) rfl
  go_wp2_with fail
  refine (d2 w1 (R1.step hb1)).mono ?_
  rintro e w2 ⟨rfl, hb2⟩
  go_wp2_with fail
  go_ret
  exact ⟨ret_bool (by simp), (Hb.out.trans (hb1.mono (by omega))).trans (hb2.mono (by have := hb1.size; omega))⟩

set_option maxRecDepth 100000 in
set_option maxHeartbeats 1000000 in
theorem danti_ok (a : Option Addr) (cap : Nat) (us : List Nat) (s : Nat) (hs : s < 4294967296) (n₀ : Nat) (w : World) (hR : Ready a us n₀ w) (hc : codeS us.length us s = 0) :
    Calls Tryd.prog 6 #[.agg #[.int .i64 us.length, .slice a us.length cap], .int .u32 s] w fun e w' => e = .returned (.bool true) ∧ Below w.heap.size w w' := by
  obtain ⟨r0, hb0, hs0⟩ := one_row w 24 (.int .i64 us.length) (.slice a us.length cap) rfl
  obtain ⟨_, h16, _, hin, hord⟩ := code_zero (codeS_zero hc).1
  have hl16 : us.length ≤ 16 := by omega
  have oS := only_of hs (codeS_zero hc).2
  have R1 := hR.step hb0
  have lx := downW_lt hl16 s
  have lm := endsW_lt hl16 s
  have d1 := downA R1 cap hs hc
  have d2 := fun W (hW : Ready a us n₀ W) => maxA hW cap hs hc
  have d3 := fun W (hW : Ready a us n₀ W) => maxA hW cap lx (codeS_set hc (only_down s))
  have d4 := fun W (hW : Ready a us n₀ W) => downA hW cap lm (codeS_set hc (only_ends s))
  have d5 : ∀ W, Ready a us n₀ W → Calls Tryd.prog 9 #[.agg #[.int .i64 us.length, .slice a us.length cap], .int .u32 (endsW us s : Nat)] W fun e w' => e = setAns 0 (endsW us s) ∧ Below W.heap.size W w' := fun W hW =>
    (minA hW cap lm (codeS_set hc (only_ends s))).mono fun e w' ⟨ds, h1, h2, h3⟩ => ⟨by rw [h1, ends_turned h2.len (fun i hi j => by rw [h2.has i hi j]; simp)], h3⟩
  have e1 := bits_or32 (endsW us s) s lm hs
  rw [ends_sub] at e1
  rw [ends_down hin hord hR.fit oS] at d3
  rw [down_ends hin hord hR.fit oS] at d4
  have hz : ((endsW us s : Nat) : Int) = 0 → (s : Int) = 0 := fun h => by have := ends_some hin hord hR.fit oS (by omega); omega
  unfold setAns at d1 d2 d3 d4 d5
  generalize endsW us s = m at *
  generalize downW us s = x at *
  have Hb := hide hb0
  clear hb0 hc hin hord oS
  have main : ∀ mm : Bool, ((m : Int) != 0) = mm → ((s : Int) == 0) = !mm ∨ mm = true → Calls Tryd.prog 6 #[.agg #[.int .i64 us.length, .slice a us.length cap], .int .u32 s] w fun e w' => e = .returned (.bool true) ∧ Below w.heap.size w w' := by
    intro mm hm hsz
    cases mm with
    | true =>
      clear hsz hz
      go_enter Tryd.func6, Tryd.ntmps6
      go_wp2_with fail
      refine d1.mono ?_
      rintro e w1 ⟨rfl, hb1⟩
      have q0 := row_below r0 hb1 r0.lt
      have j0 := q0.cell (i := 0) rfl
      have j1 := q0.cell (i := 1) rfl
      have R2 := R1.step hb1
      have hs1 := hb1.size
      go_wp2_with fail
      refine (d2 w1 R2).mono ?_
      rintro e w2 ⟨rfl, hb2⟩
      have q1 := row_below q0 hb2 q0.lt
      have k0 := q1.cell (i := 0) rfl
      have k1 := q1.cell (i := 1) rfl
      have R3 := R2.step hb2
      have hs2 := hb2.size
      clear j0 j1
      go_wp2_with fail
      refine (d3 w2 R3).mono ?_
      rintro e w3 ⟨rfl, hb3⟩
      have q2 := row_below q1 hb3 q1.lt
      have l0 := q2.cell (i := 0) rfl
      have l1 := q2.cell (i := 1) rfl
      have R4 := R3.step hb3
      have hs3 := hb3.size
      clear k0 k1
      go_wp2_with fail
      refine (d4 w3 R4).mono ?_
      rintro e w4 ⟨rfl, hb4⟩
      have q3 := row_below q2 hb4 q2.lt
      have m0 := q3.cell (i := 0) rfl
      have m1 := q3.cell (i := 1) rfl
      have R5 := R4.step hb4
      have hs4 := hb4.size
      clear l0 l1
      go_wp2_with fail
      refine (d5 w4 R5).mono ?_
      rintro e w5 ⟨rfl, hb5⟩
      go_wp2_with fail
      go_ret
      exact ⟨ret_bool (by simp), ((((Hb.out.trans (hb1.mono (by omega))).trans (hb2.mono (by omega))).trans (hb3.mono (by omega))).trans (hb4.mono (by omega))).trans (hb5.mono (by omega))⟩
    | false =>
      have hs00 : ((s : Int) == 0) = true := by rcases hsz with h | h; exact h; cases h
      clear hsz hz
      go_enter Tryd.func6, Tryd.ntmps6
      go_wp2_with fail
      refine d1.mono ?_
      rintro e w1 ⟨rfl, hb1⟩
      have q0 := row_below r0 hb1 r0.lt
      have j0 := q0.cell (i := 0) rfl
      have j1 := q0.cell (i := 1) rfl
      have R2 := R1.step hb1
      have hs1 := hb1.size
      go_wp2_with fail
      refine (d2 w1 R2).mono ?_
      rintro e w2 ⟨rfl, hb2⟩
      have q1 := row_below q0 hb2 q0.lt
      have k0 := q1.cell (i := 0) rfl
      have k1 := q1.cell (i := 1) rfl
      have R3 := R2.step hb2
      have hs2 := hb2.size
      clear j0 j1
      go_wp2_with fail
      refine (d3 w2 R3).mono ?_
      rintro e w3 ⟨rfl, hb3⟩
      have q2 := row_below q1 hb3 q1.lt
      have l0 := q2.cell (i := 0) rfl
      have l1 := q2.cell (i := 1) rfl
      have R4 := R3.step hb3
      have hs3 := hb3.size
      clear k0 k1
      go_wp2_with fail
      refine (d4 w3 R4).mono ?_
      rintro e w4 ⟨rfl, hb4⟩
      have q3 := row_below q2 hb4 q2.lt
      have m0 := q3.cell (i := 0) rfl
      have m1 := q3.cell (i := 1) rfl
      have R5 := R4.step hb4
      have hs4 := hb4.size
      clear l0 l1
      go_wp2_with fail
      refine (d5 w4 R5).mono ?_
      rintro e w5 ⟨rfl, hb5⟩
      go_wp2_with fail
      go_ret
      exact ⟨ret_bool (by simp), ((((Hb.out.trans (hb1.mono (by omega))).trans (hb2.mono (by omega))).trans (hb3.mono (by omega))).trans (hb4.mono (by omega))).trans (hb5.mono (by omega))⟩
  cases hm : ((m : Int) != 0) with
  | true => exact main true hm (.inr rfl)
  | false => exact main false hm (.inl (by rw [bne_eq_false_iff_eq] at hm; rw [hz hm]; rfl))

/-- **DownsAntichains answers true, for every order and any set, and writes nothing that was there** -/
theorem danti_any (n : Int) (a : Option Addr) (cap : Nat) (us : List Nat) (s : Nat) (hs : s < 4294967296) (n₀ : Nat) (hf : Fit us) (w : World) (hT : TabAt w) (hw : IsWords n₀ w a us) (hg : 0 < n₀) (hn₀ : n₀ ≤ w.heap.size) :
    Calls Tryd.prog 6 #[.agg #[.int .i64 n, .slice a us.length cap], .int .u32 s] w fun e w' => e = .returned (.bool true) ∧ Below w.heap.size w w' := by
  have hR : Ready a us n₀ w := ⟨hf, hT, hw, hg, hn₀⟩
  by_cases hc : codeS n us s = 0
  · have hl := codeS_len hc
    subst hl
    exact danti_ok a cap us s hs n₀ w hR hc
  · exact danti_bad n a cap us s hs n₀ w hR hc
end Go.Proofs.YtnmiebeochinmaaDoor
