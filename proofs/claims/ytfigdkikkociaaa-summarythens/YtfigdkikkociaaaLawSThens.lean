/- The walk of the law SummaryThens: it answers true, and writes nothing that was there. -/
import Derived.Test.YtfigdkikkociaaaSumCall
import Derived.Test.YtfigdkikkociaaaSumRefThen
namespace Go.Proofs.Ytfigdkikkociaaa
open Go.RowKit Go.Shelf

theorem rThen {k d : Int} {a : Option Addr} {cap : Nat} {zs : List Int} {k2 d2 : Int} {b : Option Addr} {cb : Nat} {z2 : List Int} {w : World} (h : SArg w.heap.size w a cap zs) (h2 : SArg w.heap.size w b cb z2) :
    Calls Try.prog 15 #[.agg #[.int .i64 k, .int .i64 d, .slice a zs.length cap], .agg #[.int .i64 k2, .int .i64 d2, .slice b z2.length cb]] w (GotN ⟨k, d, zs⟩ ⟨k2, d2, z2⟩ w) :=
  (rsthen_any k d a cap zs k2 d2 b cb z2 w.heap.size w h h2 (Nat.le_refl _)).mono fun _ _ h => got_n h

set_option maxRecDepth 100000 in
set_option maxHeartbeats 8000000 in
theorem sthens_any (k0 d0 : Int) (a0 : Option Addr) (cap0 : Nat) (z0 : List Int) (k1 d1 : Int) (a1 : Option Addr) (cap1 : Nat) (z1 : List Int) (n₀ : Nat) (w : World) (g0 : SArg n₀ w a0 cap0 z0) (g1 : SArg n₀ w a1 cap1 z1) (hn₀ : n₀ ≤ w.heap.size) :
    Calls Try.prog 4 #[.agg #[.int .i64 k0, .int .i64 d0, .slice a0 z0.length cap0], .agg #[.int .i64 k1, .int .i64 d1, .slice a1 z1.length cap1]] w fun e w' => e = .returned (.bool true) ∧ Below w.heap.size w w' := by
  obtain ⟨p0, p1, hB, hs0⟩ := sum_rows w (.int .i64 k0) (.int .i64 d0) (.slice a0 z0.length cap0) (.int .i64 k1) (.int .i64 d1) (.slice a1 z1.length cap1) rfl
  obtain ⟨W0, hW0⟩ : ∃ V, ((w).alloc (.cells #[.int .i64 k0, .int .i64 d0, .slice a0 z0.length cap0] 24)).alloc (.cells #[.int .i64 k1, .int .i64 d1, .slice a1 z1.length cap1] 24) = V := ⟨_, rfl⟩
  rw [hW0] at p0 p1 hB hs0
  replace g0 := (g0.mono hn₀).step hB
  replace g1 := (g1.mono hn₀).step hB
  clear hs0
  have p0c0 := p0.cell (i := 0) rfl
  have p0c1 := p0.cell (i := 1) rfl
  have p0c2 := p0.cell (i := 2) rfl
  have p0l := p0.lt
  have p1c0 := p1.cell (i := 0) rfl
  have p1c1 := p1.cell (i := 1) rfl
  have p1c2 := p1.cell (i := 2) rfl
  have p1l := p1.lt
  go_enter Try.func4, Try.ntmps4
  go_wp2_with fail
  refine (cThen g0 g1).mono ?_
  rintro e w1 ⟨⟨k3, d3, z3⟩, a3, c3, h3, rfl, e3, hb⟩
  have H3 := hide h3
  clear h3
  dsimp only at e3 ⊢
  clear p0c0 p0c1 p0c2 p1c0 p1c1 p1c2 p0l p1l
  replace p0 := row_below p0 hb p0.lt
  replace p1 := row_below p1 hb p1.lt
  replace g0 := g0.step hb
  replace g1 := g1.step hb
  replace hB := hB.trans (hb.mono hB.size)
  have p0c0 := p0.cell (i := 0) rfl
  have p0c1 := p0.cell (i := 1) rfl
  have p0c2 := p0.cell (i := 2) rfl
  have p0l := p0.lt
  have p1c0 := p1.cell (i := 0) rfl
  have p1c1 := p1.cell (i := 1) rfl
  have p1c2 := p1.cell (i := 2) rfl
  have p1l := p1.lt
  clear hb
  go_wp2_with fail
  have hb : Below w1.heap.size w1 (w1.alloc (.cells #[.int .i64 k3, .int .i64 d3, .slice a3 z3.length c3] 24)) := (Below.refl _ _).alloc (Nat.le_refl _) _
  have p3 := Row.new w1 24 [.int .i64 k3, .int .i64 d3, .slice a3 z3.length c3]
  obtain ⟨w2, hw2⟩ : ∃ V, w1.alloc (.cells #[.int .i64 k3, .int .i64 d3, .slice a3 z3.length c3] 24) = V := ⟨_, rfl⟩
  rw [hw2] at hb p3
  try rw [hw2]
  clear p0c0 p0c1 p0c2 p1c0 p1c1 p1c2 p0l p1l
  replace p0 := row_below p0 hb p0.lt
  replace p1 := row_below p1 hb p1.lt
  replace g0 := g0.step hb
  replace g1 := g1.step hb
  replace e3 := e3.step hb
  replace hB := hB.trans (hb.mono hB.size)
  have p0c0 := p0.cell (i := 0) rfl
  have p0c1 := p0.cell (i := 1) rfl
  have p0c2 := p0.cell (i := 2) rfl
  have p0l := p0.lt
  have p1c0 := p1.cell (i := 0) rfl
  have p1c1 := p1.cell (i := 1) rfl
  have p1c2 := p1.cell (i := 2) rfl
  have p1l := p1.lt
  clear hb
  clear p0c0 p0c1 p0c2 p1c0 p1c1 p1c2 p0l p1l
  have p0c0 := p0.cell (i := 0) rfl
  have p0c1 := p0.cell (i := 1) rfl
  have p0c2 := p0.cell (i := 2) rfl
  have p0l := p0.lt
  have p1c0 := p1.cell (i := 0) rfl
  have p1c1 := p1.cell (i := 1) rfl
  have p1c2 := p1.cell (i := 2) rfl
  have p1l := p1.lt
  have p3c0 := p3.cell (i := 0) rfl
  have p3c1 := p3.cell (i := 1) rfl
  have p3c2 := p3.cell (i := 2) rfl
  have p3l := p3.lt
  refine (rThen g0 g1).mono ?_
  rintro e w3 ⟨⟨k4, d4, z4⟩, a4, c4, h4, rfl, e4, hb⟩
  have H4 := hide h4
  clear h4
  dsimp only at e4 ⊢
  clear p0c0 p0c1 p0c2 p1c0 p1c1 p1c2 p3c0 p3c1 p3c2 p0l p1l p3l
  replace p0 := row_below p0 hb p0.lt
  replace p1 := row_below p1 hb p1.lt
  replace p3 := row_below p3 hb p3.lt
  replace g0 := g0.step hb
  replace g1 := g1.step hb
  replace e3 := e3.step hb
  replace hB := hB.trans (hb.mono hB.size)
  have p0c0 := p0.cell (i := 0) rfl
  have p0c1 := p0.cell (i := 1) rfl
  have p0c2 := p0.cell (i := 2) rfl
  have p0l := p0.lt
  have p1c0 := p1.cell (i := 0) rfl
  have p1c1 := p1.cell (i := 1) rfl
  have p1c2 := p1.cell (i := 2) rfl
  have p1l := p1.lt
  have p3c0 := p3.cell (i := 0) rfl
  have p3c1 := p3.cell (i := 1) rfl
  have p3c2 := p3.cell (i := 2) rfl
  have p3l := p3.lt
  clear hb
  have hee := H4.out.trans H3.out.symm
  cases hee
  go_wp2_with fail
  have hb : Below w3.heap.size w3 (w3.alloc (.cells #[.int .i64 k3, .int .i64 d3, .slice a4 z3.length c4] 24)) := (Below.refl _ _).alloc (Nat.le_refl _) _
  have p4 := Row.new w3 24 [.int .i64 k3, .int .i64 d3, .slice a4 z3.length c4]
  obtain ⟨w4, hw4⟩ : ∃ V, w3.alloc (.cells #[.int .i64 k3, .int .i64 d3, .slice a4 z3.length c4] 24) = V := ⟨_, rfl⟩
  rw [hw4] at hb p4
  try rw [hw4]
  clear p0c0 p0c1 p0c2 p1c0 p1c1 p1c2 p3c0 p3c1 p3c2 p0l p1l p3l
  replace p0 := row_below p0 hb p0.lt
  replace p1 := row_below p1 hb p1.lt
  replace p3 := row_below p3 hb p3.lt
  replace g0 := g0.step hb
  replace g1 := g1.step hb
  replace e3 := e3.step hb
  replace e4 := e4.step hb
  replace hB := hB.trans (hb.mono hB.size)
  have p0c0 := p0.cell (i := 0) rfl
  have p0c1 := p0.cell (i := 1) rfl
  have p0c2 := p0.cell (i := 2) rfl
  have p0l := p0.lt
  have p1c0 := p1.cell (i := 0) rfl
  have p1c1 := p1.cell (i := 1) rfl
  have p1c2 := p1.cell (i := 2) rfl
  have p1l := p1.lt
  have p3c0 := p3.cell (i := 0) rfl
  have p3c1 := p3.cell (i := 1) rfl
  have p3c2 := p3.cell (i := 2) rfl
  have p3l := p3.lt
  clear hb
  clear p0c0 p0c1 p0c2 p1c0 p1c1 p1c2 p3c0 p3c1 p3c2 p0l p1l p3l
  have f1 : (codeN ⟨k0, d0, z0⟩ ⟨k1, d1, z1⟩ == codeN ⟨k0, d0, z0⟩ ⟨k1, d1, z1⟩) = true := beq_self_eq_true _
  have f2 : sameM ⟨k3, d3, z3⟩ ⟨k3, d3, z3⟩ = true := sameM_true.2 rfl
  have f3 : (leqM ⟨k0, d0, z0⟩ ⟨k1, d1, z1⟩ == leqM ⟨k0, d0, z0⟩ ⟨k1, d1, z1⟩) = true := beq_self_eq_true _
  obtain ⟨p0q0, p0q1, p0q2⟩ := p0.re
  obtain ⟨p1q0, p1q1, p1q2⟩ := p1.re
  obtain ⟨p3q0, p3q1, p3q2⟩ := p3.re
  obtain ⟨p4q0, p4q1, p4q2⟩ := p4.re
  have q0 := regr (W := w4) (fun V hV => rSame (k := k3) (d := d3) (k2 := k3) (d2 := d3) (e3.step hV) (e4.step hV))
  have q1 := regr (W := w4) (fun V hV => cLeq (k := k0) (d := d0) (k2 := k1) (d2 := d1) (g0.step hV) (g1.step hV))
  have q2 := regr (W := w4) (fun V hV => rLeq (k := k0) (d := d0) (k2 := k1) (d2 := d1) (g0.step hV) (g1.step hV))
  refine wp_region_quiet_below (by kernel_rfl) (by kernel_rfl) ?_
  repeat (go_big_quiet_step (first | with_reducible exact q0 _ _ | with_reducible exact q1 _ _ | with_reducible exact q2 _ _))
  refine wpQuiet_nil ?_
  intro _ hw'
  obtain ⟨⟨dq, osq⟩, hw''⟩ := hw'
  subst hw''
  replace hB := hB.trans ((below_regrown w4 dq osq).mono hB.size)
  go_wp2_with fail
  go_ret
  exact ⟨rfl, hB⟩
end Go.Proofs.Ytfigdkikkociaaa
