/- The walk of the law SummaryTells: it answers true, and writes nothing that was there. -/
import Derived.Test.YtfigdkikkociaaaSumCall
namespace Go.Proofs.Ytfigdkikkociaaa
open Go.RowKit Go.Shelf

set_option maxRecDepth 100000 in
set_option maxHeartbeats 8000000 in
theorem stells_any (k0 d0 : Int) (a0 : Option Addr) (cap0 : Nat) (z0 : List Int) (x1 : Int) (a2 : Option Addr) (cap2 : Nat) (z2 : List Int) (n₀ : Nat) (w : World) (g0 : SArg n₀ w a0 cap0 z0) (g2 : SArg n₀ w a2 cap2 z2) (hn₀ : n₀ ≤ w.heap.size) :
    Calls Try.prog 3 #[.agg #[.int .i64 k0, .int .i64 d0, .slice a0 z0.length cap0], .int .i64 x1, .slice a2 z2.length cap2] w fun e w' => e = .returned (.bool true) ∧ Below w.heap.size w w' := by
  obtain ⟨p0, hB, hs0⟩ := sum_row w (.int .i64 k0) (.int .i64 d0) (.slice a0 z0.length cap0) rfl
  obtain ⟨W0, hW0⟩ : ∃ V, (w).alloc (.cells #[.int .i64 k0, .int .i64 d0, .slice a0 z0.length cap0] 24) = V := ⟨_, rfl⟩
  rw [hW0] at p0 hB hs0
  replace g0 := (g0.mono hn₀).step hB
  replace g2 := (g2.mono hn₀).step hB
  clear hs0
  have p0c0 := p0.cell (i := 0) rfl
  have p0c1 := p0.cell (i := 1) rfl
  have p0c2 := p0.cell (i := 2) rfl
  have p0l := p0.lt
  go_enter Try.func3, Try.ntmps3
  go_wp2_with fail
  refine (cApply g0 g2).mono ?_
  rintro e w1 ⟨l1, al1, cl1, hl1, rfl, e1, hb⟩
  dsimp only
  clear p0c0 p0c1 p0c2 p0l
  replace p0 := row_below p0 hb p0.lt
  replace g0 := g0.step hb
  replace g2 := g2.step hb
  replace hB := hB.trans (hb.mono hB.size)
  have p0c0 := p0.cell (i := 0) rfl
  have p0c1 := p0.cell (i := 1) rfl
  have p0c2 := p0.cell (i := 2) rfl
  have p0l := p0.lt
  clear hb
  have Hl1 := hide hl1
  clear hl1
  go_wp2_with fail
  refine (rApply g0 g2).mono ?_
  rintro e w2 ⟨l2, al2, cl2, hl2, rfl, e2, hb⟩
  dsimp only
  clear p0c0 p0c1 p0c2 p0l
  replace p0 := row_below p0 hb p0.lt
  replace g0 := g0.step hb
  replace g2 := g2.step hb
  replace e1 := e1.step hb
  replace hB := hB.trans (hb.mono hB.size)
  have p0c0 := p0.cell (i := 0) rfl
  have p0c1 := p0.cell (i := 1) rfl
  have p0c2 := p0.cell (i := 2) rfl
  have p0l := p0.lt
  clear hb
  have Hl2 := hide hl2
  clear hl2
  have hl2 := Hl2.out
  rw [← Hl1.out] at hl2
  subst hl2
  have f1 : (codeS ⟨k0, d0, z0⟩ x1 == codeS ⟨k0, d0, z0⟩ x1) = true := beq_self_eq_true _
  have f2 : (codeA ⟨k0, d0, z0⟩ z2 == codeA ⟨k0, d0, z0⟩ z2) = true := beq_self_eq_true _
  have f3 := sameB_true.2 (rfl : l2 = l2)
  have HX := True.intro
  go_wp2_with fail
  obtain ⟨p0q0, p0q1, p0q2⟩ := p0.re
  have q0 := regr (fun V hV => cCheck (k := k0) (d := d0) (n := x1) (g0.step hV))
  have q1 := regr (fun V hV => rscheck_any k0 d0 a0 cap0 z0 x1 V.heap.size g0.len V (g0.step hV).lies (Nat.le_refl _))
  have q2 := regr (fun V hV => tSame (e1.step hV) (e2.step hV))
  refine wp_region_quiet_below (by kernel_rfl) (by kernel_rfl) ?_
  repeat (go_big_quiet_step (first | with_reducible exact q0 _ _ | with_reducible exact q1 _ _ | with_reducible exact q2 _ _))
  refine wpQuiet_nil ?_
  intro _ hw'
  obtain ⟨⟨dq, osq⟩, hw''⟩ := hw'
  subst hw''
  replace hB := hB.trans ((below_regrown w2 dq osq).mono hB.size)
  go_wp2_with fail
  go_ret
  exact ⟨rfl, hB⟩
end Go.Proofs.Ytfigdkikkociaaa
