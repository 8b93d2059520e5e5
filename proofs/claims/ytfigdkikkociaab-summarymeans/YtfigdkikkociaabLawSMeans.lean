/- The walk of the law SummaryMeans: it answers true, and writes nothing that was there. -/
import Derived.Test.YtfigdkikkociaabSumCall
namespace Go.Proofs.Ytfigdkikkociaab
open Go.RowKit Go.Shelf

set_option maxRecDepth 100000 in
set_option maxHeartbeats 8000000 in
theorem smeans_any (k0 d0 : Int) (a0 : Option Addr) (cap0 : Nat) (z0 : List Int) (k1 d1 : Int) (a1 : Option Addr) (cap1 : Nat) (z1 : List Int) (a2 : Option Addr) (cap2 : Nat) (z2 : List Int) (n₀ : Nat) (w : World) (g0 : SArg n₀ w a0 cap0 z0) (g1 : SArg n₀ w a1 cap1 z1) (g2 : SArg n₀ w a2 cap2 z2) (hn₀ : n₀ ≤ w.heap.size) :
    Calls Try.prog 4 #[.agg #[.int .i64 k0, .int .i64 d0, .slice a0 z0.length cap0], .agg #[.int .i64 k1, .int .i64 d1, .slice a1 z1.length cap1], .slice a2 z2.length cap2] w fun e w' => e = .returned (.bool true) ∧ Below w.heap.size w w' := by
  obtain ⟨p0, p1, hB, hs0⟩ := sum_rows w (.int .i64 k0) (.int .i64 d0) (.slice a0 z0.length cap0) (.int .i64 k1) (.int .i64 d1) (.slice a1 z1.length cap1) rfl
  obtain ⟨W0, hW0⟩ : ∃ V, ((w).alloc (.cells #[.int .i64 k0, .int .i64 d0, .slice a0 z0.length cap0] 24)).alloc (.cells #[.int .i64 k1, .int .i64 d1, .slice a1 z1.length cap1] 24) = V := ⟨_, rfl⟩
  rw [hW0] at p0 p1 hB hs0
  replace g0 := (g0.mono hn₀).step hB
  replace g1 := (g1.mono hn₀).step hB
  replace g2 := (g2.mono hn₀).step hB
  clear hs0
  have p0c0 := p0.cell (i := 0) rfl
  have p0c1 := p0.cell (i := 1) rfl
  have p0c2 := p0.cell (i := 2) rfl
  have p0l := p0.lt
  have p1c0 := p1.cell (i := 0) rfl
  have p1c1 := p1.cell (i := 1) rfl
  have p1c2 := p1.cell (i := 2) rfl
  have p1l := p1.lt
  go_enter Try.func4, Try.ntmps4
  go_wp2_with fail
  refine (cApply g0 g2).mono ?_
  rintro e w1 ⟨l1, al1, cl1, hl1, rfl, e1, hb⟩
  dsimp only
  clear p0c0 p0c1 p0c2 p1c0 p1c1 p1c2 p0l p1l
  replace p0 := row_below p0 hb p0.lt
  replace p1 := row_below p1 hb p1.lt
  replace g0 := g0.step hb
  replace g1 := g1.step hb
  replace g2 := g2.step hb
  replace hB := hB.trans (hb.mono hB.size)
  have p0c0 := p0.cell (i := 0) rfl
  have p0c1 := p0.cell (i := 1) rfl
  have p0c2 := p0.cell (i := 2) rfl
  have p0l := p0.lt
  have p1c0 := p1.cell (i := 0) rfl
  have p1c1 := p1.cell (i := 1) rfl
  have p1c2 := p1.cell (i := 2) rfl
  have p1l := p1.lt
  clear hb
  have Hl1 := hide hl1
  clear hl1
  go_wp2_with fail
  refine (cApply g1 g2).mono ?_
  rintro e w2 ⟨l2, al2, cl2, hl2, rfl, e2, hb⟩
  dsimp only
  clear p0c0 p0c1 p0c2 p1c0 p1c1 p1c2 p0l p1l
  replace p0 := row_below p0 hb p0.lt
  replace p1 := row_below p1 hb p1.lt
  replace g0 := g0.step hb
  replace g1 := g1.step hb
  replace g2 := g2.step hb
  replace e1 := e1.step hb
  replace hB := hB.trans (hb.mono hB.size)
  have p0c0 := p0.cell (i := 0) rfl
  have p0c1 := p0.cell (i := 1) rfl
  have p0c2 := p0.cell (i := 2) rfl
  have p0l := p0.lt
  have p1c0 := p1.cell (i := 0) rfl
  have p1c1 := p1.cell (i := 1) rfl
  have p1c2 := p1.cell (i := 2) rfl
  have p1l := p1.lt
  clear hb
  have Hl2 := hide hl2
  clear hl2
  go_wp2_with fail
  refine (cCheck (k := k0) (d := d0) (n := 4) g0).mono ?_
  rintro e w3 ⟨rfl, hb⟩
  dsimp only
  clear p0c0 p0c1 p0c2 p1c0 p1c1 p1c2 p0l p1l
  replace p0 := row_below p0 hb p0.lt
  replace p1 := row_below p1 hb p1.lt
  replace g0 := g0.step hb
  replace g1 := g1.step hb
  replace g2 := g2.step hb
  replace e1 := e1.step hb
  replace e2 := e2.step hb
  replace hB := hB.trans (hb.mono hB.size)
  have p0c0 := p0.cell (i := 0) rfl
  have p0c1 := p0.cell (i := 1) rfl
  have p0c2 := p0.cell (i := 2) rfl
  have p0l := p0.lt
  have p1c0 := p1.cell (i := 0) rfl
  have p1c1 := p1.cell (i := 1) rfl
  have p1c2 := p1.cell (i := 2) rfl
  have p1l := p1.lt
  clear hb
  by_cases hc : codeS ⟨k0, d0, z0⟩ 4 = 0
  · skip
    have hr := leqM_refl hc
    go_wp2_with fail
    refine (cLeq g0 g0).mono ?_
    rintro e w4 ⟨rfl, hb⟩
    dsimp only
    clear p0c0 p0c1 p0c2 p1c0 p1c1 p1c2 p0l p1l
    replace p0 := row_below p0 hb p0.lt
    replace p1 := row_below p1 hb p1.lt
    replace g0 := g0.step hb
    replace g1 := g1.step hb
    replace g2 := g2.step hb
    replace e1 := e1.step hb
    replace e2 := e2.step hb
    replace hB := hB.trans (hb.mono hB.size)
    have p0c0 := p0.cell (i := 0) rfl
    have p0c1 := p0.cell (i := 1) rfl
    have p0c2 := p0.cell (i := 2) rfl
    have p0l := p0.lt
    have p1c0 := p1.cell (i := 0) rfl
    have p1c1 := p1.cell (i := 1) rfl
    have p1c2 := p1.cell (i := 2) rfl
    have p1l := p1.lt
    clear hb
    go_wp2_with fail
    refine (cLeq g0 g1).mono ?_
    rintro e w5 ⟨rfl, hb⟩
    dsimp only
    clear p0c0 p0c1 p0c2 p1c0 p1c1 p1c2 p0l p1l
    replace p0 := row_below p0 hb p0.lt
    replace p1 := row_below p1 hb p1.lt
    replace g0 := g0.step hb
    replace g1 := g1.step hb
    replace g2 := g2.step hb
    replace e1 := e1.step hb
    replace e2 := e2.step hb
    replace hB := hB.trans (hb.mono hB.size)
    have p0c0 := p0.cell (i := 0) rfl
    have p0c1 := p0.cell (i := 1) rfl
    have p0c2 := p0.cell (i := 2) rfl
    have p0l := p0.lt
    have p1c0 := p1.cell (i := 0) rfl
    have p1c1 := p1.cell (i := 1) rfl
    have p1c2 := p1.cell (i := 2) rfl
    have p1l := p1.lt
    clear hb
    cases hq : leqM ⟨k0, d0, z0⟩ ⟨k1, d1, z1⟩ with
    | false =>
      go_wp2_with fail
      go_ret
      exact ⟨rfl, hB⟩
    | true =>
      by_cases h1 : codeA ⟨k0, d0, z0⟩ z2 = 0
      · skip
        by_cases h2 : codeA ⟨k1, d1, z1⟩ z2 = 0
        · skip
          have f9 : leqT l1 l2 = true := by rw [Hl1.out, Hl2.out, resA_ok h1, resA_ok h2]; exact make_leq hq h1 h2
          go_wp2_with fail
          refine (tLeq e1 e2).mono ?_
          rintro e w6 ⟨rfl, hb⟩
          dsimp only
          clear p0c0 p0c1 p0c2 p1c0 p1c1 p1c2 p0l p1l
          replace p0 := row_below p0 hb p0.lt
          replace p1 := row_below p1 hb p1.lt
          replace g0 := g0.step hb
          replace g1 := g1.step hb
          replace g2 := g2.step hb
          replace e1 := e1.step hb
          replace e2 := e2.step hb
          replace hB := hB.trans (hb.mono hB.size)
          have p0c0 := p0.cell (i := 0) rfl
          have p0c1 := p0.cell (i := 1) rfl
          have p0c2 := p0.cell (i := 2) rfl
          have p0l := p0.lt
          have p1c0 := p1.cell (i := 0) rfl
          have p1c1 := p1.cell (i := 1) rfl
          have p1c2 := p1.cell (i := 2) rfl
          have p1l := p1.lt
          clear hb
          go_wp2_with fail
          go_ret
          exact ⟨rfl, hB⟩
        · skip
          have f9 : (codeA ⟨k1, d1, z1⟩ z2 != 0) = true := by rw [bne_iff_ne]; exact h2
          clear h2
          go_wp2_with fail
          go_ret
          exact ⟨rfl, hB⟩
      · skip
        have f9 : (codeA ⟨k0, d0, z0⟩ z2 != 0) = true := by rw [bne_iff_ne]; exact h1
        clear h1
        go_wp2_with fail
        go_ret
        exact ⟨rfl, hB⟩
  · skip
    have f1 : (codeS ⟨k0, d0, z0⟩ 4 == 0) = false := by rw [beq_eq_false_iff_ne]; exact hc
    clear hc
    go_wp2_with fail
    refine (cLeq g0 g1).mono ?_
    rintro e w4 ⟨rfl, hb⟩
    dsimp only
    clear p0c0 p0c1 p0c2 p1c0 p1c1 p1c2 p0l p1l
    replace p0 := row_below p0 hb p0.lt
    replace p1 := row_below p1 hb p1.lt
    replace g0 := g0.step hb
    replace g1 := g1.step hb
    replace g2 := g2.step hb
    replace e1 := e1.step hb
    replace e2 := e2.step hb
    replace hB := hB.trans (hb.mono hB.size)
    have p0c0 := p0.cell (i := 0) rfl
    have p0c1 := p0.cell (i := 1) rfl
    have p0c2 := p0.cell (i := 2) rfl
    have p0l := p0.lt
    have p1c0 := p1.cell (i := 0) rfl
    have p1c1 := p1.cell (i := 1) rfl
    have p1c2 := p1.cell (i := 2) rfl
    have p1l := p1.lt
    clear hb
    cases hq : leqM ⟨k0, d0, z0⟩ ⟨k1, d1, z1⟩ with
    | false =>
      go_wp2_with fail
      go_ret
      exact ⟨rfl, hB⟩
    | true =>
      by_cases h1 : codeA ⟨k0, d0, z0⟩ z2 = 0
      · skip
        by_cases h2 : codeA ⟨k1, d1, z1⟩ z2 = 0
        · skip
          have f9 : leqT l1 l2 = true := by rw [Hl1.out, Hl2.out, resA_ok h1, resA_ok h2]; exact make_leq hq h1 h2
          go_wp2_with fail
          refine (tLeq e1 e2).mono ?_
          rintro e w5 ⟨rfl, hb⟩
          dsimp only
          clear p0c0 p0c1 p0c2 p1c0 p1c1 p1c2 p0l p1l
          replace p0 := row_below p0 hb p0.lt
          replace p1 := row_below p1 hb p1.lt
          replace g0 := g0.step hb
          replace g1 := g1.step hb
          replace g2 := g2.step hb
          replace e1 := e1.step hb
          replace e2 := e2.step hb
          replace hB := hB.trans (hb.mono hB.size)
          have p0c0 := p0.cell (i := 0) rfl
          have p0c1 := p0.cell (i := 1) rfl
          have p0c2 := p0.cell (i := 2) rfl
          have p0l := p0.lt
          have p1c0 := p1.cell (i := 0) rfl
          have p1c1 := p1.cell (i := 1) rfl
          have p1c2 := p1.cell (i := 2) rfl
          have p1l := p1.lt
          clear hb
          go_wp2_with fail
          go_ret
          exact ⟨rfl, hB⟩
        · skip
          have f9 : (codeA ⟨k1, d1, z1⟩ z2 != 0) = true := by rw [bne_iff_ne]; exact h2
          clear h2
          go_wp2_with fail
          go_ret
          exact ⟨rfl, hB⟩
      · skip
        have f9 : (codeA ⟨k0, d0, z0⟩ z2 != 0) = true := by rw [bne_iff_ne]; exact h1
        clear h1
        go_wp2_with fail
        go_ret
        exact ⟨rfl, hB⟩
end Go.Proofs.Ytfigdkikkociaab
