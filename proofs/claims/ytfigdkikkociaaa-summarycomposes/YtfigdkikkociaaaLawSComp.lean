/- The walk of the law SummaryComposes: it answers true, and writes nothing that was there. -/
import Derived.Test.YtfigdkikkociaaaSumCall
namespace Go.Proofs.Ytfigdkikkociaaa
open Go.RowKit Go.Shelf

set_option maxRecDepth 100000 in
set_option maxHeartbeats 8000000 in
theorem scomp_any (k0 d0 : Int) (a0 : Option Addr) (cap0 : Nat) (z0 : List Int) (k1 d1 : Int) (a1 : Option Addr) (cap1 : Nat) (z1 : List Int) (a2 : Option Addr) (cap2 : Nat) (z2 : List Int) (n₀ : Nat) (w : World) (g0 : SArg n₀ w a0 cap0 z0) (g1 : SArg n₀ w a1 cap1 z1) (g2 : SArg n₀ w a2 cap2 z2) (hn₀ : n₀ ≤ w.heap.size) :
    Calls Try.prog 7 #[.agg #[.int .i64 k0, .int .i64 d0, .slice a0 z0.length cap0], .agg #[.int .i64 k1, .int .i64 d1, .slice a1 z1.length cap1], .slice a2 z2.length cap2] w fun e w' => e = .returned (.bool true) ∧ Below w.heap.size w w' := by
  obtain ⟨p0, p1, hB, hs0⟩ := sum_rows w (.int .i64 k0) (.int .i64 d0) (.slice a0 z0.length cap0) (.int .i64 k1) (.int .i64 d1) (.slice a1 z1.length cap1) rfl
  obtain ⟨W0, hW0⟩ : ∃ V, ((w).alloc (.cells #[.int .i64 k0, .int .i64 d0, .slice a0 z0.length cap0] 24)).alloc (.cells #[.int .i64 k1, .int .i64 d1, .slice a1 z1.length cap1] 24) = V := ⟨_, rfl⟩
  rw [hW0] at p0 p1 hB hs0
  replace g0 := (g0.mono hn₀).step hB
  replace g1 := (g1.mono hn₀).step hB
  replace g2 := (g2.mono hn₀).step hB
  clear hs0
  have p0c0 := p0.cell (i := 0) rfl
  have p0c1 := p0.cell (i := 1) rfl
  have p0c2 := p0.cell (i := 2) rfl
  have p0l := p0.lt
  have p1c0 := p1.cell (i := 0) rfl
  have p1c1 := p1.cell (i := 1) rfl
  have p1c2 := p1.cell (i := 2) rfl
  have p1l := p1.lt
  go_enter Try.func7, Try.ntmps7
  go_wp2_with fail
  refine (cApply g0 g2).mono ?_
  rintro e w1 ⟨l1, al1, cl1, hl1, rfl, e1, hb⟩
  dsimp only
  clear p0c0 p0c1 p0c2 p1c0 p1c1 p1c2 p0l p1l
  replace p0 := row_below p0 hb p0.lt
  replace p1 := row_below p1 hb p1.lt
  replace g0 := g0.step hb
  replace g1 := g1.step hb
  replace g2 := g2.step hb
  replace hB := hB.trans (hb.mono hB.size)
  have p0c0 := p0.cell (i := 0) rfl
  have p0c1 := p0.cell (i := 1) rfl
  have p0c2 := p0.cell (i := 2) rfl
  have p0l := p0.lt
  have p1c0 := p1.cell (i := 0) rfl
  have p1c1 := p1.cell (i := 1) rfl
  have p1c2 := p1.cell (i := 2) rfl
  have p1l := p1.lt
  clear hb
  have Hl1 := hide hl1
  clear hl1
  by_cases hc : codeA ⟨k0, d0, z0⟩ z2 = 0
  · skip
    have ho := (good_of (codeA_zero hc).2.1).out4
    have hk1 := (good_of (codeA_zero hc).2.1).k1
    have hl : (l1.length : Int) = k0 + (z0.length : Int) := by rw [Hl1.out, resA_ok hc, makeS_len]; exact ho.2.2.1
    have f1 : ((l1.length : Int) != k0 + (z0.length : Int)) = false := by rw [bne_eq_false_iff_eq]; exact hl
    dsimp only at ho hk1
    have hk4 : k0 ≤ 4 := by omega
    have hz4 : z0.length ≤ 4 := by omega
    have HL := hide hl
    clear ho hl
    go_wp2_with fail
    refine (cApply g1 e1).mono ?_
    rintro e w2 ⟨l2, al2, cl2, hl2, rfl, e2, hb⟩
    dsimp only
    clear p0c0 p0c1 p0c2 p1c0 p1c1 p1c2 p0l p1l
    replace p0 := row_below p0 hb p0.lt
    replace p1 := row_below p1 hb p1.lt
    replace g0 := g0.step hb
    replace g1 := g1.step hb
    replace g2 := g2.step hb
    replace e1 := e1.step hb
    replace hB := hB.trans (hb.mono hB.size)
    have p0c0 := p0.cell (i := 0) rfl
    have p0c1 := p0.cell (i := 1) rfl
    have p0c2 := p0.cell (i := 2) rfl
    have p0l := p0.lt
    have p1c0 := p1.cell (i := 0) rfl
    have p1c1 := p1.cell (i := 1) rfl
    have p1c2 := p1.cell (i := 2) rfl
    have p1l := p1.lt
    clear hb
    have Hl2 := hide hl2
    clear hl2
    have hl1 := Hl1.out
    have hl2 := Hl2.out
    rw [resA_ok hc] at hl1
    have HL1 := hide hl1
    by_cases hc2 : codeA ⟨k1, d1, z1⟩ l1 = 0
    · skip
      obtain ⟨hN, hA, hM⟩ := make_then (s := ⟨k0, d0, z0⟩) (r := ⟨k1, d1, z1⟩) hc (by rw [← hl1]; exact hc2)
      rw [resA_ok hc2, hl1, hM] at hl2
      have HM := hide hl2
      clear hM hl2 hl1
      go_wp2_with fail
      refine (cThen g0 g1).mono ?_
      rintro e w3 ⟨⟨k3, d3, z3⟩, a3, c3, h3, rfl, e3, hb⟩
      have H3 := hide h3
      clear h3
      dsimp only at e3 ⊢
      clear p0c0 p0c1 p0c2 p1c0 p1c1 p1c2 p0l p1l
      replace p0 := row_below p0 hb p0.lt
      replace p1 := row_below p1 hb p1.lt
      replace g0 := g0.step hb
      replace g1 := g1.step hb
      replace g2 := g2.step hb
      replace e1 := e1.step hb
      replace e2 := e2.step hb
      replace hB := hB.trans (hb.mono hB.size)
      have p0c0 := p0.cell (i := 0) rfl
      have p0c1 := p0.cell (i := 1) rfl
      have p0c2 := p0.cell (i := 2) rfl
      have p0l := p0.lt
      have p1c0 := p1.cell (i := 0) rfl
      have p1c1 := p1.cell (i := 1) rfl
      have p1c2 := p1.cell (i := 2) rfl
      have p1l := p1.lt
      clear hb
      have h3 := H3.out
      rw [resN_ok hN] at h3
      rw [← h3] at hA HM
      clear h3
      go_wp2_with fail
      have hb : Below w3.heap.size w3 (w3.alloc (.cells #[.int .i64 k3, .int .i64 d3, .slice a3 z3.length c3] 24)) := (Below.refl _ _).alloc (Nat.le_refl _) _
      have p3 := Row.new w3 24 [.int .i64 k3, .int .i64 d3, .slice a3 z3.length c3]
      obtain ⟨w4, hw4⟩ : ∃ V, w3.alloc (.cells #[.int .i64 k3, .int .i64 d3, .slice a3 z3.length c3] 24) = V := ⟨_, rfl⟩
      rw [hw4] at hb p3
      try rw [hw4]
      clear p0c0 p0c1 p0c2 p1c0 p1c1 p1c2 p0l p1l
      replace p0 := row_below p0 hb p0.lt
      replace p1 := row_below p1 hb p1.lt
      replace g0 := g0.step hb
      replace g1 := g1.step hb
      replace g2 := g2.step hb
      replace e1 := e1.step hb
      replace e2 := e2.step hb
      replace e3 := e3.step hb
      replace hB := hB.trans (hb.mono hB.size)
      have p0c0 := p0.cell (i := 0) rfl
      have p0c1 := p0.cell (i := 1) rfl
      have p0c2 := p0.cell (i := 2) rfl
      have p0l := p0.lt
      have p1c0 := p1.cell (i := 0) rfl
      have p1c1 := p1.cell (i := 1) rfl
      have p1c2 := p1.cell (i := 2) rfl
      have p1l := p1.lt
      clear hb
      clear p0c0 p0c1 p0c2 p1c0 p1c1 p1c2 p0l p1l
      have p0c0 := p0.cell (i := 0) rfl
      have p0c1 := p0.cell (i := 1) rfl
      have p0c2 := p0.cell (i := 2) rfl
      have p0l := p0.lt
      have p1c0 := p1.cell (i := 0) rfl
      have p1c1 := p1.cell (i := 1) rfl
      have p1c2 := p1.cell (i := 2) rfl
      have p1l := p1.lt
      have p3c0 := p3.cell (i := 0) rfl
      have p3c1 := p3.cell (i := 1) rfl
      have p3c2 := p3.cell (i := 2) rfl
      have p3l := p3.lt
      refine (cApply e3 g2).mono ?_
      rintro e w5 ⟨l4, al4, cl4, hl4, rfl, e4, hb⟩
      dsimp only
      clear p0c0 p0c1 p0c2 p1c0 p1c1 p1c2 p3c0 p3c1 p3c2 p0l p1l p3l
      replace p0 := row_below p0 hb p0.lt
      replace p1 := row_below p1 hb p1.lt
      replace p3 := row_below p3 hb p3.lt
      replace g0 := g0.step hb
      replace g1 := g1.step hb
      replace g2 := g2.step hb
      replace e1 := e1.step hb
      replace e2 := e2.step hb
      replace e3 := e3.step hb
      replace hB := hB.trans (hb.mono hB.size)
      have p0c0 := p0.cell (i := 0) rfl
      have p0c1 := p0.cell (i := 1) rfl
      have p0c2 := p0.cell (i := 2) rfl
      have p0l := p0.lt
      have p1c0 := p1.cell (i := 0) rfl
      have p1c1 := p1.cell (i := 1) rfl
      have p1c2 := p1.cell (i := 2) rfl
      have p1l := p1.lt
      have p3c0 := p3.cell (i := 0) rfl
      have p3c1 := p3.cell (i := 1) rfl
      have p3c2 := p3.cell (i := 2) rfl
      have p3l := p3.lt
      clear hb
      have Hl4 := hide hl4
      clear hl4
      have f2 : sameB l2 l4 = true := sameB_true.2 (by rw [HM.out, Hl4.out, resA_ok hA])
      go_wp2_with fail
      refine (tSame e2 e4).mono ?_
      rintro e w6 ⟨rfl, hb⟩
      dsimp only
      clear p0c0 p0c1 p0c2 p1c0 p1c1 p1c2 p3c0 p3c1 p3c2 p0l p1l p3l
      replace p0 := row_below p0 hb p0.lt
      replace p1 := row_below p1 hb p1.lt
      replace p3 := row_below p3 hb p3.lt
      replace g0 := g0.step hb
      replace g1 := g1.step hb
      replace g2 := g2.step hb
      replace e1 := e1.step hb
      replace e2 := e2.step hb
      replace e3 := e3.step hb
      replace e4 := e4.step hb
      replace hB := hB.trans (hb.mono hB.size)
      have p0c0 := p0.cell (i := 0) rfl
      have p0c1 := p0.cell (i := 1) rfl
      have p0c2 := p0.cell (i := 2) rfl
      have p0l := p0.lt
      have p1c0 := p1.cell (i := 0) rfl
      have p1c1 := p1.cell (i := 1) rfl
      have p1c2 := p1.cell (i := 2) rfl
      have p1l := p1.lt
      have p3c0 := p3.cell (i := 0) rfl
      have p3c1 := p3.cell (i := 1) rfl
      have p3c2 := p3.cell (i := 2) rfl
      have p3l := p3.lt
      clear hb
      go_wp2_with fail
      go_ret
      exact ⟨rfl, hB⟩
    · skip
      have f2 : (codeA ⟨k1, d1, z1⟩ l1 != 0) = true := by rw [bne_iff_ne]; exact hc2
      rw [resA_bad hc2] at hl2
      subst hl2
      clear hc2 hl1
      go_wp2_with fail
      go_ret
      exact ⟨rfl, hB⟩
  · skip
    have f1 : (codeA ⟨k0, d0, z0⟩ z2 != 0) = true := by rw [bne_iff_ne]; exact hc
    have hl1 := Hl1.out
    rw [resA_bad hc] at hl1
    subst hl1
    clear hc
    go_wp2_with fail
    go_ret
    exact ⟨rfl, hB⟩
end Go.Proofs.Ytfigdkikkociaaa
