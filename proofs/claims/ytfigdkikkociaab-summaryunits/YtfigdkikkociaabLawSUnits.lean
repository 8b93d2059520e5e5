/- The walk of the law SummaryUnits: it answers true, and writes nothing that was there. -/
import Derived.Test.YtfigdkikkociaabSumCall
namespace Go.Proofs.Ytfigdkikkociaab
open Go.RowKit Go.Shelf

set_option maxRecDepth 100000 in
set_option maxHeartbeats 8000000 in
theorem sunits_any (k0 d0 : Int) (a0 : Option Addr) (cap0 : Nat) (z0 : List Int) (x1 : Int) (n₀ : Nat) (w : World) (g0 : SArg n₀ w a0 cap0 z0) (hn₀ : n₀ ≤ w.heap.size) :
    Calls Try.prog 3 #[.agg #[.int .i64 k0, .int .i64 d0, .slice a0 z0.length cap0], .int .i64 x1] w fun e w' => e = .returned (.bool true) ∧ Below w.heap.size w w' := by
  obtain ⟨p0, hB, hs0⟩ := sum_row w (.int .i64 k0) (.int .i64 d0) (.slice a0 z0.length cap0) rfl
  obtain ⟨W0, hW0⟩ : ∃ V, (w).alloc (.cells #[.int .i64 k0, .int .i64 d0, .slice a0 z0.length cap0] 24) = V := ⟨_, rfl⟩
  rw [hW0] at p0 hB hs0
  replace g0 := (g0.mono hn₀).step hB
  clear hs0
  have p0c0 := p0.cell (i := 0) rfl
  have p0c1 := p0.cell (i := 1) rfl
  have p0c2 := p0.cell (i := 2) rfl
  have p0l := p0.lt
  go_enter Try.func3, Try.ntmps3
  go_wp2_with fail
  refine (cCheck (k := k0) (d := d0) (n := x1) g0).mono ?_
  rintro e w1 ⟨rfl, hb⟩
  dsimp only
  clear p0c0 p0c1 p0c2 p0l
  replace p0 := row_below p0 hb p0.lt
  replace g0 := g0.step hb
  replace hB := hB.trans (hb.mono hB.size)
  have p0c0 := p0.cell (i := 0) rfl
  have p0c1 := p0.cell (i := 1) rfl
  have p0c2 := p0.cell (i := 2) rfl
  have p0l := p0.lt
  clear hb
  by_cases hc : codeS ⟨k0, d0, z0⟩ x1 = 0
  · skip
    obtain ⟨n, rfl⟩ : ∃ n : Nat, x1 = (n : Int) := ⟨x1.toNat, by
      have h := (codeS_zero hc).1
      unfold badS at h
      omega⟩
    have g := good_of hc
    have o := g.out4
    have k1 := g.k1
    dsimp only at o k1
    have b1 : k0 ≤ 4 := by omega
    have b2 : z0.length ≤ 4 := by omega
    obtain ⟨hN1, hT1⟩ := then_unit_left hc
    obtain ⟨hN2, hT2⟩ := then_unit_right hc
    rw [o.2.2.1] at hN2 hT2
    have hS : sameM ⟨k0, d0, z0⟩ ⟨k0, d0, z0⟩ = true := sameM_true.2 rfl
    have HT1 := hide hT1
    have HT2 := hide hT2
    clear g o hT1 hT2
    go_wp2_with fail
    refine (cThen (k := (n : Int)) (d := 0) (a := none) (cap := 0) (zs := []) ⟨.inl rfl, fun _ => rfl, Nat.le_refl _, by decide⟩ g0).mono ?_
    rintro e w2 ⟨⟨k3, d3, z3⟩, a3, c3, h3, rfl, e3, hb⟩
    have H3 := hide h3
    clear h3
    dsimp only at e3 ⊢
    clear p0c0 p0c1 p0c2 p0l
    replace p0 := row_below p0 hb p0.lt
    replace g0 := g0.step hb
    replace hB := hB.trans (hb.mono hB.size)
    have p0c0 := p0.cell (i := 0) rfl
    have p0c1 := p0.cell (i := 1) rfl
    have p0c2 := p0.cell (i := 2) rfl
    have p0l := p0.lt
    clear hb
    have h3 := H3.out
    rw [resN_ok hN1, HT1.out] at h3
    cases h3
    go_wp2_with fail
    have hb : Below w2.heap.size w2 (w2.alloc (.cells #[.int .i64 k0, .int .i64 d0, .slice a3 z0.length c3] 24)) := (Below.refl _ _).alloc (Nat.le_refl _) _
    have p3 := Row.new w2 24 [.int .i64 k0, .int .i64 d0, .slice a3 z0.length c3]
    obtain ⟨w3, hw3⟩ : ∃ V, w2.alloc (.cells #[.int .i64 k0, .int .i64 d0, .slice a3 z0.length c3] 24) = V := ⟨_, rfl⟩
    rw [hw3] at hb p3
    try rw [hw3]
    clear p0c0 p0c1 p0c2 p0l
    replace p0 := row_below p0 hb p0.lt
    replace g0 := g0.step hb
    replace e3 := e3.step hb
    replace hB := hB.trans (hb.mono hB.size)
    have p0c0 := p0.cell (i := 0) rfl
    have p0c1 := p0.cell (i := 1) rfl
    have p0c2 := p0.cell (i := 2) rfl
    have p0l := p0.lt
    clear hb
    clear p0c0 p0c1 p0c2 p0l
    have p0c0 := p0.cell (i := 0) rfl
    have p0c1 := p0.cell (i := 1) rfl
    have p0c2 := p0.cell (i := 2) rfl
    have p0l := p0.lt
    have p3c0 := p3.cell (i := 0) rfl
    have p3c1 := p3.cell (i := 1) rfl
    have p3c2 := p3.cell (i := 2) rfl
    have p3l := p3.lt
    refine (cThen (k2 := k0 + (z0.length : Int)) (d2 := 0) (b := none) (cb := 0) (z2 := []) g0 ⟨.inl rfl, fun _ => rfl, Nat.le_refl _, by decide⟩).mono ?_
    rintro e w4 ⟨⟨k4, d4, z4⟩, a4, c4, h4, rfl, e4, hb⟩
    have H4 := hide h4
    clear h4
    dsimp only at e4 ⊢
    clear p0c0 p0c1 p0c2 p3c0 p3c1 p3c2 p0l p3l
    replace p0 := row_below p0 hb p0.lt
    replace p3 := row_below p3 hb p3.lt
    replace g0 := g0.step hb
    replace e3 := e3.step hb
    replace hB := hB.trans (hb.mono hB.size)
    have p0c0 := p0.cell (i := 0) rfl
    have p0c1 := p0.cell (i := 1) rfl
    have p0c2 := p0.cell (i := 2) rfl
    have p0l := p0.lt
    have p3c0 := p3.cell (i := 0) rfl
    have p3c1 := p3.cell (i := 1) rfl
    have p3c2 := p3.cell (i := 2) rfl
    have p3l := p3.lt
    clear hb
    have h4 := H4.out
    rw [resN_ok hN2, HT2.out] at h4
    cases h4
    go_wp2_with fail
    have hb : Below w4.heap.size w4 (w4.alloc (.cells #[.int .i64 k0, .int .i64 d0, .slice a4 z0.length c4] 24)) := (Below.refl _ _).alloc (Nat.le_refl _) _
    have p4 := Row.new w4 24 [.int .i64 k0, .int .i64 d0, .slice a4 z0.length c4]
    obtain ⟨w5, hw5⟩ : ∃ V, w4.alloc (.cells #[.int .i64 k0, .int .i64 d0, .slice a4 z0.length c4] 24) = V := ⟨_, rfl⟩
    rw [hw5] at hb p4
    try rw [hw5]
    clear p0c0 p0c1 p0c2 p3c0 p3c1 p3c2 p0l p3l
    replace p0 := row_below p0 hb p0.lt
    replace p3 := row_below p3 hb p3.lt
    replace g0 := g0.step hb
    replace e3 := e3.step hb
    replace e4 := e4.step hb
    replace hB := hB.trans (hb.mono hB.size)
    have p0c0 := p0.cell (i := 0) rfl
    have p0c1 := p0.cell (i := 1) rfl
    have p0c2 := p0.cell (i := 2) rfl
    have p0l := p0.lt
    have p3c0 := p3.cell (i := 0) rfl
    have p3c1 := p3.cell (i := 1) rfl
    have p3c2 := p3.cell (i := 2) rfl
    have p3l := p3.lt
    clear hb
    clear p0c0 p0c1 p0c2 p3c0 p3c1 p3c2 p0l p3l
    have p0c0 := p0.cell (i := 0) rfl
    have p0c1 := p0.cell (i := 1) rfl
    have p0c2 := p0.cell (i := 2) rfl
    have p0l := p0.lt
    have p3c0 := p3.cell (i := 0) rfl
    have p3c1 := p3.cell (i := 1) rfl
    have p3c2 := p3.cell (i := 2) rfl
    have p3l := p3.lt
    have p4c0 := p4.cell (i := 0) rfl
    have p4c1 := p4.cell (i := 1) rfl
    have p4c2 := p4.cell (i := 2) rfl
    have p4l := p4.lt
    refine (rSame e3 g0).mono ?_
    rintro e w6 ⟨rfl, hb⟩
    dsimp only
    clear p0c0 p0c1 p0c2 p3c0 p3c1 p3c2 p4c0 p4c1 p4c2 p0l p3l p4l
    replace p0 := row_below p0 hb p0.lt
    replace p3 := row_below p3 hb p3.lt
    replace p4 := row_below p4 hb p4.lt
    replace g0 := g0.step hb
    replace e3 := e3.step hb
    replace e4 := e4.step hb
    replace hB := hB.trans (hb.mono hB.size)
    have p0c0 := p0.cell (i := 0) rfl
    have p0c1 := p0.cell (i := 1) rfl
    have p0c2 := p0.cell (i := 2) rfl
    have p0l := p0.lt
    have p3c0 := p3.cell (i := 0) rfl
    have p3c1 := p3.cell (i := 1) rfl
    have p3c2 := p3.cell (i := 2) rfl
    have p3l := p3.lt
    have p4c0 := p4.cell (i := 0) rfl
    have p4c1 := p4.cell (i := 1) rfl
    have p4c2 := p4.cell (i := 2) rfl
    have p4l := p4.lt
    clear hb
    go_wp2_with fail
    refine (rSame e4 g0).mono ?_
    rintro e w7 ⟨rfl, hb⟩
    dsimp only
    clear p0c0 p0c1 p0c2 p3c0 p3c1 p3c2 p4c0 p4c1 p4c2 p0l p3l p4l
    replace p0 := row_below p0 hb p0.lt
    replace p3 := row_below p3 hb p3.lt
    replace p4 := row_below p4 hb p4.lt
    replace g0 := g0.step hb
    replace e3 := e3.step hb
    replace e4 := e4.step hb
    replace hB := hB.trans (hb.mono hB.size)
    have p0c0 := p0.cell (i := 0) rfl
    have p0c1 := p0.cell (i := 1) rfl
    have p0c2 := p0.cell (i := 2) rfl
    have p0l := p0.lt
    have p3c0 := p3.cell (i := 0) rfl
    have p3c1 := p3.cell (i := 1) rfl
    have p3c2 := p3.cell (i := 2) rfl
    have p3l := p3.lt
    have p4c0 := p4.cell (i := 0) rfl
    have p4c1 := p4.cell (i := 1) rfl
    have p4c2 := p4.cell (i := 2) rfl
    have p4l := p4.lt
    clear hb
    go_wp2_with fail
    go_ret
    exact ⟨rfl, hB⟩
  · skip
    have f1 : (codeS ⟨k0, d0, z0⟩ x1 != 0) = true := by rw [bne_iff_ne]; exact hc
    clear hc
    go_wp2_with fail
    go_ret
    exact ⟨rfl, hB⟩
end Go.Proofs.Ytfigdkikkociaab
