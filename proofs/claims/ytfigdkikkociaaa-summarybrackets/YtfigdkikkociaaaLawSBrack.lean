/- The walk of the law SummaryBrackets: it answers true, and writes nothing that was there. -/
import Derived.Test.YtfigdkikkociaaaSumCall
namespace Go.Proofs.Ytfigdkikkociaaa
open Go.RowKit Go.Shelf

set_option maxRecDepth 100000 in
set_option maxHeartbeats 8000000 in
theorem sbrack_any (k0 d0 : Int) (a0 : Option Addr) (cap0 : Nat) (z0 : List Int) (k1 d1 : Int) (a1 : Option Addr) (cap1 : Nat) (z1 : List Int) (k2 d2 : Int) (a2 : Option Addr) (cap2 : Nat) (z2 : List Int) (n₀ : Nat) (w : World) (g0 : SArg n₀ w a0 cap0 z0) (g1 : SArg n₀ w a1 cap1 z1) (g2 : SArg n₀ w a2 cap2 z2) (hn₀ : n₀ ≤ w.heap.size) :
    Calls Try.prog 8 #[.agg #[.int .i64 k0, .int .i64 d0, .slice a0 z0.length cap0], .agg #[.int .i64 k1, .int .i64 d1, .slice a1 z1.length cap1], .agg #[.int .i64 k2, .int .i64 d2, .slice a2 z2.length cap2]] w fun e w' => e = .returned (.bool true) ∧ Below w.heap.size w w' := by
  obtain ⟨p0, p1, p2, hB, hs0⟩ := sum_rows3 w (.int .i64 k0) (.int .i64 d0) (.slice a0 z0.length cap0) (.int .i64 k1) (.int .i64 d1) (.slice a1 z1.length cap1) (.int .i64 k2) (.int .i64 d2) (.slice a2 z2.length cap2) rfl
  obtain ⟨W0, hW0⟩ : ∃ V, (((w).alloc (.cells #[.int .i64 k0, .int .i64 d0, .slice a0 z0.length cap0] 24)).alloc (.cells #[.int .i64 k1, .int .i64 d1, .slice a1 z1.length cap1] 24)).alloc (.cells #[.int .i64 k2, .int .i64 d2, .slice a2 z2.length cap2] 24) = V := ⟨_, rfl⟩
  rw [hW0] at p0 p1 p2 hB hs0
  replace g0 := (g0.mono hn₀).step hB
  replace g1 := (g1.mono hn₀).step hB
  replace g2 := (g2.mono hn₀).step hB
  clear hs0
  have p0c0 := p0.cell (i := 0) rfl
  have p0c1 := p0.cell (i := 1) rfl
  have p0c2 := p0.cell (i := 2) rfl
  have p0l := p0.lt
  have p1c0 := p1.cell (i := 0) rfl
  have p1c1 := p1.cell (i := 1) rfl
  have p1c2 := p1.cell (i := 2) rfl
  have p1l := p1.lt
  have p2c0 := p2.cell (i := 0) rfl
  have p2c1 := p2.cell (i := 1) rfl
  have p2c2 := p2.cell (i := 2) rfl
  have p2l := p2.lt
  go_enter Try.func8, Try.ntmps8
  go_wp2_with fail
  refine (cThen g0 g1).mono ?_
  rintro e w1 ⟨⟨k3, d3, z3⟩, a3, c3, h3, rfl, e3, hb⟩
  have H3 := hide h3
  clear h3
  dsimp only at e3 ⊢
  clear p0c0 p0c1 p0c2 p1c0 p1c1 p1c2 p2c0 p2c1 p2c2 p0l p1l p2l
  replace p0 := row_below p0 hb p0.lt
  replace p1 := row_below p1 hb p1.lt
  replace p2 := row_below p2 hb p2.lt
  replace g0 := g0.step hb
  replace g1 := g1.step hb
  replace g2 := g2.step hb
  replace hB := hB.trans (hb.mono hB.size)
  have p0c0 := p0.cell (i := 0) rfl
  have p0c1 := p0.cell (i := 1) rfl
  have p0c2 := p0.cell (i := 2) rfl
  have p0l := p0.lt
  have p1c0 := p1.cell (i := 0) rfl
  have p1c1 := p1.cell (i := 1) rfl
  have p1c2 := p1.cell (i := 2) rfl
  have p1l := p1.lt
  have p2c0 := p2.cell (i := 0) rfl
  have p2c1 := p2.cell (i := 1) rfl
  have p2c2 := p2.cell (i := 2) rfl
  have p2l := p2.lt
  clear hb
  go_wp2_with fail
  have hb : Below w1.heap.size w1 (w1.alloc (.cells #[.int .i64 k3, .int .i64 d3, .slice a3 z3.length c3] 24)) := (Below.refl _ _).alloc (Nat.le_refl _) _
  have p3 := Row.new w1 24 [.int .i64 k3, .int .i64 d3, .slice a3 z3.length c3]
  obtain ⟨w2, hw2⟩ : ∃ V, w1.alloc (.cells #[.int .i64 k3, .int .i64 d3, .slice a3 z3.length c3] 24) = V := ⟨_, rfl⟩
  rw [hw2] at hb p3
  try rw [hw2]
  clear p0c0 p0c1 p0c2 p1c0 p1c1 p1c2 p2c0 p2c1 p2c2 p0l p1l p2l
  replace p0 := row_below p0 hb p0.lt
  replace p1 := row_below p1 hb p1.lt
  replace p2 := row_below p2 hb p2.lt
  replace g0 := g0.step hb
  replace g1 := g1.step hb
  replace g2 := g2.step hb
  replace e3 := e3.step hb
  replace hB := hB.trans (hb.mono hB.size)
  have p0c0 := p0.cell (i := 0) rfl
  have p0c1 := p0.cell (i := 1) rfl
  have p0c2 := p0.cell (i := 2) rfl
  have p0l := p0.lt
  have p1c0 := p1.cell (i := 0) rfl
  have p1c1 := p1.cell (i := 1) rfl
  have p1c2 := p1.cell (i := 2) rfl
  have p1l := p1.lt
  have p2c0 := p2.cell (i := 0) rfl
  have p2c1 := p2.cell (i := 1) rfl
  have p2c2 := p2.cell (i := 2) rfl
  have p2l := p2.lt
  clear hb
  clear p0c0 p0c1 p0c2 p1c0 p1c1 p1c2 p2c0 p2c1 p2c2 p0l p1l p2l
  have p0c0 := p0.cell (i := 0) rfl
  have p0c1 := p0.cell (i := 1) rfl
  have p0c2 := p0.cell (i := 2) rfl
  have p0l := p0.lt
  have p1c0 := p1.cell (i := 0) rfl
  have p1c1 := p1.cell (i := 1) rfl
  have p1c2 := p1.cell (i := 2) rfl
  have p1l := p1.lt
  have p2c0 := p2.cell (i := 0) rfl
  have p2c1 := p2.cell (i := 1) rfl
  have p2c2 := p2.cell (i := 2) rfl
  have p2l := p2.lt
  have p3c0 := p3.cell (i := 0) rfl
  have p3c1 := p3.cell (i := 1) rfl
  have p3c2 := p3.cell (i := 2) rfl
  have p3l := p3.lt
  refine (cThen g1 g2).mono ?_
  rintro e w3 ⟨⟨k4, d4, z4⟩, a4, c4, h4, rfl, e4, hb⟩
  have H4 := hide h4
  clear h4
  dsimp only at e4 ⊢
  clear p0c0 p0c1 p0c2 p1c0 p1c1 p1c2 p2c0 p2c1 p2c2 p3c0 p3c1 p3c2 p0l p1l p2l p3l
  replace p0 := row_below p0 hb p0.lt
  replace p1 := row_below p1 hb p1.lt
  replace p2 := row_below p2 hb p2.lt
  replace p3 := row_below p3 hb p3.lt
  replace g0 := g0.step hb
  replace g1 := g1.step hb
  replace g2 := g2.step hb
  replace e3 := e3.step hb
  replace hB := hB.trans (hb.mono hB.size)
  have p0c0 := p0.cell (i := 0) rfl
  have p0c1 := p0.cell (i := 1) rfl
  have p0c2 := p0.cell (i := 2) rfl
  have p0l := p0.lt
  have p1c0 := p1.cell (i := 0) rfl
  have p1c1 := p1.cell (i := 1) rfl
  have p1c2 := p1.cell (i := 2) rfl
  have p1l := p1.lt
  have p2c0 := p2.cell (i := 0) rfl
  have p2c1 := p2.cell (i := 1) rfl
  have p2c2 := p2.cell (i := 2) rfl
  have p2l := p2.lt
  have p3c0 := p3.cell (i := 0) rfl
  have p3c1 := p3.cell (i := 1) rfl
  have p3c2 := p3.cell (i := 2) rfl
  have p3l := p3.lt
  clear hb
  by_cases hc1 : codeN ⟨k0, d0, z0⟩ ⟨k1, d1, z1⟩ = 0
  · skip
    by_cases hc2 : codeN ⟨k1, d1, z1⟩ ⟨k2, d2, z2⟩ = 0
    · skip
      go_wp2_with fail
      have hb : Below w3.heap.size w3 (w3.alloc (.cells #[.int .i64 k4, .int .i64 d4, .slice a4 z4.length c4] 24)) := (Below.refl _ _).alloc (Nat.le_refl _) _
      have p4 := Row.new w3 24 [.int .i64 k4, .int .i64 d4, .slice a4 z4.length c4]
      obtain ⟨w4, hw4⟩ : ∃ V, w3.alloc (.cells #[.int .i64 k4, .int .i64 d4, .slice a4 z4.length c4] 24) = V := ⟨_, rfl⟩
      rw [hw4] at hb p4
      try rw [hw4]
      clear p0c0 p0c1 p0c2 p1c0 p1c1 p1c2 p2c0 p2c1 p2c2 p3c0 p3c1 p3c2 p0l p1l p2l p3l
      replace p0 := row_below p0 hb p0.lt
      replace p1 := row_below p1 hb p1.lt
      replace p2 := row_below p2 hb p2.lt
      replace p3 := row_below p3 hb p3.lt
      replace g0 := g0.step hb
      replace g1 := g1.step hb
      replace g2 := g2.step hb
      replace e3 := e3.step hb
      replace e4 := e4.step hb
      replace hB := hB.trans (hb.mono hB.size)
      have p0c0 := p0.cell (i := 0) rfl
      have p0c1 := p0.cell (i := 1) rfl
      have p0c2 := p0.cell (i := 2) rfl
      have p0l := p0.lt
      have p1c0 := p1.cell (i := 0) rfl
      have p1c1 := p1.cell (i := 1) rfl
      have p1c2 := p1.cell (i := 2) rfl
      have p1l := p1.lt
      have p2c0 := p2.cell (i := 0) rfl
      have p2c1 := p2.cell (i := 1) rfl
      have p2c2 := p2.cell (i := 2) rfl
      have p2l := p2.lt
      have p3c0 := p3.cell (i := 0) rfl
      have p3c1 := p3.cell (i := 1) rfl
      have p3c2 := p3.cell (i := 2) rfl
      have p3l := p3.lt
      clear hb
      clear p0c0 p0c1 p0c2 p1c0 p1c1 p1c2 p2c0 p2c1 p2c2 p3c0 p3c1 p3c2 p0l p1l p2l p3l
      have p0c0 := p0.cell (i := 0) rfl
      have p0c1 := p0.cell (i := 1) rfl
      have p0c2 := p0.cell (i := 2) rfl
      have p0l := p0.lt
      have p1c0 := p1.cell (i := 0) rfl
      have p1c1 := p1.cell (i := 1) rfl
      have p1c2 := p1.cell (i := 2) rfl
      have p1l := p1.lt
      have p2c0 := p2.cell (i := 0) rfl
      have p2c1 := p2.cell (i := 1) rfl
      have p2c2 := p2.cell (i := 2) rfl
      have p2l := p2.lt
      have p3c0 := p3.cell (i := 0) rfl
      have p3c1 := p3.cell (i := 1) rfl
      have p3c2 := p3.cell (i := 2) rfl
      have p3l := p3.lt
      have p4c0 := p4.cell (i := 0) rfl
      have p4c1 := p4.cell (i := 1) rfl
      have p4c2 := p4.cell (i := 2) rfl
      have p4l := p4.lt
      refine (cThen e3 g2).mono ?_
      rintro e w5 ⟨⟨k5, d5, z5⟩, a5, c5, h5, rfl, e5, hb⟩
      have H5 := hide h5
      clear h5
      dsimp only at e5 ⊢
      clear p0c0 p0c1 p0c2 p1c0 p1c1 p1c2 p2c0 p2c1 p2c2 p3c0 p3c1 p3c2 p4c0 p4c1 p4c2 p0l p1l p2l p3l p4l
      replace p0 := row_below p0 hb p0.lt
      replace p1 := row_below p1 hb p1.lt
      replace p2 := row_below p2 hb p2.lt
      replace p3 := row_below p3 hb p3.lt
      replace p4 := row_below p4 hb p4.lt
      replace g0 := g0.step hb
      replace g1 := g1.step hb
      replace g2 := g2.step hb
      replace e3 := e3.step hb
      replace e4 := e4.step hb
      replace hB := hB.trans (hb.mono hB.size)
      have p0c0 := p0.cell (i := 0) rfl
      have p0c1 := p0.cell (i := 1) rfl
      have p0c2 := p0.cell (i := 2) rfl
      have p0l := p0.lt
      have p1c0 := p1.cell (i := 0) rfl
      have p1c1 := p1.cell (i := 1) rfl
      have p1c2 := p1.cell (i := 2) rfl
      have p1l := p1.lt
      have p2c0 := p2.cell (i := 0) rfl
      have p2c1 := p2.cell (i := 1) rfl
      have p2c2 := p2.cell (i := 2) rfl
      have p2l := p2.lt
      have p3c0 := p3.cell (i := 0) rfl
      have p3c1 := p3.cell (i := 1) rfl
      have p3c2 := p3.cell (i := 2) rfl
      have p3l := p3.lt
      have p4c0 := p4.cell (i := 0) rfl
      have p4c1 := p4.cell (i := 1) rfl
      have p4c2 := p4.cell (i := 2) rfl
      have p4l := p4.lt
      clear hb
      go_wp2_with fail
      have hb : Below w5.heap.size w5 (w5.alloc (.cells #[.int .i64 k5, .int .i64 d5, .slice a5 z5.length c5] 24)) := (Below.refl _ _).alloc (Nat.le_refl _) _
      have p5 := Row.new w5 24 [.int .i64 k5, .int .i64 d5, .slice a5 z5.length c5]
      obtain ⟨w6, hw6⟩ : ∃ V, w5.alloc (.cells #[.int .i64 k5, .int .i64 d5, .slice a5 z5.length c5] 24) = V := ⟨_, rfl⟩
      rw [hw6] at hb p5
      try rw [hw6]
      clear p0c0 p0c1 p0c2 p1c0 p1c1 p1c2 p2c0 p2c1 p2c2 p3c0 p3c1 p3c2 p4c0 p4c1 p4c2 p0l p1l p2l p3l p4l
      replace p0 := row_below p0 hb p0.lt
      replace p1 := row_below p1 hb p1.lt
      replace p2 := row_below p2 hb p2.lt
      replace p3 := row_below p3 hb p3.lt
      replace p4 := row_below p4 hb p4.lt
      replace g0 := g0.step hb
      replace g1 := g1.step hb
      replace g2 := g2.step hb
      replace e3 := e3.step hb
      replace e4 := e4.step hb
      replace e5 := e5.step hb
      replace hB := hB.trans (hb.mono hB.size)
      have p0c0 := p0.cell (i := 0) rfl
      have p0c1 := p0.cell (i := 1) rfl
      have p0c2 := p0.cell (i := 2) rfl
      have p0l := p0.lt
      have p1c0 := p1.cell (i := 0) rfl
      have p1c1 := p1.cell (i := 1) rfl
      have p1c2 := p1.cell (i := 2) rfl
      have p1l := p1.lt
      have p2c0 := p2.cell (i := 0) rfl
      have p2c1 := p2.cell (i := 1) rfl
      have p2c2 := p2.cell (i := 2) rfl
      have p2l := p2.lt
      have p3c0 := p3.cell (i := 0) rfl
      have p3c1 := p3.cell (i := 1) rfl
      have p3c2 := p3.cell (i := 2) rfl
      have p3l := p3.lt
      have p4c0 := p4.cell (i := 0) rfl
      have p4c1 := p4.cell (i := 1) rfl
      have p4c2 := p4.cell (i := 2) rfl
      have p4l := p4.lt
      clear hb
      clear p0c0 p0c1 p0c2 p1c0 p1c1 p1c2 p2c0 p2c1 p2c2 p3c0 p3c1 p3c2 p4c0 p4c1 p4c2 p0l p1l p2l p3l p4l
      have p0c0 := p0.cell (i := 0) rfl
      have p0c1 := p0.cell (i := 1) rfl
      have p0c2 := p0.cell (i := 2) rfl
      have p0l := p0.lt
      have p1c0 := p1.cell (i := 0) rfl
      have p1c1 := p1.cell (i := 1) rfl
      have p1c2 := p1.cell (i := 2) rfl
      have p1l := p1.lt
      have p2c0 := p2.cell (i := 0) rfl
      have p2c1 := p2.cell (i := 1) rfl
      have p2c2 := p2.cell (i := 2) rfl
      have p2l := p2.lt
      have p3c0 := p3.cell (i := 0) rfl
      have p3c1 := p3.cell (i := 1) rfl
      have p3c2 := p3.cell (i := 2) rfl
      have p3l := p3.lt
      have p4c0 := p4.cell (i := 0) rfl
      have p4c1 := p4.cell (i := 1) rfl
      have p4c2 := p4.cell (i := 2) rfl
      have p4l := p4.lt
      have p5c0 := p5.cell (i := 0) rfl
      have p5c1 := p5.cell (i := 1) rfl
      have p5c2 := p5.cell (i := 2) rfl
      have p5l := p5.lt
      refine (cThen g0 e4).mono ?_
      rintro e w7 ⟨⟨k6, d6, z6⟩, a6, c6, h6, rfl, e6, hb⟩
      have H6 := hide h6
      clear h6
      dsimp only at e6 ⊢
      clear p0c0 p0c1 p0c2 p1c0 p1c1 p1c2 p2c0 p2c1 p2c2 p3c0 p3c1 p3c2 p4c0 p4c1 p4c2 p5c0 p5c1 p5c2 p0l p1l p2l p3l p4l p5l
      replace p0 := row_below p0 hb p0.lt
      replace p1 := row_below p1 hb p1.lt
      replace p2 := row_below p2 hb p2.lt
      replace p3 := row_below p3 hb p3.lt
      replace p4 := row_below p4 hb p4.lt
      replace p5 := row_below p5 hb p5.lt
      replace g0 := g0.step hb
      replace g1 := g1.step hb
      replace g2 := g2.step hb
      replace e3 := e3.step hb
      replace e4 := e4.step hb
      replace e5 := e5.step hb
      replace hB := hB.trans (hb.mono hB.size)
      have p0c0 := p0.cell (i := 0) rfl
      have p0c1 := p0.cell (i := 1) rfl
      have p0c2 := p0.cell (i := 2) rfl
      have p0l := p0.lt
      have p1c0 := p1.cell (i := 0) rfl
      have p1c1 := p1.cell (i := 1) rfl
      have p1c2 := p1.cell (i := 2) rfl
      have p1l := p1.lt
      have p2c0 := p2.cell (i := 0) rfl
      have p2c1 := p2.cell (i := 1) rfl
      have p2c2 := p2.cell (i := 2) rfl
      have p2l := p2.lt
      have p3c0 := p3.cell (i := 0) rfl
      have p3c1 := p3.cell (i := 1) rfl
      have p3c2 := p3.cell (i := 2) rfl
      have p3l := p3.lt
      have p4c0 := p4.cell (i := 0) rfl
      have p4c1 := p4.cell (i := 1) rfl
      have p4c2 := p4.cell (i := 2) rfl
      have p4l := p4.lt
      have p5c0 := p5.cell (i := 0) rfl
      have p5c1 := p5.cell (i := 1) rfl
      have p5c2 := p5.cell (i := 2) rfl
      have p5l := p5.lt
      clear hb
      by_cases hc3 : codeN ⟨k3, d3, z3⟩ ⟨k2, d2, z2⟩ = 0
      · skip
        by_cases hc4 : codeN ⟨k0, d0, z0⟩ ⟨k4, d4, z4⟩ = 0
        · skip
          have h3 := H3.out
          have h4 := H4.out
          have h5 := H5.out
          have h6 := H6.out
          rw [resN_ok hc1] at h3
          rw [resN_ok hc2] at h4
          have hK := then_assoc hc1 hc2 (by rw [← h3]; exact hc3) (by rw [← h4]; exact hc4)
          rw [← h3, ← h4] at hK
          rw [resN_ok hc3] at h5
          rw [resN_ok hc4] at h6
          have hS : sameM ⟨k5, d5, z5⟩ ⟨k6, d6, z6⟩ = true := sameM_true.2 (by rw [h5, h6]; exact hK.1)
          have hO := hK.2
          rw [← h5] at hO
          have g5 := (goods_of hc3).t4
          rw [← h5] at g5
          have gq := (goods_of hc3).ro
          have o5 := g5.out4
          have oq := gq.out4
          have k5a := g5.k1
          have k2a := gq.k1
          dsimp only at o5 oq k5a k2a
          have f9 : (k5 + (z5.length : Int) == k2 + (z2.length : Int)) = true := by rw [beq_iff_eq]; omega
          have b5 : k5 ≤ 4 ∧ z5.length ≤ 4 := by omega
          have b2 : k2 ≤ 4 ∧ z2.length ≤ 4 := by omega
          obtain ⟨b5a, b5b⟩ := b5
          obtain ⟨b2a, b2b⟩ := b2
          clear hK hO g5 gq o5 oq h3 h4 h5 h6
          go_wp2_with fail
          have hb : Below w7.heap.size w7 (w7.alloc (.cells #[.int .i64 k6, .int .i64 d6, .slice a6 z6.length c6] 24)) := (Below.refl _ _).alloc (Nat.le_refl _) _
          have p6 := Row.new w7 24 [.int .i64 k6, .int .i64 d6, .slice a6 z6.length c6]
          obtain ⟨w8, hw8⟩ : ∃ V, w7.alloc (.cells #[.int .i64 k6, .int .i64 d6, .slice a6 z6.length c6] 24) = V := ⟨_, rfl⟩
          rw [hw8] at hb p6
          try rw [hw8]
          clear p0c0 p0c1 p0c2 p1c0 p1c1 p1c2 p2c0 p2c1 p2c2 p3c0 p3c1 p3c2 p4c0 p4c1 p4c2 p5c0 p5c1 p5c2 p0l p1l p2l p3l p4l p5l
          replace p0 := row_below p0 hb p0.lt
          replace p1 := row_below p1 hb p1.lt
          replace p2 := row_below p2 hb p2.lt
          replace p3 := row_below p3 hb p3.lt
          replace p4 := row_below p4 hb p4.lt
          replace p5 := row_below p5 hb p5.lt
          replace g0 := g0.step hb
          replace g1 := g1.step hb
          replace g2 := g2.step hb
          replace e3 := e3.step hb
          replace e4 := e4.step hb
          replace e5 := e5.step hb
          replace e6 := e6.step hb
          replace hB := hB.trans (hb.mono hB.size)
          have p0c0 := p0.cell (i := 0) rfl
          have p0c1 := p0.cell (i := 1) rfl
          have p0c2 := p0.cell (i := 2) rfl
          have p0l := p0.lt
          have p1c0 := p1.cell (i := 0) rfl
          have p1c1 := p1.cell (i := 1) rfl
          have p1c2 := p1.cell (i := 2) rfl
          have p1l := p1.lt
          have p2c0 := p2.cell (i := 0) rfl
          have p2c1 := p2.cell (i := 1) rfl
          have p2c2 := p2.cell (i := 2) rfl
          have p2l := p2.lt
          have p3c0 := p3.cell (i := 0) rfl
          have p3c1 := p3.cell (i := 1) rfl
          have p3c2 := p3.cell (i := 2) rfl
          have p3l := p3.lt
          have p4c0 := p4.cell (i := 0) rfl
          have p4c1 := p4.cell (i := 1) rfl
          have p4c2 := p4.cell (i := 2) rfl
          have p4l := p4.lt
          have p5c0 := p5.cell (i := 0) rfl
          have p5c1 := p5.cell (i := 1) rfl
          have p5c2 := p5.cell (i := 2) rfl
          have p5l := p5.lt
          clear hb
          clear p0c0 p0c1 p0c2 p1c0 p1c1 p1c2 p2c0 p2c1 p2c2 p3c0 p3c1 p3c2 p4c0 p4c1 p4c2 p5c0 p5c1 p5c2 p0l p1l p2l p3l p4l p5l
          have p0c0 := p0.cell (i := 0) rfl
          have p0c1 := p0.cell (i := 1) rfl
          have p0c2 := p0.cell (i := 2) rfl
          have p0l := p0.lt
          have p1c0 := p1.cell (i := 0) rfl
          have p1c1 := p1.cell (i := 1) rfl
          have p1c2 := p1.cell (i := 2) rfl
          have p1l := p1.lt
          have p2c0 := p2.cell (i := 0) rfl
          have p2c1 := p2.cell (i := 1) rfl
          have p2c2 := p2.cell (i := 2) rfl
          have p2l := p2.lt
          have p3c0 := p3.cell (i := 0) rfl
          have p3c1 := p3.cell (i := 1) rfl
          have p3c2 := p3.cell (i := 2) rfl
          have p3l := p3.lt
          have p4c0 := p4.cell (i := 0) rfl
          have p4c1 := p4.cell (i := 1) rfl
          have p4c2 := p4.cell (i := 2) rfl
          have p4l := p4.lt
          have p5c0 := p5.cell (i := 0) rfl
          have p5c1 := p5.cell (i := 1) rfl
          have p5c2 := p5.cell (i := 2) rfl
          have p5l := p5.lt
          have p6c0 := p6.cell (i := 0) rfl
          have p6c1 := p6.cell (i := 1) rfl
          have p6c2 := p6.cell (i := 2) rfl
          have p6l := p6.lt
          refine (rSame e5 e6).mono ?_
          rintro e w9 ⟨rfl, hb⟩
          dsimp only
          clear p0c0 p0c1 p0c2 p1c0 p1c1 p1c2 p2c0 p2c1 p2c2 p3c0 p3c1 p3c2 p4c0 p4c1 p4c2 p5c0 p5c1 p5c2 p6c0 p6c1 p6c2 p0l p1l p2l p3l p4l p5l p6l
          replace p0 := row_below p0 hb p0.lt
          replace p1 := row_below p1 hb p1.lt
          replace p2 := row_below p2 hb p2.lt
          replace p3 := row_below p3 hb p3.lt
          replace p4 := row_below p4 hb p4.lt
          replace p5 := row_below p5 hb p5.lt
          replace p6 := row_below p6 hb p6.lt
          replace g0 := g0.step hb
          replace g1 := g1.step hb
          replace g2 := g2.step hb
          replace e3 := e3.step hb
          replace e4 := e4.step hb
          replace e5 := e5.step hb
          replace e6 := e6.step hb
          replace hB := hB.trans (hb.mono hB.size)
          have p0c0 := p0.cell (i := 0) rfl
          have p0c1 := p0.cell (i := 1) rfl
          have p0c2 := p0.cell (i := 2) rfl
          have p0l := p0.lt
          have p1c0 := p1.cell (i := 0) rfl
          have p1c1 := p1.cell (i := 1) rfl
          have p1c2 := p1.cell (i := 2) rfl
          have p1l := p1.lt
          have p2c0 := p2.cell (i := 0) rfl
          have p2c1 := p2.cell (i := 1) rfl
          have p2c2 := p2.cell (i := 2) rfl
          have p2l := p2.lt
          have p3c0 := p3.cell (i := 0) rfl
          have p3c1 := p3.cell (i := 1) rfl
          have p3c2 := p3.cell (i := 2) rfl
          have p3l := p3.lt
          have p4c0 := p4.cell (i := 0) rfl
          have p4c1 := p4.cell (i := 1) rfl
          have p4c2 := p4.cell (i := 2) rfl
          have p4l := p4.lt
          have p5c0 := p5.cell (i := 0) rfl
          have p5c1 := p5.cell (i := 1) rfl
          have p5c2 := p5.cell (i := 2) rfl
          have p5l := p5.lt
          have p6c0 := p6.cell (i := 0) rfl
          have p6c1 := p6.cell (i := 1) rfl
          have p6c2 := p6.cell (i := 2) rfl
          have p6l := p6.lt
          clear hb
          go_wp2_with fail
          go_ret
          exact ⟨rfl, hB⟩
        · skip
          have f1 : (codeN ⟨k0, d0, z0⟩ ⟨k4, d4, z4⟩ != 0) = true := by rw [bne_iff_ne]; exact hc4
          clear hc4
          go_wp2_with fail
          go_ret
          exact ⟨rfl, hB.alloc hB.size _⟩
      · skip
        have f1 : (codeN ⟨k3, d3, z3⟩ ⟨k2, d2, z2⟩ != 0) = true := by rw [bne_iff_ne]; exact hc3
        clear hc3
        go_wp2_with fail
        go_ret
        exact ⟨rfl, hB.alloc hB.size _⟩
    · skip
      have f1 : (codeN ⟨k1, d1, z1⟩ ⟨k2, d2, z2⟩ != 0) = true := by rw [bne_iff_ne]; exact hc2
      clear hc2
      go_wp2_with fail
      go_ret
      exact ⟨rfl, hB.alloc hB.size _⟩
  · skip
    have f1 : (codeN ⟨k0, d0, z0⟩ ⟨k1, d1, z1⟩ != 0) = true := by rw [bne_iff_ne]; exact hc1
    clear hc1
    go_wp2_with fail
    go_ret
    exact ⟨rfl, hB.alloc hB.size _⟩
end Go.Proofs.Ytfigdkikkociaaa
