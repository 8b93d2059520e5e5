/- The walk of the law SummaryMonotone: it answers true, and writes nothing that was there. -/
import Derived.Test.YtfigdkikkociaaaSumCall
namespace Go.Proofs.Ytfigdkikkociaaa
open Go.RowKit Go.Shelf

set_option maxRecDepth 100000 in
set_option maxHeartbeats 8000000 in
theorem smono_any (k0 d0 : Int) (a0 : Option Addr) (cap0 : Nat) (z0 : List Int) (a1 : Option Addr) (cap1 : Nat) (z1 : List Int) (a2 : Option Addr) (cap2 : Nat) (z2 : List Int) (n₀ : Nat) (w : World) (g0 : SArg n₀ w a0 cap0 z0) (g1 : SArg n₀ w a1 cap1 z1) (g2 : SArg n₀ w a2 cap2 z2) (hn₀ : n₀ ≤ w.heap.size) :
    Calls Try.prog 6 #[.agg #[.int .i64 k0, .int .i64 d0, .slice a0 z0.length cap0], .slice a1 z1.length cap1, .slice a2 z2.length cap2] w fun e w' => e = .returned (.bool true) ∧ Below w.heap.size w w' := by
  obtain ⟨p0, hB, hs0⟩ := sum_row w (.int .i64 k0) (.int .i64 d0) (.slice a0 z0.length cap0) rfl
  obtain ⟨W0, hW0⟩ : ∃ V, (w).alloc (.cells #[.int .i64 k0, .int .i64 d0, .slice a0 z0.length cap0] 24) = V := ⟨_, rfl⟩
  rw [hW0] at p0 hB hs0
  replace g0 := (g0.mono hn₀).step hB
  replace g1 := (g1.mono hn₀).step hB
  replace g2 := (g2.mono hn₀).step hB
  clear hs0
  have p0c0 := p0.cell (i := 0) rfl
  have p0c1 := p0.cell (i := 1) rfl
  have p0c2 := p0.cell (i := 2) rfl
  have p0l := p0.lt
  go_enter Try.func6, Try.ntmps6
  go_wp2_with fail
  refine (cApply g0 g1).mono ?_
  rintro e w1 ⟨l1, al1, cl1, hl1, rfl, e1, hb⟩
  dsimp only
  clear p0c0 p0c1 p0c2 p0l
  replace p0 := row_below p0 hb p0.lt
  replace g0 := g0.step hb
  replace g1 := g1.step hb
  replace g2 := g2.step hb
  replace hB := hB.trans (hb.mono hB.size)
  have p0c0 := p0.cell (i := 0) rfl
  have p0c1 := p0.cell (i := 1) rfl
  have p0c2 := p0.cell (i := 2) rfl
  have p0l := p0.lt
  clear hb
  have Hl1 := hide hl1
  clear hl1
  go_wp2_with fail
  refine (cApply g0 g2).mono ?_
  rintro e w2 ⟨l2, al2, cl2, hl2, rfl, e2, hb⟩
  dsimp only
  clear p0c0 p0c1 p0c2 p0l
  replace p0 := row_below p0 hb p0.lt
  replace g0 := g0.step hb
  replace g1 := g1.step hb
  replace g2 := g2.step hb
  replace e1 := e1.step hb
  replace hB := hB.trans (hb.mono hB.size)
  have p0c0 := p0.cell (i := 0) rfl
  have p0c1 := p0.cell (i := 1) rfl
  have p0c2 := p0.cell (i := 2) rfl
  have p0l := p0.lt
  clear hb
  have Hl2 := hide hl2
  clear hl2
  go_wp2_with fail
  refine (rtLeq g1 g2).mono ?_
  rintro e w3 ⟨rfl, hb⟩
  dsimp only
  clear p0c0 p0c1 p0c2 p0l
  replace p0 := row_below p0 hb p0.lt
  replace g0 := g0.step hb
  replace g1 := g1.step hb
  replace g2 := g2.step hb
  replace e1 := e1.step hb
  replace e2 := e2.step hb
  replace hB := hB.trans (hb.mono hB.size)
  have p0c0 := p0.cell (i := 0) rfl
  have p0c1 := p0.cell (i := 1) rfl
  have p0c2 := p0.cell (i := 2) rfl
  have p0l := p0.lt
  clear hb
  cases hq : leqT z1 z2 with
  | false =>
    go_wp2_with fail
    go_ret
    exact ⟨rfl, hB⟩
  | true =>
    by_cases hc : codeA ⟨k0, d0, z0⟩ z2 = 0
    · skip
      obtain ⟨hc1, hm⟩ := make_mono (s := ⟨k0, d0, z0⟩) hq hc
      have f1 : leqT l1 l2 = true := by rw [Hl1.out, Hl2.out, resA_ok hc1, resA_ok hc]; exact hm
      clear hm
      go_wp2_with fail
      refine (tLeq e1 e2).mono ?_
      rintro e w4 ⟨rfl, hb⟩
      dsimp only
      clear p0c0 p0c1 p0c2 p0l
      replace p0 := row_below p0 hb p0.lt
      replace g0 := g0.step hb
      replace g1 := g1.step hb
      replace g2 := g2.step hb
      replace e1 := e1.step hb
      replace e2 := e2.step hb
      replace hB := hB.trans (hb.mono hB.size)
      have p0c0 := p0.cell (i := 0) rfl
      have p0c1 := p0.cell (i := 1) rfl
      have p0c2 := p0.cell (i := 2) rfl
      have p0l := p0.lt
      clear hb
      go_wp2_with fail
      go_ret
      exact ⟨rfl, hB⟩
    · skip
      have f1 : (codeA ⟨k0, d0, z0⟩ z2 != 0) = true := by rw [bne_iff_ne]; exact hc
      clear hc
      go_wp2_with fail
      go_ret
      exact ⟨rfl, hB⟩
end Go.Proofs.Ytfigdkikkociaaa
