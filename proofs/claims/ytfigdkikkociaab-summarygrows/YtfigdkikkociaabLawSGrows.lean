/- The walk of the law SummaryGrows: it answers true, and writes nothing that was there. -/
import Derived.Test.YtfigdkikkociaabSumCall
namespace Go.Proofs.Ytfigdkikkociaab
open Go.RowKit Go.Shelf

/-- what Then hands back, and that it is the call's own -/
def OwnN (s r : Sm) (w : World) (e : Ending) (w' : World) : Prop :=
  ∃ q av cv, q = resN s r ∧ e = .returned (.tuple #[.agg #[.int .i64 q.k, .int .i64 q.d, .slice av q.z.length cv], .int .i64 (codeN s r)]) ∧ w'.ownsRow w.heap.size 3 1 (.slice av q.z.length cv) q.z.length (zvals q.z) ∧ Below w.heap.size w w'
theorem own_n {s r : Sm} {w : World} {e : Ending} {w' : World} (h : ThenPost s r w.heap.size e w' ∧ Below w.heap.size w w') : OwnN s r w e w' := by
  obtain ⟨⟨hc, he⟩ | ⟨hc, q, av, cv, hq, he, ho⟩, hb⟩ := h
  · exact ⟨⟨0, 0, []⟩, none, 0, (resN_bad hc).symm, by rw [he]; rfl, World.ownsRow_nil .., hb⟩
  · exact ⟨q, av, cv, by rw [resN_ok hc]; exact hq, by rw [he, hc], ho, hb⟩
theorem oThen {k d : Int} {a : Option Addr} {cap : Nat} {zs : List Int} {k2 d2 : Int} {b : Option Addr} {cb : Nat} {z2 : List Int} {w : World} (h : SArg w.heap.size w a cap zs) (h2 : SArg w.heap.size w b cb z2) :
    Calls Try.prog 9 #[.agg #[.int .i64 k, .int .i64 d, .slice a zs.length cap], .agg #[.int .i64 k2, .int .i64 d2, .slice b z2.length cb]] w (OwnN ⟨k, d, zs⟩ ⟨k2, d2, z2⟩ w) :=
  (sthen_any k d a cap zs k2 d2 b cb z2 w.heap.size h.len h2.len h2.nil h.cap w h.lies h2.lies (Nat.le_refl _)).mono fun _ _ h => own_n h

set_option maxRecDepth 100000 in
set_option maxHeartbeats 8000000 in
theorem sgrows_any (k0 d0 : Int) (a0 : Option Addr) (cap0 : Nat) (z0 : List Int) (k1 d1 : Int) (a1 : Option Addr) (cap1 : Nat) (z1 : List Int) (k2 d2 : Int) (a2 : Option Addr) (cap2 : Nat) (z2 : List Int) (n₀ : Nat) (w : World) (g0 : SArg n₀ w a0 cap0 z0) (g1 : SArg n₀ w a1 cap1 z1) (g2 : SArg n₀ w a2 cap2 z2) (hn₀ : n₀ ≤ w.heap.size) :
    Calls Try.prog 6 #[.agg #[.int .i64 k0, .int .i64 d0, .slice a0 z0.length cap0], .agg #[.int .i64 k1, .int .i64 d1, .slice a1 z1.length cap1], .agg #[.int .i64 k2, .int .i64 d2, .slice a2 z2.length cap2]] w fun e w' => e = .returned (.bool true) ∧ Below w.heap.size w w' := by
  have G0 := g0
  have G1 := g1
  have G2 := g2
  obtain ⟨p0, p1, p2, hB, hs0⟩ := sum_rows3 w (.int .i64 k0) (.int .i64 d0) (.slice a0 z0.length cap0) (.int .i64 k1) (.int .i64 d1) (.slice a1 z1.length cap1) (.int .i64 k2) (.int .i64 d2) (.slice a2 z2.length cap2) rfl
  obtain ⟨W0, hW0⟩ : ∃ V, (((w).alloc (.cells #[.int .i64 k0, .int .i64 d0, .slice a0 z0.length cap0] 24)).alloc (.cells #[.int .i64 k1, .int .i64 d1, .slice a1 z1.length cap1] 24)).alloc (.cells #[.int .i64 k2, .int .i64 d2, .slice a2 z2.length cap2] 24) = V := ⟨_, rfl⟩
  rw [hW0] at p0 p1 p2 hB hs0
  replace g0 := (g0.mono hn₀).step hB
  replace g1 := (g1.mono hn₀).step hB
  replace g2 := (g2.mono hn₀).step hB
  clear hs0
  have p0c0 := p0.cell (i := 0) rfl
  have p0c1 := p0.cell (i := 1) rfl
  have p0c2 := p0.cell (i := 2) rfl
  have p0l := p0.lt
  have p1c0 := p1.cell (i := 0) rfl
  have p1c1 := p1.cell (i := 1) rfl
  have p1c2 := p1.cell (i := 2) rfl
  have p1l := p1.lt
  have p2c0 := p2.cell (i := 0) rfl
  have p2c1 := p2.cell (i := 1) rfl
  have p2c2 := p2.cell (i := 2) rfl
  have p2l := p2.lt
  go_enter Try.func6, Try.ntmps6
  go_wp2_with fail
  refine (rLeq g0 g1).mono ?_
  rintro e w1 ⟨rfl, hb⟩
  dsimp only
  clear p0c0 p0c1 p0c2 p1c0 p1c1 p1c2 p2c0 p2c1 p2c2 p0l p1l p2l
  replace p0 := row_below p0 hb p0.lt
  replace p1 := row_below p1 hb p1.lt
  replace p2 := row_below p2 hb p2.lt
  replace g0 := g0.step hb
  replace g1 := g1.step hb
  replace g2 := g2.step hb
  replace hB := hB.trans (hb.mono hB.size)
  have p0c0 := p0.cell (i := 0) rfl
  have p0c1 := p0.cell (i := 1) rfl
  have p0c2 := p0.cell (i := 2) rfl
  have p0l := p0.lt
  have p1c0 := p1.cell (i := 0) rfl
  have p1c1 := p1.cell (i := 1) rfl
  have p1c2 := p1.cell (i := 2) rfl
  have p1l := p1.lt
  have p2c0 := p2.cell (i := 0) rfl
  have p2c1 := p2.cell (i := 1) rfl
  have p2c2 := p2.cell (i := 2) rfl
  have p2l := p2.lt
  clear hb
  cases hq : leqM ⟨k0, d0, z0⟩ ⟨k1, d1, z1⟩ with
  | false =>
    go_wp2_with fail
    refine (cLeq g0 g1).mono ?_
    rintro e w2 ⟨rfl, hb⟩
    dsimp only
    clear p0c0 p0c1 p0c2 p1c0 p1c1 p1c2 p2c0 p2c1 p2c2 p0l p1l p2l
    replace p0 := row_below p0 hb p0.lt
    replace p1 := row_below p1 hb p1.lt
    replace p2 := row_below p2 hb p2.lt
    replace g0 := g0.step hb
    replace g1 := g1.step hb
    replace g2 := g2.step hb
    replace hB := hB.trans (hb.mono hB.size)
    have p0c0 := p0.cell (i := 0) rfl
    have p0c1 := p0.cell (i := 1) rfl
    have p0c2 := p0.cell (i := 2) rfl
    have p0l := p0.lt
    have p1c0 := p1.cell (i := 0) rfl
    have p1c1 := p1.cell (i := 1) rfl
    have p1c2 := p1.cell (i := 2) rfl
    have p1l := p1.lt
    have p2c0 := p2.cell (i := 0) rfl
    have p2c1 := p2.cell (i := 1) rfl
    have p2c2 := p2.cell (i := 2) rfl
    have p2l := p2.lt
    clear hb
    go_wp2_with fail
    go_ret
    exact ⟨rfl, hB⟩
  | true =>
    have hL := hide hq
    go_wp2_with fail
    refine (cThen g0 g2).mono ?_
    rintro e w2 ⟨⟨k3, d3, z3⟩, a3, c3, h3, rfl, e3, hb⟩
    have H3 := hide h3
    clear h3
    dsimp only at e3 ⊢
    clear p0c0 p0c1 p0c2 p1c0 p1c1 p1c2 p2c0 p2c1 p2c2 p0l p1l p2l
    replace p0 := row_below p0 hb p0.lt
    replace p1 := row_below p1 hb p1.lt
    replace p2 := row_below p2 hb p2.lt
    replace g0 := g0.step hb
    replace g1 := g1.step hb
    replace g2 := g2.step hb
    replace hB := hB.trans (hb.mono hB.size)
    have p0c0 := p0.cell (i := 0) rfl
    have p0c1 := p0.cell (i := 1) rfl
    have p0c2 := p0.cell (i := 2) rfl
    have p0l := p0.lt
    have p1c0 := p1.cell (i := 0) rfl
    have p1c1 := p1.cell (i := 1) rfl
    have p1c2 := p1.cell (i := 2) rfl
    have p1l := p1.lt
    have p2c0 := p2.cell (i := 0) rfl
    have p2c1 := p2.cell (i := 1) rfl
    have p2c2 := p2.cell (i := 2) rfl
    have p2l := p2.lt
    clear hb
    go_wp2_with fail
    have p3p0 := p0.lt
    have p3p1 := p1.lt
    have p3p2 := p2.lt
    have p3hs := hB.size
    have hb : Below w2.heap.size w2 (w2.alloc (.cells #[.int .i64 k3, .int .i64 d3, .slice a3 z3.length c3] 24)) := (Below.refl _ _).alloc (Nat.le_refl _) _
    have p3 := Row.new w2 24 [.int .i64 k3, .int .i64 d3, .slice a3 z3.length c3]
    obtain ⟨w3, hw3⟩ : ∃ V, w2.alloc (.cells #[.int .i64 k3, .int .i64 d3, .slice a3 z3.length c3] 24) = V := ⟨_, rfl⟩
    rw [hw3] at hb p3
    try rw [hw3]
    clear p0c0 p0c1 p0c2 p1c0 p1c1 p1c2 p2c0 p2c1 p2c2 p0l p1l p2l
    replace p0 := row_below p0 hb p0.lt
    replace p1 := row_below p1 hb p1.lt
    replace p2 := row_below p2 hb p2.lt
    replace g0 := g0.step hb
    replace g1 := g1.step hb
    replace g2 := g2.step hb
    replace e3 := e3.step hb
    replace hB := hB.trans (hb.mono hB.size)
    have p0c0 := p0.cell (i := 0) rfl
    have p0c1 := p0.cell (i := 1) rfl
    have p0c2 := p0.cell (i := 2) rfl
    have p0l := p0.lt
    have p1c0 := p1.cell (i := 0) rfl
    have p1c1 := p1.cell (i := 1) rfl
    have p1c2 := p1.cell (i := 2) rfl
    have p1l := p1.lt
    have p2c0 := p2.cell (i := 0) rfl
    have p2c1 := p2.cell (i := 1) rfl
    have p2c2 := p2.cell (i := 2) rfl
    have p2l := p2.lt
    clear hb
    clear p0c0 p0c1 p0c2 p1c0 p1c1 p1c2 p2c0 p2c1 p2c2 p0l p1l p2l
    have p0c0 := p0.cell (i := 0) rfl
    have p0c1 := p0.cell (i := 1) rfl
    have p0c2 := p0.cell (i := 2) rfl
    have p0l := p0.lt
    have p1c0 := p1.cell (i := 0) rfl
    have p1c1 := p1.cell (i := 1) rfl
    have p1c2 := p1.cell (i := 2) rfl
    have p1l := p1.lt
    have p2c0 := p2.cell (i := 0) rfl
    have p2c1 := p2.cell (i := 1) rfl
    have p2c2 := p2.cell (i := 2) rfl
    have p2l := p2.lt
    have p3c0 := p3.cell (i := 0) rfl
    have p3c1 := p3.cell (i := 1) rfl
    have p3c2 := p3.cell (i := 2) rfl
    have p3l := p3.lt
    refine (cThen g1 g2).mono ?_
    rintro e w4 ⟨⟨k4, d4, z4⟩, a4, c4, h4, rfl, e4, hb⟩
    have H4 := hide h4
    clear h4
    dsimp only at e4 ⊢
    clear p0c0 p0c1 p0c2 p1c0 p1c1 p1c2 p2c0 p2c1 p2c2 p3c0 p3c1 p3c2 p0l p1l p2l p3l
    replace p0 := row_below p0 hb p0.lt
    replace p1 := row_below p1 hb p1.lt
    replace p2 := row_below p2 hb p2.lt
    replace p3 := row_below p3 hb p3.lt
    replace g0 := g0.step hb
    replace g1 := g1.step hb
    replace g2 := g2.step hb
    replace e3 := e3.step hb
    replace hB := hB.trans (hb.mono hB.size)
    have p0c0 := p0.cell (i := 0) rfl
    have p0c1 := p0.cell (i := 1) rfl
    have p0c2 := p0.cell (i := 2) rfl
    have p0l := p0.lt
    have p1c0 := p1.cell (i := 0) rfl
    have p1c1 := p1.cell (i := 1) rfl
    have p1c2 := p1.cell (i := 2) rfl
    have p1l := p1.lt
    have p2c0 := p2.cell (i := 0) rfl
    have p2c1 := p2.cell (i := 1) rfl
    have p2c2 := p2.cell (i := 2) rfl
    have p2l := p2.lt
    have p3c0 := p3.cell (i := 0) rfl
    have p3c1 := p3.cell (i := 1) rfl
    have p3c2 := p3.cell (i := 2) rfl
    have p3l := p3.lt
    clear hb
    by_cases h1 : codeN ⟨k0, d0, z0⟩ ⟨k2, d2, z2⟩ = 0
    · skip
      by_cases h2 : codeN ⟨k1, d1, z1⟩ ⟨k2, d2, z2⟩ = 0
      · skip
        have f8 : leqM ⟨k3, d3, z3⟩ ⟨k4, d4, z4⟩ = true := by rw [H3.out, H4.out, resN_ok h1, resN_ok h2]; exact then_leq_ahead hL.out h1 h2
        go_wp2_with fail
        have p4p0 := p0.lt
        have p4p1 := p1.lt
        have p4p2 := p2.lt
        have p4p3 := p3.lt
        have p4hs := hB.size
        have hb : Below w4.heap.size w4 (w4.alloc (.cells #[.int .i64 k4, .int .i64 d4, .slice a4 z4.length c4] 24)) := (Below.refl _ _).alloc (Nat.le_refl _) _
        have p4 := Row.new w4 24 [.int .i64 k4, .int .i64 d4, .slice a4 z4.length c4]
        obtain ⟨w5, hw5⟩ : ∃ V, w4.alloc (.cells #[.int .i64 k4, .int .i64 d4, .slice a4 z4.length c4] 24) = V := ⟨_, rfl⟩
        rw [hw5] at hb p4
        try rw [hw5]
        clear p0c0 p0c1 p0c2 p1c0 p1c1 p1c2 p2c0 p2c1 p2c2 p3c0 p3c1 p3c2 p0l p1l p2l p3l
        replace p0 := row_below p0 hb p0.lt
        replace p1 := row_below p1 hb p1.lt
        replace p2 := row_below p2 hb p2.lt
        replace p3 := row_below p3 hb p3.lt
        replace g0 := g0.step hb
        replace g1 := g1.step hb
        replace g2 := g2.step hb
        replace e3 := e3.step hb
        replace e4 := e4.step hb
        replace hB := hB.trans (hb.mono hB.size)
        have p0c0 := p0.cell (i := 0) rfl
        have p0c1 := p0.cell (i := 1) rfl
        have p0c2 := p0.cell (i := 2) rfl
        have p0l := p0.lt
        have p1c0 := p1.cell (i := 0) rfl
        have p1c1 := p1.cell (i := 1) rfl
        have p1c2 := p1.cell (i := 2) rfl
        have p1l := p1.lt
        have p2c0 := p2.cell (i := 0) rfl
        have p2c1 := p2.cell (i := 1) rfl
        have p2c2 := p2.cell (i := 2) rfl
        have p2l := p2.lt
        have p3c0 := p3.cell (i := 0) rfl
        have p3c1 := p3.cell (i := 1) rfl
        have p3c2 := p3.cell (i := 2) rfl
        have p3l := p3.lt
        clear hb
        clear p0c0 p0c1 p0c2 p1c0 p1c1 p1c2 p2c0 p2c1 p2c2 p3c0 p3c1 p3c2 p0l p1l p2l p3l
        have p0c0 := p0.cell (i := 0) rfl
        have p0c1 := p0.cell (i := 1) rfl
        have p0c2 := p0.cell (i := 2) rfl
        have p0l := p0.lt
        have p1c0 := p1.cell (i := 0) rfl
        have p1c1 := p1.cell (i := 1) rfl
        have p1c2 := p1.cell (i := 2) rfl
        have p1l := p1.lt
        have p2c0 := p2.cell (i := 0) rfl
        have p2c1 := p2.cell (i := 1) rfl
        have p2c2 := p2.cell (i := 2) rfl
        have p2l := p2.lt
        have p3c0 := p3.cell (i := 0) rfl
        have p3c1 := p3.cell (i := 1) rfl
        have p3c2 := p3.cell (i := 2) rfl
        have p3l := p3.lt
        have p4c0 := p4.cell (i := 0) rfl
        have p4c1 := p4.cell (i := 1) rfl
        have p4c2 := p4.cell (i := 2) rfl
        have p4l := p4.lt
        refine (cLeq e3 e4).mono ?_
        rintro e w6 ⟨rfl, hb⟩
        dsimp only
        clear p0c0 p0c1 p0c2 p1c0 p1c1 p1c2 p2c0 p2c1 p2c2 p3c0 p3c1 p3c2 p4c0 p4c1 p4c2 p0l p1l p2l p3l p4l
        replace p0 := row_below p0 hb p0.lt
        replace p1 := row_below p1 hb p1.lt
        replace p2 := row_below p2 hb p2.lt
        replace p3 := row_below p3 hb p3.lt
        replace p4 := row_below p4 hb p4.lt
        replace g0 := g0.step hb
        replace g1 := g1.step hb
        replace g2 := g2.step hb
        replace e3 := e3.step hb
        replace e4 := e4.step hb
        replace hB := hB.trans (hb.mono hB.size)
        have p0c0 := p0.cell (i := 0) rfl
        have p0c1 := p0.cell (i := 1) rfl
        have p0c2 := p0.cell (i := 2) rfl
        have p0l := p0.lt
        have p1c0 := p1.cell (i := 0) rfl
        have p1c1 := p1.cell (i := 1) rfl
        have p1c2 := p1.cell (i := 2) rfl
        have p1l := p1.lt
        have p2c0 := p2.cell (i := 0) rfl
        have p2c1 := p2.cell (i := 1) rfl
        have p2c2 := p2.cell (i := 2) rfl
        have p2l := p2.lt
        have p3c0 := p3.cell (i := 0) rfl
        have p3c1 := p3.cell (i := 1) rfl
        have p3c2 := p3.cell (i := 2) rfl
        have p3l := p3.lt
        have p4c0 := p4.cell (i := 0) rfl
        have p4c1 := p4.cell (i := 1) rfl
        have p4c2 := p4.cell (i := 2) rfl
        have p4l := p4.lt
        clear hb
        go_wp2_with fail
        clear f8 h1 h2
        have b5p3 := p3.lt
        have b5p4 := p4.lt
        refine (oThen g2 g0).mono ?_
        rintro e w7 ⟨⟨k5, d5, z5⟩, a5, c5, h5, rfl, ow5, hb⟩
        have H5 := hide h5
        clear h5
        dsimp only at ow5 ⊢
        have sz5 := hb.size
        clear p0c0 p0c1 p0c2 p1c0 p1c1 p1c2 p2c0 p2c1 p2c2 p3c0 p3c1 p3c2 p4c0 p4c1 p4c2 p0l p1l p2l p3l p4l
        replace p0 := row_below p0 hb p0.lt
        replace p1 := row_below p1 hb p1.lt
        replace p2 := row_below p2 hb p2.lt
        replace p3 := row_below p3 hb p3.lt
        replace p4 := row_below p4 hb p4.lt
        replace g0 := g0.step hb
        replace g1 := g1.step hb
        replace g2 := g2.step hb
        replace hB := hB.trans (hb.mono hB.size)
        have p0c0 := p0.cell (i := 0) rfl
        have p0c1 := p0.cell (i := 1) rfl
        have p0c2 := p0.cell (i := 2) rfl
        have p0l := p0.lt
        have p1c0 := p1.cell (i := 0) rfl
        have p1c1 := p1.cell (i := 1) rfl
        have p1c2 := p1.cell (i := 2) rfl
        have p1l := p1.lt
        have p2c0 := p2.cell (i := 0) rfl
        have p2c1 := p2.cell (i := 1) rfl
        have p2c2 := p2.cell (i := 2) rfl
        have p2l := p2.lt
        have p3c0 := p3.cell (i := 0) rfl
        have p3c1 := p3.cell (i := 1) rfl
        have p3c2 := p3.cell (i := 2) rfl
        have p3l := p3.lt
        have p4c0 := p4.cell (i := 0) rfl
        have p4c1 := p4.cell (i := 1) rfl
        have p4c2 := p4.cell (i := 2) rfl
        have p4l := p4.lt
        clear hb
        have p3f0 := p3.frozen 0
        have p3f1 := p3.frozen 1
        have p3f2 := p3.frozen 2
        go_wp2_with fail
        clear p0c0 p0c1 p0c2 p1c0 p1c1 p1c2 p2c0 p2c1 p2c2 p3c0 p3c1 p3c2 p4c0 p4c1 p4c2 p0l p1l p2l p3l p4l
        clear p3f0 p3f1 p3f2
        replace p0 := ((p0.other (b := w2.heap.size) (by omega) 0 (.int .i64 k5)).other (b := w2.heap.size) (by omega) 1 (.int .i64 d5)).other (b := w2.heap.size) (by omega) 2 (.slice a5 z5.length c5)
        replace p1 := ((p1.other (b := w2.heap.size) (by omega) 0 (.int .i64 k5)).other (b := w2.heap.size) (by omega) 1 (.int .i64 d5)).other (b := w2.heap.size) (by omega) 2 (.slice a5 z5.length c5)
        replace p2 := ((p2.other (b := w2.heap.size) (by omega) 0 (.int .i64 k5)).other (b := w2.heap.size) (by omega) 1 (.int .i64 d5)).other (b := w2.heap.size) (by omega) 2 (.slice a5 z5.length c5)
        replace p4 := ((p4.other (b := w2.heap.size) (by omega) 0 (.int .i64 k5)).other (b := w2.heap.size) (by omega) 1 (.int .i64 d5)).other (b := w2.heap.size) (by omega) 2 (.slice a5 z5.length c5)
        replace p3 := ((p3.set 0 (.int .i64 k5)).set 1 (.int .i64 d5)).set 2 (.slice a5 z5.length c5)
        replace ow5 := ownsRow_setCell_below (ownsRow_setCell_below (ownsRow_setCell_below ow5 (a := ⟨w2.heap.size, 0, none⟩) (by dsimp only; omega) (.int .i64 k5)) (a := ⟨w2.heap.size, 1, none⟩) (by dsimp only; omega) (.int .i64 d5)) (a := ⟨w2.heap.size, 2, none⟩) (by dsimp only; omega) (.slice a5 z5.length c5)
        replace hB := ((hB.setCell (p := ⟨w2.heap.size, 0, none⟩) (by dsimp only; omega) (.int .i64 k5)).setCell (p := ⟨w2.heap.size, 1, none⟩) (by dsimp only; omega) (.int .i64 d5)).setCell (p := ⟨w2.heap.size, 2, none⟩) (by dsimp only; omega) (.slice a5 z5.length c5)
        obtain ⟨w8, hw8⟩ : ∃ V, (((w7.setCell ⟨w2.heap.size, 0, none⟩ (.int .i64 k5)).setCell ⟨w2.heap.size, 1, none⟩ (.int .i64 d5)).setCell ⟨w2.heap.size, 2, none⟩ (.slice a5 z5.length c5)) = V := ⟨_, rfl⟩
        have hz8 : w8.heap.size = w7.heap.size := by rw [← hw8]; simp
        replace p3 : Row w8 (w2.heap.size) 24 [.int .i64 k5, .int .i64 d5, .slice a5 z5.length c5] := hw8 ▸ p3
        rw [hw8] at p0 p1 p2 p4 ow5 hB
        try rw [hw8]
        have p0c0 := p0.cell (i := 0) rfl
        have p0c1 := p0.cell (i := 1) rfl
        have p0c2 := p0.cell (i := 2) rfl
        have p0l := p0.lt
        have p1c0 := p1.cell (i := 0) rfl
        have p1c1 := p1.cell (i := 1) rfl
        have p1c2 := p1.cell (i := 2) rfl
        have p1l := p1.lt
        have p2c0 := p2.cell (i := 0) rfl
        have p2c1 := p2.cell (i := 1) rfl
        have p2c2 := p2.cell (i := 2) rfl
        have p2l := p2.lt
        have p3c0 := p3.cell (i := 0) rfl
        have p3c1 := p3.cell (i := 1) rfl
        have p3c2 := p3.cell (i := 2) rfl
        have p3l := p3.lt
        have p4c0 := p4.cell (i := 0) rfl
        have p4c1 := p4.cell (i := 1) rfl
        have p4c2 := p4.cell (i := 2) rfl
        have p4l := p4.lt
        replace g0 := (G0.below (hB.mono hn₀)).mono (Nat.le_trans hn₀ hB.size)
        replace g1 := (G1.below (hB.mono hn₀)).mono (Nat.le_trans hn₀ hB.size)
        replace g2 := (G2.below (hB.mono hn₀)).mono (Nat.le_trans hn₀ hB.size)
        have b6p3 := p3.lt
        have b6p4 := p4.lt
        refine (oThen g2 g1).mono ?_
        rintro e w9 ⟨⟨k6, d6, z6⟩, a6, c6, h6, rfl, ow6, hb⟩
        have H6 := hide h6
        clear h6
        dsimp only at ow6 ⊢
        have sz6 := hb.size
        clear p0c0 p0c1 p0c2 p1c0 p1c1 p1c2 p2c0 p2c1 p2c2 p3c0 p3c1 p3c2 p4c0 p4c1 p4c2 p0l p1l p2l p3l p4l
        replace p0 := row_below p0 hb p0.lt
        replace p1 := row_below p1 hb p1.lt
        replace p2 := row_below p2 hb p2.lt
        replace p3 := row_below p3 hb p3.lt
        replace p4 := row_below p4 hb p4.lt
        replace g0 := g0.step hb
        replace g1 := g1.step hb
        replace g2 := g2.step hb
        replace ow5 := ownsRow_below ow5 hb
        replace hB := hB.trans (hb.mono hB.size)
        have p0c0 := p0.cell (i := 0) rfl
        have p0c1 := p0.cell (i := 1) rfl
        have p0c2 := p0.cell (i := 2) rfl
        have p0l := p0.lt
        have p1c0 := p1.cell (i := 0) rfl
        have p1c1 := p1.cell (i := 1) rfl
        have p1c2 := p1.cell (i := 2) rfl
        have p1l := p1.lt
        have p2c0 := p2.cell (i := 0) rfl
        have p2c1 := p2.cell (i := 1) rfl
        have p2c2 := p2.cell (i := 2) rfl
        have p2l := p2.lt
        have p3c0 := p3.cell (i := 0) rfl
        have p3c1 := p3.cell (i := 1) rfl
        have p3c2 := p3.cell (i := 2) rfl
        have p3l := p3.lt
        have p4c0 := p4.cell (i := 0) rfl
        have p4c1 := p4.cell (i := 1) rfl
        have p4c2 := p4.cell (i := 2) rfl
        have p4l := p4.lt
        clear hb
        have p4f0 := p4.frozen 0
        have p4f1 := p4.frozen 1
        have p4f2 := p4.frozen 2
        by_cases h1 : codeN ⟨k2, d2, z2⟩ ⟨k0, d0, z0⟩ = 0
        · skip
          by_cases h2 : codeN ⟨k2, d2, z2⟩ ⟨k1, d1, z1⟩ = 0
          · skip
            have f9 : leqM ⟨k5, d5, z5⟩ ⟨k6, d6, z6⟩ = true := by rw [H5.out, H6.out, resN_ok h1, resN_ok h2]; exact then_leq_behind hL.out h1 h2
            go_wp2_with fail
            clear p0c0 p0c1 p0c2 p1c0 p1c1 p1c2 p2c0 p2c1 p2c2 p3c0 p3c1 p3c2 p4c0 p4c1 p4c2 p0l p1l p2l p3l p4l
            clear p4f0 p4f1 p4f2
            replace p0 := ((p0.other (b := w4.heap.size) (by omega) 0 (.int .i64 k6)).other (b := w4.heap.size) (by omega) 1 (.int .i64 d6)).other (b := w4.heap.size) (by omega) 2 (.slice a6 z6.length c6)
            replace p1 := ((p1.other (b := w4.heap.size) (by omega) 0 (.int .i64 k6)).other (b := w4.heap.size) (by omega) 1 (.int .i64 d6)).other (b := w4.heap.size) (by omega) 2 (.slice a6 z6.length c6)
            replace p2 := ((p2.other (b := w4.heap.size) (by omega) 0 (.int .i64 k6)).other (b := w4.heap.size) (by omega) 1 (.int .i64 d6)).other (b := w4.heap.size) (by omega) 2 (.slice a6 z6.length c6)
            replace p3 := ((p3.other (b := w4.heap.size) (by omega) 0 (.int .i64 k6)).other (b := w4.heap.size) (by omega) 1 (.int .i64 d6)).other (b := w4.heap.size) (by omega) 2 (.slice a6 z6.length c6)
            replace p4 := ((p4.set 0 (.int .i64 k6)).set 1 (.int .i64 d6)).set 2 (.slice a6 z6.length c6)
            replace ow5 := ownsRow_setCell_below (ownsRow_setCell_below (ownsRow_setCell_below ow5 (a := ⟨w4.heap.size, 0, none⟩) (by dsimp only; omega) (.int .i64 k6)) (a := ⟨w4.heap.size, 1, none⟩) (by dsimp only; omega) (.int .i64 d6)) (a := ⟨w4.heap.size, 2, none⟩) (by dsimp only; omega) (.slice a6 z6.length c6)
            replace ow6 := ownsRow_setCell_below (ownsRow_setCell_below (ownsRow_setCell_below ow6 (a := ⟨w4.heap.size, 0, none⟩) (by dsimp only; omega) (.int .i64 k6)) (a := ⟨w4.heap.size, 1, none⟩) (by dsimp only; omega) (.int .i64 d6)) (a := ⟨w4.heap.size, 2, none⟩) (by dsimp only; omega) (.slice a6 z6.length c6)
            replace hB := ((hB.setCell (p := ⟨w4.heap.size, 0, none⟩) (by dsimp only; omega) (.int .i64 k6)).setCell (p := ⟨w4.heap.size, 1, none⟩) (by dsimp only; omega) (.int .i64 d6)).setCell (p := ⟨w4.heap.size, 2, none⟩) (by dsimp only; omega) (.slice a6 z6.length c6)
            obtain ⟨w10, hw10⟩ : ∃ V, (((w9.setCell ⟨w4.heap.size, 0, none⟩ (.int .i64 k6)).setCell ⟨w4.heap.size, 1, none⟩ (.int .i64 d6)).setCell ⟨w4.heap.size, 2, none⟩ (.slice a6 z6.length c6)) = V := ⟨_, rfl⟩
            have hz10 : w10.heap.size = w9.heap.size := by rw [← hw10]; simp
            replace p4 : Row w10 (w4.heap.size) 24 [.int .i64 k6, .int .i64 d6, .slice a6 z6.length c6] := hw10 ▸ p4
            rw [hw10] at p0 p1 p2 p3 ow5 ow6 hB
            try rw [hw10]
            have p0c0 := p0.cell (i := 0) rfl
            have p0c1 := p0.cell (i := 1) rfl
            have p0c2 := p0.cell (i := 2) rfl
            have p0l := p0.lt
            have p1c0 := p1.cell (i := 0) rfl
            have p1c1 := p1.cell (i := 1) rfl
            have p1c2 := p1.cell (i := 2) rfl
            have p1l := p1.lt
            have p2c0 := p2.cell (i := 0) rfl
            have p2c1 := p2.cell (i := 1) rfl
            have p2c2 := p2.cell (i := 2) rfl
            have p2l := p2.lt
            have p3c0 := p3.cell (i := 0) rfl
            have p3c1 := p3.cell (i := 1) rfl
            have p3c2 := p3.cell (i := 2) rfl
            have p3l := p3.lt
            have p4c0 := p4.cell (i := 0) rfl
            have p4c1 := p4.cell (i := 1) rfl
            have p4c2 := p4.cell (i := 2) rfl
            have p4l := p4.lt
            have e5 := own_arg ow5 (by have := resN_len ⟨k2, d2, z2⟩ ⟨k0, d0, z0⟩; rw [← H5.out] at this; exact this)
            have e6 := own_arg ow6 (by have := resN_len ⟨k2, d2, z2⟩ ⟨k1, d1, z1⟩; rw [← H6.out] at this; exact this)
            refine (cLeq e5 e6).mono ?_
            rintro e wl ⟨rfl, hb⟩
            dsimp only
            replace hB := hB.trans (hb.mono hB.size)
            clear p0c0 p0c1 p0c2 p1c0 p1c1 p1c2 p2c0 p2c1 p2c2 p3c0 p3c1 p3c2 p4c0 p4c1 p4c2 p0l p1l p2l p3l p4l
            go_wp2_with fail
            go_ret
            exact ⟨rfl, hB⟩
          · skip
            have f9 : (codeN ⟨k2, d2, z2⟩ ⟨k1, d1, z1⟩ != 0) = true := by rw [bne_iff_ne]; exact h2
            clear h2
            go_wp2_with fail
            go_ret
            exact ⟨rfl, (((hB.setCell (p := ⟨w4.heap.size, 0, none⟩) (by dsimp only; omega) _).setCell (p := ⟨w4.heap.size, 1, none⟩) (by dsimp only; omega) _).setCell (p := ⟨w4.heap.size, 2, none⟩) (by dsimp only; omega) _)⟩
        · skip
          have f9 : (codeN ⟨k2, d2, z2⟩ ⟨k0, d0, z0⟩ != 0) = true := by rw [bne_iff_ne]; exact h1
          clear h1
          go_wp2_with fail
          go_ret
          exact ⟨rfl, (((hB.setCell (p := ⟨w4.heap.size, 0, none⟩) (by dsimp only; omega) _).setCell (p := ⟨w4.heap.size, 1, none⟩) (by dsimp only; omega) _).setCell (p := ⟨w4.heap.size, 2, none⟩) (by dsimp only; omega) _)⟩
      · skip
        have f8 : (codeN ⟨k1, d1, z1⟩ ⟨k2, d2, z2⟩ == 0) = false := by rw [beq_eq_false_iff_ne]; exact h2
        clear h2
        go_wp2_with fail
        have p4p0 := p0.lt
        have p4p1 := p1.lt
        have p4p2 := p2.lt
        have p4p3 := p3.lt
        have p4hs := hB.size
        have hb : Below w4.heap.size w4 (w4.alloc (.cells #[.int .i64 k4, .int .i64 d4, .slice a4 z4.length c4] 24)) := (Below.refl _ _).alloc (Nat.le_refl _) _
        have p4 := Row.new w4 24 [.int .i64 k4, .int .i64 d4, .slice a4 z4.length c4]
        obtain ⟨w5, hw5⟩ : ∃ V, w4.alloc (.cells #[.int .i64 k4, .int .i64 d4, .slice a4 z4.length c4] 24) = V := ⟨_, rfl⟩
        rw [hw5] at hb p4
        try rw [hw5]
        clear p0c0 p0c1 p0c2 p1c0 p1c1 p1c2 p2c0 p2c1 p2c2 p3c0 p3c1 p3c2 p0l p1l p2l p3l
        replace p0 := row_below p0 hb p0.lt
        replace p1 := row_below p1 hb p1.lt
        replace p2 := row_below p2 hb p2.lt
        replace p3 := row_below p3 hb p3.lt
        replace g0 := g0.step hb
        replace g1 := g1.step hb
        replace g2 := g2.step hb
        replace e3 := e3.step hb
        replace e4 := e4.step hb
        replace hB := hB.trans (hb.mono hB.size)
        have p0c0 := p0.cell (i := 0) rfl
        have p0c1 := p0.cell (i := 1) rfl
        have p0c2 := p0.cell (i := 2) rfl
        have p0l := p0.lt
        have p1c0 := p1.cell (i := 0) rfl
        have p1c1 := p1.cell (i := 1) rfl
        have p1c2 := p1.cell (i := 2) rfl
        have p1l := p1.lt
        have p2c0 := p2.cell (i := 0) rfl
        have p2c1 := p2.cell (i := 1) rfl
        have p2c2 := p2.cell (i := 2) rfl
        have p2l := p2.lt
        have p3c0 := p3.cell (i := 0) rfl
        have p3c1 := p3.cell (i := 1) rfl
        have p3c2 := p3.cell (i := 2) rfl
        have p3l := p3.lt
        clear hb
        clear p0c0 p0c1 p0c2 p1c0 p1c1 p1c2 p2c0 p2c1 p2c2 p3c0 p3c1 p3c2 p0l p1l p2l p3l
        have p0c0 := p0.cell (i := 0) rfl
        have p0c1 := p0.cell (i := 1) rfl
        have p0c2 := p0.cell (i := 2) rfl
        have p0l := p0.lt
        have p1c0 := p1.cell (i := 0) rfl
        have p1c1 := p1.cell (i := 1) rfl
        have p1c2 := p1.cell (i := 2) rfl
        have p1l := p1.lt
        have p2c0 := p2.cell (i := 0) rfl
        have p2c1 := p2.cell (i := 1) rfl
        have p2c2 := p2.cell (i := 2) rfl
        have p2l := p2.lt
        have p3c0 := p3.cell (i := 0) rfl
        have p3c1 := p3.cell (i := 1) rfl
        have p3c2 := p3.cell (i := 2) rfl
        have p3l := p3.lt
        have p4c0 := p4.cell (i := 0) rfl
        have p4c1 := p4.cell (i := 1) rfl
        have p4c2 := p4.cell (i := 2) rfl
        have p4l := p4.lt
        have b5p3 := p3.lt
        have b5p4 := p4.lt
        refine (oThen g2 g0).mono ?_
        rintro e w6 ⟨⟨k5, d5, z5⟩, a5, c5, h5, rfl, ow5, hb⟩
        have H5 := hide h5
        clear h5
        dsimp only at ow5 ⊢
        have sz5 := hb.size
        clear p0c0 p0c1 p0c2 p1c0 p1c1 p1c2 p2c0 p2c1 p2c2 p3c0 p3c1 p3c2 p4c0 p4c1 p4c2 p0l p1l p2l p3l p4l
        replace p0 := row_below p0 hb p0.lt
        replace p1 := row_below p1 hb p1.lt
        replace p2 := row_below p2 hb p2.lt
        replace p3 := row_below p3 hb p3.lt
        replace p4 := row_below p4 hb p4.lt
        replace g0 := g0.step hb
        replace g1 := g1.step hb
        replace g2 := g2.step hb
        replace hB := hB.trans (hb.mono hB.size)
        have p0c0 := p0.cell (i := 0) rfl
        have p0c1 := p0.cell (i := 1) rfl
        have p0c2 := p0.cell (i := 2) rfl
        have p0l := p0.lt
        have p1c0 := p1.cell (i := 0) rfl
        have p1c1 := p1.cell (i := 1) rfl
        have p1c2 := p1.cell (i := 2) rfl
        have p1l := p1.lt
        have p2c0 := p2.cell (i := 0) rfl
        have p2c1 := p2.cell (i := 1) rfl
        have p2c2 := p2.cell (i := 2) rfl
        have p2l := p2.lt
        have p3c0 := p3.cell (i := 0) rfl
        have p3c1 := p3.cell (i := 1) rfl
        have p3c2 := p3.cell (i := 2) rfl
        have p3l := p3.lt
        have p4c0 := p4.cell (i := 0) rfl
        have p4c1 := p4.cell (i := 1) rfl
        have p4c2 := p4.cell (i := 2) rfl
        have p4l := p4.lt
        clear hb
        have p3f0 := p3.frozen 0
        have p3f1 := p3.frozen 1
        have p3f2 := p3.frozen 2
        go_wp2_with fail
        clear p0c0 p0c1 p0c2 p1c0 p1c1 p1c2 p2c0 p2c1 p2c2 p3c0 p3c1 p3c2 p4c0 p4c1 p4c2 p0l p1l p2l p3l p4l
        clear p3f0 p3f1 p3f2
        replace p0 := ((p0.other (b := w2.heap.size) (by omega) 0 (.int .i64 k5)).other (b := w2.heap.size) (by omega) 1 (.int .i64 d5)).other (b := w2.heap.size) (by omega) 2 (.slice a5 z5.length c5)
        replace p1 := ((p1.other (b := w2.heap.size) (by omega) 0 (.int .i64 k5)).other (b := w2.heap.size) (by omega) 1 (.int .i64 d5)).other (b := w2.heap.size) (by omega) 2 (.slice a5 z5.length c5)
        replace p2 := ((p2.other (b := w2.heap.size) (by omega) 0 (.int .i64 k5)).other (b := w2.heap.size) (by omega) 1 (.int .i64 d5)).other (b := w2.heap.size) (by omega) 2 (.slice a5 z5.length c5)
        replace p4 := ((p4.other (b := w2.heap.size) (by omega) 0 (.int .i64 k5)).other (b := w2.heap.size) (by omega) 1 (.int .i64 d5)).other (b := w2.heap.size) (by omega) 2 (.slice a5 z5.length c5)
        replace p3 := ((p3.set 0 (.int .i64 k5)).set 1 (.int .i64 d5)).set 2 (.slice a5 z5.length c5)
        replace ow5 := ownsRow_setCell_below (ownsRow_setCell_below (ownsRow_setCell_below ow5 (a := ⟨w2.heap.size, 0, none⟩) (by dsimp only; omega) (.int .i64 k5)) (a := ⟨w2.heap.size, 1, none⟩) (by dsimp only; omega) (.int .i64 d5)) (a := ⟨w2.heap.size, 2, none⟩) (by dsimp only; omega) (.slice a5 z5.length c5)
        replace hB := ((hB.setCell (p := ⟨w2.heap.size, 0, none⟩) (by dsimp only; omega) (.int .i64 k5)).setCell (p := ⟨w2.heap.size, 1, none⟩) (by dsimp only; omega) (.int .i64 d5)).setCell (p := ⟨w2.heap.size, 2, none⟩) (by dsimp only; omega) (.slice a5 z5.length c5)
        obtain ⟨w7, hw7⟩ : ∃ V, (((w6.setCell ⟨w2.heap.size, 0, none⟩ (.int .i64 k5)).setCell ⟨w2.heap.size, 1, none⟩ (.int .i64 d5)).setCell ⟨w2.heap.size, 2, none⟩ (.slice a5 z5.length c5)) = V := ⟨_, rfl⟩
        have hz7 : w7.heap.size = w6.heap.size := by rw [← hw7]; simp
        replace p3 : Row w7 (w2.heap.size) 24 [.int .i64 k5, .int .i64 d5, .slice a5 z5.length c5] := hw7 ▸ p3
        rw [hw7] at p0 p1 p2 p4 ow5 hB
        try rw [hw7]
        have p0c0 := p0.cell (i := 0) rfl
        have p0c1 := p0.cell (i := 1) rfl
        have p0c2 := p0.cell (i := 2) rfl
        have p0l := p0.lt
        have p1c0 := p1.cell (i := 0) rfl
        have p1c1 := p1.cell (i := 1) rfl
        have p1c2 := p1.cell (i := 2) rfl
        have p1l := p1.lt
        have p2c0 := p2.cell (i := 0) rfl
        have p2c1 := p2.cell (i := 1) rfl
        have p2c2 := p2.cell (i := 2) rfl
        have p2l := p2.lt
        have p3c0 := p3.cell (i := 0) rfl
        have p3c1 := p3.cell (i := 1) rfl
        have p3c2 := p3.cell (i := 2) rfl
        have p3l := p3.lt
        have p4c0 := p4.cell (i := 0) rfl
        have p4c1 := p4.cell (i := 1) rfl
        have p4c2 := p4.cell (i := 2) rfl
        have p4l := p4.lt
        replace g0 := (G0.below (hB.mono hn₀)).mono (Nat.le_trans hn₀ hB.size)
        replace g1 := (G1.below (hB.mono hn₀)).mono (Nat.le_trans hn₀ hB.size)
        replace g2 := (G2.below (hB.mono hn₀)).mono (Nat.le_trans hn₀ hB.size)
        have b6p3 := p3.lt
        have b6p4 := p4.lt
        refine (oThen g2 g1).mono ?_
        rintro e w8 ⟨⟨k6, d6, z6⟩, a6, c6, h6, rfl, ow6, hb⟩
        have H6 := hide h6
        clear h6
        dsimp only at ow6 ⊢
        have sz6 := hb.size
        clear p0c0 p0c1 p0c2 p1c0 p1c1 p1c2 p2c0 p2c1 p2c2 p3c0 p3c1 p3c2 p4c0 p4c1 p4c2 p0l p1l p2l p3l p4l
        replace p0 := row_below p0 hb p0.lt
        replace p1 := row_below p1 hb p1.lt
        replace p2 := row_below p2 hb p2.lt
        replace p3 := row_below p3 hb p3.lt
        replace p4 := row_below p4 hb p4.lt
        replace g0 := g0.step hb
        replace g1 := g1.step hb
        replace g2 := g2.step hb
        replace ow5 := ownsRow_below ow5 hb
        replace hB := hB.trans (hb.mono hB.size)
        have p0c0 := p0.cell (i := 0) rfl
        have p0c1 := p0.cell (i := 1) rfl
        have p0c2 := p0.cell (i := 2) rfl
        have p0l := p0.lt
        have p1c0 := p1.cell (i := 0) rfl
        have p1c1 := p1.cell (i := 1) rfl
        have p1c2 := p1.cell (i := 2) rfl
        have p1l := p1.lt
        have p2c0 := p2.cell (i := 0) rfl
        have p2c1 := p2.cell (i := 1) rfl
        have p2c2 := p2.cell (i := 2) rfl
        have p2l := p2.lt
        have p3c0 := p3.cell (i := 0) rfl
        have p3c1 := p3.cell (i := 1) rfl
        have p3c2 := p3.cell (i := 2) rfl
        have p3l := p3.lt
        have p4c0 := p4.cell (i := 0) rfl
        have p4c1 := p4.cell (i := 1) rfl
        have p4c2 := p4.cell (i := 2) rfl
        have p4l := p4.lt
        clear hb
        have p4f0 := p4.frozen 0
        have p4f1 := p4.frozen 1
        have p4f2 := p4.frozen 2
        by_cases h1 : codeN ⟨k2, d2, z2⟩ ⟨k0, d0, z0⟩ = 0
        · skip
          by_cases h2 : codeN ⟨k2, d2, z2⟩ ⟨k1, d1, z1⟩ = 0
          · skip
            have f9 : leqM ⟨k5, d5, z5⟩ ⟨k6, d6, z6⟩ = true := by rw [H5.out, H6.out, resN_ok h1, resN_ok h2]; exact then_leq_behind hL.out h1 h2
            go_wp2_with fail
            clear p0c0 p0c1 p0c2 p1c0 p1c1 p1c2 p2c0 p2c1 p2c2 p3c0 p3c1 p3c2 p4c0 p4c1 p4c2 p0l p1l p2l p3l p4l
            clear p4f0 p4f1 p4f2
            replace p0 := ((p0.other (b := w4.heap.size) (by omega) 0 (.int .i64 k6)).other (b := w4.heap.size) (by omega) 1 (.int .i64 d6)).other (b := w4.heap.size) (by omega) 2 (.slice a6 z6.length c6)
            replace p1 := ((p1.other (b := w4.heap.size) (by omega) 0 (.int .i64 k6)).other (b := w4.heap.size) (by omega) 1 (.int .i64 d6)).other (b := w4.heap.size) (by omega) 2 (.slice a6 z6.length c6)
            replace p2 := ((p2.other (b := w4.heap.size) (by omega) 0 (.int .i64 k6)).other (b := w4.heap.size) (by omega) 1 (.int .i64 d6)).other (b := w4.heap.size) (by omega) 2 (.slice a6 z6.length c6)
            replace p3 := ((p3.other (b := w4.heap.size) (by omega) 0 (.int .i64 k6)).other (b := w4.heap.size) (by omega) 1 (.int .i64 d6)).other (b := w4.heap.size) (by omega) 2 (.slice a6 z6.length c6)
            replace p4 := ((p4.set 0 (.int .i64 k6)).set 1 (.int .i64 d6)).set 2 (.slice a6 z6.length c6)
            replace ow5 := ownsRow_setCell_below (ownsRow_setCell_below (ownsRow_setCell_below ow5 (a := ⟨w4.heap.size, 0, none⟩) (by dsimp only; omega) (.int .i64 k6)) (a := ⟨w4.heap.size, 1, none⟩) (by dsimp only; omega) (.int .i64 d6)) (a := ⟨w4.heap.size, 2, none⟩) (by dsimp only; omega) (.slice a6 z6.length c6)
            replace ow6 := ownsRow_setCell_below (ownsRow_setCell_below (ownsRow_setCell_below ow6 (a := ⟨w4.heap.size, 0, none⟩) (by dsimp only; omega) (.int .i64 k6)) (a := ⟨w4.heap.size, 1, none⟩) (by dsimp only; omega) (.int .i64 d6)) (a := ⟨w4.heap.size, 2, none⟩) (by dsimp only; omega) (.slice a6 z6.length c6)
            replace hB := ((hB.setCell (p := ⟨w4.heap.size, 0, none⟩) (by dsimp only; omega) (.int .i64 k6)).setCell (p := ⟨w4.heap.size, 1, none⟩) (by dsimp only; omega) (.int .i64 d6)).setCell (p := ⟨w4.heap.size, 2, none⟩) (by dsimp only; omega) (.slice a6 z6.length c6)
            obtain ⟨w9, hw9⟩ : ∃ V, (((w8.setCell ⟨w4.heap.size, 0, none⟩ (.int .i64 k6)).setCell ⟨w4.heap.size, 1, none⟩ (.int .i64 d6)).setCell ⟨w4.heap.size, 2, none⟩ (.slice a6 z6.length c6)) = V := ⟨_, rfl⟩
            have hz9 : w9.heap.size = w8.heap.size := by rw [← hw9]; simp
            replace p4 : Row w9 (w4.heap.size) 24 [.int .i64 k6, .int .i64 d6, .slice a6 z6.length c6] := hw9 ▸ p4
            rw [hw9] at p0 p1 p2 p3 ow5 ow6 hB
            try rw [hw9]
            have p0c0 := p0.cell (i := 0) rfl
            have p0c1 := p0.cell (i := 1) rfl
            have p0c2 := p0.cell (i := 2) rfl
            have p0l := p0.lt
            have p1c0 := p1.cell (i := 0) rfl
            have p1c1 := p1.cell (i := 1) rfl
            have p1c2 := p1.cell (i := 2) rfl
            have p1l := p1.lt
            have p2c0 := p2.cell (i := 0) rfl
            have p2c1 := p2.cell (i := 1) rfl
            have p2c2 := p2.cell (i := 2) rfl
            have p2l := p2.lt
            have p3c0 := p3.cell (i := 0) rfl
            have p3c1 := p3.cell (i := 1) rfl
            have p3c2 := p3.cell (i := 2) rfl
            have p3l := p3.lt
            have p4c0 := p4.cell (i := 0) rfl
            have p4c1 := p4.cell (i := 1) rfl
            have p4c2 := p4.cell (i := 2) rfl
            have p4l := p4.lt
            have e5 := own_arg ow5 (by have := resN_len ⟨k2, d2, z2⟩ ⟨k0, d0, z0⟩; rw [← H5.out] at this; exact this)
            have e6 := own_arg ow6 (by have := resN_len ⟨k2, d2, z2⟩ ⟨k1, d1, z1⟩; rw [← H6.out] at this; exact this)
            refine (cLeq e5 e6).mono ?_
            rintro e wl ⟨rfl, hb⟩
            dsimp only
            replace hB := hB.trans (hb.mono hB.size)
            clear p0c0 p0c1 p0c2 p1c0 p1c1 p1c2 p2c0 p2c1 p2c2 p3c0 p3c1 p3c2 p4c0 p4c1 p4c2 p0l p1l p2l p3l p4l
            go_wp2_with fail
            go_ret
            exact ⟨rfl, hB⟩
          · skip
            have f9 : (codeN ⟨k2, d2, z2⟩ ⟨k1, d1, z1⟩ != 0) = true := by rw [bne_iff_ne]; exact h2
            clear h2
            go_wp2_with fail
            go_ret
            exact ⟨rfl, (((hB.setCell (p := ⟨w4.heap.size, 0, none⟩) (by dsimp only; omega) _).setCell (p := ⟨w4.heap.size, 1, none⟩) (by dsimp only; omega) _).setCell (p := ⟨w4.heap.size, 2, none⟩) (by dsimp only; omega) _)⟩
        · skip
          have f9 : (codeN ⟨k2, d2, z2⟩ ⟨k0, d0, z0⟩ != 0) = true := by rw [bne_iff_ne]; exact h1
          clear h1
          go_wp2_with fail
          go_ret
          exact ⟨rfl, (((hB.setCell (p := ⟨w4.heap.size, 0, none⟩) (by dsimp only; omega) _).setCell (p := ⟨w4.heap.size, 1, none⟩) (by dsimp only; omega) _).setCell (p := ⟨w4.heap.size, 2, none⟩) (by dsimp only; omega) _)⟩
    · skip
      have f8 : (codeN ⟨k0, d0, z0⟩ ⟨k2, d2, z2⟩ == 0) = false := by rw [beq_eq_false_iff_ne]; exact h1
      clear h1
      go_wp2_with fail
      have p4p0 := p0.lt
      have p4p1 := p1.lt
      have p4p2 := p2.lt
      have p4p3 := p3.lt
      have p4hs := hB.size
      have hb : Below w4.heap.size w4 (w4.alloc (.cells #[.int .i64 k4, .int .i64 d4, .slice a4 z4.length c4] 24)) := (Below.refl _ _).alloc (Nat.le_refl _) _
      have p4 := Row.new w4 24 [.int .i64 k4, .int .i64 d4, .slice a4 z4.length c4]
      obtain ⟨w5, hw5⟩ : ∃ V, w4.alloc (.cells #[.int .i64 k4, .int .i64 d4, .slice a4 z4.length c4] 24) = V := ⟨_, rfl⟩
      rw [hw5] at hb p4
      try rw [hw5]
      clear p0c0 p0c1 p0c2 p1c0 p1c1 p1c2 p2c0 p2c1 p2c2 p3c0 p3c1 p3c2 p0l p1l p2l p3l
      replace p0 := row_below p0 hb p0.lt
      replace p1 := row_below p1 hb p1.lt
      replace p2 := row_below p2 hb p2.lt
      replace p3 := row_below p3 hb p3.lt
      replace g0 := g0.step hb
      replace g1 := g1.step hb
      replace g2 := g2.step hb
      replace e3 := e3.step hb
      replace e4 := e4.step hb
      replace hB := hB.trans (hb.mono hB.size)
      have p0c0 := p0.cell (i := 0) rfl
      have p0c1 := p0.cell (i := 1) rfl
      have p0c2 := p0.cell (i := 2) rfl
      have p0l := p0.lt
      have p1c0 := p1.cell (i := 0) rfl
      have p1c1 := p1.cell (i := 1) rfl
      have p1c2 := p1.cell (i := 2) rfl
      have p1l := p1.lt
      have p2c0 := p2.cell (i := 0) rfl
      have p2c1 := p2.cell (i := 1) rfl
      have p2c2 := p2.cell (i := 2) rfl
      have p2l := p2.lt
      have p3c0 := p3.cell (i := 0) rfl
      have p3c1 := p3.cell (i := 1) rfl
      have p3c2 := p3.cell (i := 2) rfl
      have p3l := p3.lt
      clear hb
      clear p0c0 p0c1 p0c2 p1c0 p1c1 p1c2 p2c0 p2c1 p2c2 p3c0 p3c1 p3c2 p0l p1l p2l p3l
      have p0c0 := p0.cell (i := 0) rfl
      have p0c1 := p0.cell (i := 1) rfl
      have p0c2 := p0.cell (i := 2) rfl
      have p0l := p0.lt
      have p1c0 := p1.cell (i := 0) rfl
      have p1c1 := p1.cell (i := 1) rfl
      have p1c2 := p1.cell (i := 2) rfl
      have p1l := p1.lt
      have p2c0 := p2.cell (i := 0) rfl
      have p2c1 := p2.cell (i := 1) rfl
      have p2c2 := p2.cell (i := 2) rfl
      have p2l := p2.lt
      have p3c0 := p3.cell (i := 0) rfl
      have p3c1 := p3.cell (i := 1) rfl
      have p3c2 := p3.cell (i := 2) rfl
      have p3l := p3.lt
      have p4c0 := p4.cell (i := 0) rfl
      have p4c1 := p4.cell (i := 1) rfl
      have p4c2 := p4.cell (i := 2) rfl
      have p4l := p4.lt
      have b5p3 := p3.lt
      have b5p4 := p4.lt
      refine (oThen g2 g0).mono ?_
      rintro e w6 ⟨⟨k5, d5, z5⟩, a5, c5, h5, rfl, ow5, hb⟩
      have H5 := hide h5
      clear h5
      dsimp only at ow5 ⊢
      have sz5 := hb.size
      clear p0c0 p0c1 p0c2 p1c0 p1c1 p1c2 p2c0 p2c1 p2c2 p3c0 p3c1 p3c2 p4c0 p4c1 p4c2 p0l p1l p2l p3l p4l
      replace p0 := row_below p0 hb p0.lt
      replace p1 := row_below p1 hb p1.lt
      replace p2 := row_below p2 hb p2.lt
      replace p3 := row_below p3 hb p3.lt
      replace p4 := row_below p4 hb p4.lt
      replace g0 := g0.step hb
      replace g1 := g1.step hb
      replace g2 := g2.step hb
      replace hB := hB.trans (hb.mono hB.size)
      have p0c0 := p0.cell (i := 0) rfl
      have p0c1 := p0.cell (i := 1) rfl
      have p0c2 := p0.cell (i := 2) rfl
      have p0l := p0.lt
      have p1c0 := p1.cell (i := 0) rfl
      have p1c1 := p1.cell (i := 1) rfl
      have p1c2 := p1.cell (i := 2) rfl
      have p1l := p1.lt
      have p2c0 := p2.cell (i := 0) rfl
      have p2c1 := p2.cell (i := 1) rfl
      have p2c2 := p2.cell (i := 2) rfl
      have p2l := p2.lt
      have p3c0 := p3.cell (i := 0) rfl
      have p3c1 := p3.cell (i := 1) rfl
      have p3c2 := p3.cell (i := 2) rfl
      have p3l := p3.lt
      have p4c0 := p4.cell (i := 0) rfl
      have p4c1 := p4.cell (i := 1) rfl
      have p4c2 := p4.cell (i := 2) rfl
      have p4l := p4.lt
      clear hb
      have p3f0 := p3.frozen 0
      have p3f1 := p3.frozen 1
      have p3f2 := p3.frozen 2
      go_wp2_with fail
      clear p0c0 p0c1 p0c2 p1c0 p1c1 p1c2 p2c0 p2c1 p2c2 p3c0 p3c1 p3c2 p4c0 p4c1 p4c2 p0l p1l p2l p3l p4l
      clear p3f0 p3f1 p3f2
      replace p0 := ((p0.other (b := w2.heap.size) (by omega) 0 (.int .i64 k5)).other (b := w2.heap.size) (by omega) 1 (.int .i64 d5)).other (b := w2.heap.size) (by omega) 2 (.slice a5 z5.length c5)
      replace p1 := ((p1.other (b := w2.heap.size) (by omega) 0 (.int .i64 k5)).other (b := w2.heap.size) (by omega) 1 (.int .i64 d5)).other (b := w2.heap.size) (by omega) 2 (.slice a5 z5.length c5)
      replace p2 := ((p2.other (b := w2.heap.size) (by omega) 0 (.int .i64 k5)).other (b := w2.heap.size) (by omega) 1 (.int .i64 d5)).other (b := w2.heap.size) (by omega) 2 (.slice a5 z5.length c5)
      replace p4 := ((p4.other (b := w2.heap.size) (by omega) 0 (.int .i64 k5)).other (b := w2.heap.size) (by omega) 1 (.int .i64 d5)).other (b := w2.heap.size) (by omega) 2 (.slice a5 z5.length c5)
      replace p3 := ((p3.set 0 (.int .i64 k5)).set 1 (.int .i64 d5)).set 2 (.slice a5 z5.length c5)
      replace ow5 := ownsRow_setCell_below (ownsRow_setCell_below (ownsRow_setCell_below ow5 (a := ⟨w2.heap.size, 0, none⟩) (by dsimp only; omega) (.int .i64 k5)) (a := ⟨w2.heap.size, 1, none⟩) (by dsimp only; omega) (.int .i64 d5)) (a := ⟨w2.heap.size, 2, none⟩) (by dsimp only; omega) (.slice a5 z5.length c5)
      replace hB := ((hB.setCell (p := ⟨w2.heap.size, 0, none⟩) (by dsimp only; omega) (.int .i64 k5)).setCell (p := ⟨w2.heap.size, 1, none⟩) (by dsimp only; omega) (.int .i64 d5)).setCell (p := ⟨w2.heap.size, 2, none⟩) (by dsimp only; omega) (.slice a5 z5.length c5)
      obtain ⟨w7, hw7⟩ : ∃ V, (((w6.setCell ⟨w2.heap.size, 0, none⟩ (.int .i64 k5)).setCell ⟨w2.heap.size, 1, none⟩ (.int .i64 d5)).setCell ⟨w2.heap.size, 2, none⟩ (.slice a5 z5.length c5)) = V := ⟨_, rfl⟩
      have hz7 : w7.heap.size = w6.heap.size := by rw [← hw7]; simp
      replace p3 : Row w7 (w2.heap.size) 24 [.int .i64 k5, .int .i64 d5, .slice a5 z5.length c5] := hw7 ▸ p3
      rw [hw7] at p0 p1 p2 p4 ow5 hB
      try rw [hw7]
      have p0c0 := p0.cell (i := 0) rfl
      have p0c1 := p0.cell (i := 1) rfl
      have p0c2 := p0.cell (i := 2) rfl
      have p0l := p0.lt
      have p1c0 := p1.cell (i := 0) rfl
      have p1c1 := p1.cell (i := 1) rfl
      have p1c2 := p1.cell (i := 2) rfl
      have p1l := p1.lt
      have p2c0 := p2.cell (i := 0) rfl
      have p2c1 := p2.cell (i := 1) rfl
      have p2c2 := p2.cell (i := 2) rfl
      have p2l := p2.lt
      have p3c0 := p3.cell (i := 0) rfl
      have p3c1 := p3.cell (i := 1) rfl
      have p3c2 := p3.cell (i := 2) rfl
      have p3l := p3.lt
      have p4c0 := p4.cell (i := 0) rfl
      have p4c1 := p4.cell (i := 1) rfl
      have p4c2 := p4.cell (i := 2) rfl
      have p4l := p4.lt
      replace g0 := (G0.below (hB.mono hn₀)).mono (Nat.le_trans hn₀ hB.size)
      replace g1 := (G1.below (hB.mono hn₀)).mono (Nat.le_trans hn₀ hB.size)
      replace g2 := (G2.below (hB.mono hn₀)).mono (Nat.le_trans hn₀ hB.size)
      have b6p3 := p3.lt
      have b6p4 := p4.lt
      refine (oThen g2 g1).mono ?_
      rintro e w8 ⟨⟨k6, d6, z6⟩, a6, c6, h6, rfl, ow6, hb⟩
      have H6 := hide h6
      clear h6
      dsimp only at ow6 ⊢
      have sz6 := hb.size
      clear p0c0 p0c1 p0c2 p1c0 p1c1 p1c2 p2c0 p2c1 p2c2 p3c0 p3c1 p3c2 p4c0 p4c1 p4c2 p0l p1l p2l p3l p4l
      replace p0 := row_below p0 hb p0.lt
      replace p1 := row_below p1 hb p1.lt
      replace p2 := row_below p2 hb p2.lt
      replace p3 := row_below p3 hb p3.lt
      replace p4 := row_below p4 hb p4.lt
      replace g0 := g0.step hb
      replace g1 := g1.step hb
      replace g2 := g2.step hb
      replace ow5 := ownsRow_below ow5 hb
      replace hB := hB.trans (hb.mono hB.size)
      have p0c0 := p0.cell (i := 0) rfl
      have p0c1 := p0.cell (i := 1) rfl
      have p0c2 := p0.cell (i := 2) rfl
      have p0l := p0.lt
      have p1c0 := p1.cell (i := 0) rfl
      have p1c1 := p1.cell (i := 1) rfl
      have p1c2 := p1.cell (i := 2) rfl
      have p1l := p1.lt
      have p2c0 := p2.cell (i := 0) rfl
      have p2c1 := p2.cell (i := 1) rfl
      have p2c2 := p2.cell (i := 2) rfl
      have p2l := p2.lt
      have p3c0 := p3.cell (i := 0) rfl
      have p3c1 := p3.cell (i := 1) rfl
      have p3c2 := p3.cell (i := 2) rfl
      have p3l := p3.lt
      have p4c0 := p4.cell (i := 0) rfl
      have p4c1 := p4.cell (i := 1) rfl
      have p4c2 := p4.cell (i := 2) rfl
      have p4l := p4.lt
      clear hb
      have p4f0 := p4.frozen 0
      have p4f1 := p4.frozen 1
      have p4f2 := p4.frozen 2
      by_cases h1 : codeN ⟨k2, d2, z2⟩ ⟨k0, d0, z0⟩ = 0
      · skip
        by_cases h2 : codeN ⟨k2, d2, z2⟩ ⟨k1, d1, z1⟩ = 0
        · skip
          have f9 : leqM ⟨k5, d5, z5⟩ ⟨k6, d6, z6⟩ = true := by rw [H5.out, H6.out, resN_ok h1, resN_ok h2]; exact then_leq_behind hL.out h1 h2
          go_wp2_with fail
          clear p0c0 p0c1 p0c2 p1c0 p1c1 p1c2 p2c0 p2c1 p2c2 p3c0 p3c1 p3c2 p4c0 p4c1 p4c2 p0l p1l p2l p3l p4l
          clear p4f0 p4f1 p4f2
          replace p0 := ((p0.other (b := w4.heap.size) (by omega) 0 (.int .i64 k6)).other (b := w4.heap.size) (by omega) 1 (.int .i64 d6)).other (b := w4.heap.size) (by omega) 2 (.slice a6 z6.length c6)
          replace p1 := ((p1.other (b := w4.heap.size) (by omega) 0 (.int .i64 k6)).other (b := w4.heap.size) (by omega) 1 (.int .i64 d6)).other (b := w4.heap.size) (by omega) 2 (.slice a6 z6.length c6)
          replace p2 := ((p2.other (b := w4.heap.size) (by omega) 0 (.int .i64 k6)).other (b := w4.heap.size) (by omega) 1 (.int .i64 d6)).other (b := w4.heap.size) (by omega) 2 (.slice a6 z6.length c6)
          replace p3 := ((p3.other (b := w4.heap.size) (by omega) 0 (.int .i64 k6)).other (b := w4.heap.size) (by omega) 1 (.int .i64 d6)).other (b := w4.heap.size) (by omega) 2 (.slice a6 z6.length c6)
          replace p4 := ((p4.set 0 (.int .i64 k6)).set 1 (.int .i64 d6)).set 2 (.slice a6 z6.length c6)
          replace ow5 := ownsRow_setCell_below (ownsRow_setCell_below (ownsRow_setCell_below ow5 (a := ⟨w4.heap.size, 0, none⟩) (by dsimp only; omega) (.int .i64 k6)) (a := ⟨w4.heap.size, 1, none⟩) (by dsimp only; omega) (.int .i64 d6)) (a := ⟨w4.heap.size, 2, none⟩) (by dsimp only; omega) (.slice a6 z6.length c6)
          replace ow6 := ownsRow_setCell_below (ownsRow_setCell_below (ownsRow_setCell_below ow6 (a := ⟨w4.heap.size, 0, none⟩) (by dsimp only; omega) (.int .i64 k6)) (a := ⟨w4.heap.size, 1, none⟩) (by dsimp only; omega) (.int .i64 d6)) (a := ⟨w4.heap.size, 2, none⟩) (by dsimp only; omega) (.slice a6 z6.length c6)
          replace hB := ((hB.setCell (p := ⟨w4.heap.size, 0, none⟩) (by dsimp only; omega) (.int .i64 k6)).setCell (p := ⟨w4.heap.size, 1, none⟩) (by dsimp only; omega) (.int .i64 d6)).setCell (p := ⟨w4.heap.size, 2, none⟩) (by dsimp only; omega) (.slice a6 z6.length c6)
          obtain ⟨w9, hw9⟩ : ∃ V, (((w8.setCell ⟨w4.heap.size, 0, none⟩ (.int .i64 k6)).setCell ⟨w4.heap.size, 1, none⟩ (.int .i64 d6)).setCell ⟨w4.heap.size, 2, none⟩ (.slice a6 z6.length c6)) = V := ⟨_, rfl⟩
          have hz9 : w9.heap.size = w8.heap.size := by rw [← hw9]; simp
          replace p4 : Row w9 (w4.heap.size) 24 [.int .i64 k6, .int .i64 d6, .slice a6 z6.length c6] := hw9 ▸ p4
          rw [hw9] at p0 p1 p2 p3 ow5 ow6 hB
          try rw [hw9]
          have p0c0 := p0.cell (i := 0) rfl
          have p0c1 := p0.cell (i := 1) rfl
          have p0c2 := p0.cell (i := 2) rfl
          have p0l := p0.lt
          have p1c0 := p1.cell (i := 0) rfl
          have p1c1 := p1.cell (i := 1) rfl
          have p1c2 := p1.cell (i := 2) rfl
          have p1l := p1.lt
          have p2c0 := p2.cell (i := 0) rfl
          have p2c1 := p2.cell (i := 1) rfl
          have p2c2 := p2.cell (i := 2) rfl
          have p2l := p2.lt
          have p3c0 := p3.cell (i := 0) rfl
          have p3c1 := p3.cell (i := 1) rfl
          have p3c2 := p3.cell (i := 2) rfl
          have p3l := p3.lt
          have p4c0 := p4.cell (i := 0) rfl
          have p4c1 := p4.cell (i := 1) rfl
          have p4c2 := p4.cell (i := 2) rfl
          have p4l := p4.lt
          have e5 := own_arg ow5 (by have := resN_len ⟨k2, d2, z2⟩ ⟨k0, d0, z0⟩; rw [← H5.out] at this; exact this)
          have e6 := own_arg ow6 (by have := resN_len ⟨k2, d2, z2⟩ ⟨k1, d1, z1⟩; rw [← H6.out] at this; exact this)
          refine (cLeq e5 e6).mono ?_
          rintro e wl ⟨rfl, hb⟩
          dsimp only
          replace hB := hB.trans (hb.mono hB.size)
          clear p0c0 p0c1 p0c2 p1c0 p1c1 p1c2 p2c0 p2c1 p2c2 p3c0 p3c1 p3c2 p4c0 p4c1 p4c2 p0l p1l p2l p3l p4l
          go_wp2_with fail
          go_ret
          exact ⟨rfl, hB⟩
        · skip
          have f9 : (codeN ⟨k2, d2, z2⟩ ⟨k1, d1, z1⟩ != 0) = true := by rw [bne_iff_ne]; exact h2
          clear h2
          go_wp2_with fail
          go_ret
          exact ⟨rfl, (((hB.setCell (p := ⟨w4.heap.size, 0, none⟩) (by dsimp only; omega) _).setCell (p := ⟨w4.heap.size, 1, none⟩) (by dsimp only; omega) _).setCell (p := ⟨w4.heap.size, 2, none⟩) (by dsimp only; omega) _)⟩
      · skip
        have f9 : (codeN ⟨k2, d2, z2⟩ ⟨k0, d0, z0⟩ != 0) = true := by rw [bne_iff_ne]; exact h1
        clear h1
        go_wp2_with fail
        go_ret
        exact ⟨rfl, (((hB.setCell (p := ⟨w4.heap.size, 0, none⟩) (by dsimp only; omega) _).setCell (p := ⟨w4.heap.size, 1, none⟩) (by dsimp only; omega) _).setCell (p := ⟨w4.heap.size, 2, none⟩) (by dsimp only; omega) _)⟩
end Go.Proofs.Ytfigdkikkociaab
