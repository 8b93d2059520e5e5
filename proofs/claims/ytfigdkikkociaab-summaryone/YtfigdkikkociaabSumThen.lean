/- The contract of package summary's Then. -/
import Derived.Test.YtfigdkikkociaabSumTog
import Derived.Test.YtfigdkikkociaabSumRe
namespace Go.Proofs.Ytfigdkikkociaab
open Go.RowKit Go.Shelf

def sumErr (c : Int) : Ending := .returned (.tuple #[.agg #[.int .i64 0, .int .i64 0, .slice none 0 0], .int .i64 c])
/-- what Then answers -/
def ThenPost (s r : Sm) (n : Nat) (e : Ending) (W : World) : Prop :=
  (codeN s r ≠ 0 ∧ e = sumErr (codeN s r)) ∨ (codeN s r = 0 ∧ ∃ q av cv, q = thenS s r ∧ e = .returned (.tuple #[.agg #[.int .i64 q.k, .int .i64 q.d, .slice av q.z.length cv], .int .i64 0]) ∧ W.ownsRow n 3 1 (.slice av q.z.length cv) q.z.length (zvals q.z))

set_option maxRecDepth 100000 in
set_option maxHeartbeats 2000000 in
theorem sthen_any (k1 d1 : Int) (a1 : Option Addr) (cap1 : Nat) (z1 : List Int) (k2 d2 : Int) (a2 : Option Addr) (cap2 : Nat) (z2 : List Int) (n₀ : Nat) (h1 : z1.length ≤ 17592186044416) (h2 : z2.length ≤ 17592186044416) (hna : a2 = none → cap2 = 0) (hc1 : z1.length ≤ cap1) (w : World) (hz1 : ZInts n₀ w a1 z1) (hz2 : ZInts n₀ w a2 z2) (hn₀ : n₀ ≤ w.heap.size) :
    Calls Try.prog 9 #[.agg #[.int .i64 k1, .int .i64 d1, .slice a1 z1.length cap1], .agg #[.int .i64 k2, .int .i64 d2, .slice a2 z2.length cap2]] w fun e w' => ThenPost ⟨k1, d1, z1⟩ ⟨k2, d2, z2⟩ w.heap.size e w' ∧ Below w.heap.size w w' := by
  obtain ⟨r0, r1, r2, hb0, hs0⟩ := sum_rows3 w (.int .i64 k1) (.int .i64 d1) (.slice a1 z1.length cap1) (.int .i64 k2) (.int .i64 d2) (.slice a2 z2.length cap2) (.int .i64 0) (.int .i64 0) (.slice none 0 0) rfl
  obtain ⟨W0, hW0⟩ : ∃ V, ((w.alloc (.cells #[.int .i64 k1, .int .i64 d1, .slice a1 z1.length cap1] 24)).alloc (.cells #[.int .i64 k2, .int .i64 d2, .slice a2 z2.length cap2] 24)).alloc (.cells #[.int .i64 0, .int .i64 0, .slice none 0 0] 24) = V := ⟨_, rfl⟩
  rw [hW0] at r0 r1 r2 hb0 hs0
  have b0 := r0.cell (i := 0) rfl
  have b1 := r0.cell (i := 1) rfl
  have b2 := r0.cell (i := 2) rfl
  have lt0 := r0.lt
  have lt1 := r1.lt
  have lt2 := r2.lt
  have hzB : ∀ {W}, Below w.heap.size w W → ZInts n₀ W a1 z1 ∧ ZInts n₀ W a2 z2 ∧ n₀ ≤ W.heap.size := fun hW => ⟨hz1.below (hW.mono hn₀), hz2.below (hW.mono hn₀), by have := hW.size; omega⟩
  have s1 := scheck_any k1 d1 a1 cap1 z1 4 n₀ h1 W0 (hzB hb0).1 (hzB hb0).2.2
  have HB := hide hb0
  have HS := hide hs0
  clear hb0 hs0
  unfold ThenPost sumErr
  by_cases hc : codeS ⟨k1, d1, z1⟩ 4 = 0
  · have g1 := good_of (n := 4) hc
    have H1 := hide hc
    rw [hc] at s1
    clear hc
    go_enter Try.func9, Try.ntmps9
    go_wp2_with fail
    with_reducible refine s1.mono ?_
    rintro e w1 ⟨rfl, hb1⟩
    have p0 := row_below r0 hb1 lt0
    have p1 := row_below r1 hb1 lt1
    have p2 := row_below r2 hb1 lt2
    have hB1 : Below w.heap.size w w1 := HB.out.trans (hb1.mono HB.out.size)
    have ho := g1.out4
    have hk1 := g1.k1
    have hk4 := g1.kn
    dsimp only at hk1 hk4 ho
    have hm := smakes_re k1 d1 a1 cap1 z1 ⟨hk1, by omega⟩ h1 ((Sm.mk k1 d1 z1).out : Int) ho.2.2.1.symm w1
    obtain ⟨x0, x1, x2⟩ := p0.re
    obtain ⟨y0, y1, y2⟩ := p1.re
    have s2 := fun x hx => scheck_re k2 d2 a2 cap2 z2 ((Sm.mk k1 d1 z1).out : Int) n₀ h2 x hx w1 (hzB hB1).2.1 (hzB hB1).2.2
    clear b0 b1 b2 s1 r0 r1 r2 ho
    by_cases hc2 : codeS ⟨k2, d2, z2⟩ ((Sm.mk k1 d1 z1).out : Int) = 0
    · have g2 := good_of hc2
      have s2' := s2 0 hc2
      have H2 := hide hc2
      clear hc2 s2
      have l0 := p0.lt
      have l1 := p1.lt
      have l2 := p2.lt
      go_wp2_with fail
      refine wp_region_quiet_below (by kernel_rfl) (by kernel_rfl) ?_
      repeat (go_big_quiet_step (first | with_reducible exact hm _ _ | with_reducible exact s2' _ _))
      refine wpQuiet_nil ?_
      intro _ hw'
      obtain ⟨⟨dq, osq⟩, hw''⟩ := hw'
      obtain ⟨w3, hw3⟩ : ∃ V, Go.Sort.grow (redrawn w1 dq) osq = V := ⟨_, rfl⟩
      have hb3 : Below w1.heap.size w1 w3 := hw3 ▸ below_regrown w1 dq osq
      subst hw''
      dsimp only
      rw [hw3]
      clear hw3 hm s2' x0 x1 x2 y0 y1 y2
      have p0 := row_below p0 hb3 l0
      have p1 := row_below p1 hb3 l1
      have p2 := row_below p2 hb3 l2
      have x0 := p0.cell (i := 0) rfl
      have x1 := p0.cell (i := 1) rfl
      have x2 := p0.cell (i := 2) rfl
      have y0 := p1.cell (i := 0) rfl
      have y1 := p1.cell (i := 1) rfl
      have y2 := p1.cell (i := 2) rfl
      have hB3 : Below w.heap.size w w3 := hB1.trans (hb3.mono hB1.size)
      have s3 := stog_any k1 d1 a1 cap1 z1 k2 d2 a2 cap2 z2 n₀ g1 g2 hna hc1 w3 (hzB hB3).1 (hzB hB3).2.1 (hzB hB3).2.2
      go_wp2_with fail
      refine s3.mono ?_
      rintro e w4 ⟨q, av, cv, hq, rfl, hb4, hown⟩
      have hzl : q.z.length ≤ 4 := by rw [hq, thenS_zlen]; have := g2.out4; omega
      rcases q with ⟨k3, d3, z3⟩
      dsimp only at hq hown hzl ⊢
      have hB4 : Below w.heap.size w w4 := hB3.trans (hb4.mono hB3.size)
      have l0 := p0.lt
      have l1 := p1.lt
      have l2 := p2.lt
      have p2 := row_below p2 hb4 l2
      have hs3 := hB3.size
      have hs4 := hb4.size
      have hle : w.heap.size + 2 < w4.heap.size := p2.lt
      have hal : Below w4.heap.size w4 (w4.alloc (.cells #[.int .i64 k3, .int .i64 d3, .slice av z3.length cv] 24)) := (Below.refl _ _).alloc (Nat.le_refl _) _
      have rn := Row.new w4 24 [.int .i64 k3, .int .i64 d3, .slice av z3.length cv]
      have s4 := scheck_any k3 d3 av cv z3 4 w4.heap.size (by omega) (w4.alloc (.cells #[.int .i64 k3, .int .i64 d3, .slice av z3.length cv] 24)) ((ownsRow_z hown).below hal) hal.size
      have p2 := row_below p2 hal hle
      have hown := hown.alloc (.cells #[.int .i64 k3, .int .i64 d3, .slice av z3.length cv] 24)
      have hB5 : Below w.heap.size w (w4.alloc (.cells #[.int .i64 k3, .int .i64 d3, .slice av z3.length cv] 24)) := hB4.trans (hal.mono hB4.size)
      have hls := hal.size
      clear s3 x0 x1 x2 y0 y1 y2
      by_cases hc3 : codeS ⟨k3, d3, z3⟩ 4 = 0
      · have HC := hide (codeN_ok H1.out H2.out (by rw [← hq]; exact hc3))
        rw [hc3] at s4
        clear hc3
        go_wp2_with fail
        refine s4.mono ?_
        rintro e w5 ⟨rfl, hb5⟩
        have ln := rn.lt
        have rn := row_below rn hb5 ln
        have p2 := row_below p2 hb5 (by omega)
        have hown := ownsRow_below hown hb5
        have hB6 : Below w.heap.size w w5 := hB5.trans (hb5.mono hB5.size)
        have x0 := rn.cell (i := 0) rfl
        have x1 := rn.cell (i := 1) rfl
        have x2 := rn.cell (i := 2) rfl
        have m0 := p2.cell (i := 0) rfl
        have m1 := p2.cell (i := 1) rfl
        have m2 := p2.cell (i := 2) rfl
        have f0 := p2.frozen 0
        have f1 := p2.frozen 1
        have f2 := p2.frozen 2
        go_wp2
        have q1 := (((p2.set 0 (.int .i64 k3)).set 1 (.int .i64 d3)).set 2 (.slice av z3.length cv))
        have v0 := q1.cell (i := 0) (v := .int .i64 k3) rfl
        have v1 := q1.cell (i := 1) (v := .int .i64 d3) rfl
        have v2 := q1.cell (i := 2) (v := .slice av z3.length cv) rfl
        refine bodyPost_ret (v := .tuple #[.agg #[.int .i64 k3, .int .i64 d3, .slice av z3.length cv], .int .i64 0]) (by simp [results, Try.results9, go_sem, v0, v1, v2]) rfl ⟨.inr ⟨HC.out, ⟨k3, d3, z3⟩, av, cv, hq, rfl, ?_⟩, ?_⟩
        · exact Go.Joins.ownsRow_le (ownsRow_setCell_below (ownsRow_setCell_below (ownsRow_setCell_below hown (a := ⟨w.heap.size + 2, 0, none⟩) (by simp; omega) (.int .i64 k3)) (a := ⟨w.heap.size + 2, 1, none⟩) (by simp; omega) (.int .i64 d3)) (a := ⟨w.heap.size + 2, 2, none⟩) (by simp; omega) (.slice av z3.length cv)) (by omega)
        · exact (((hB6).setCell (p := ⟨w.heap.size + 2, 0, none⟩) (by simp) _).setCell (p := ⟨w.heap.size + 2, 1, none⟩) (by simp) _).setCell (p := ⟨w.heap.size + 2, 2, none⟩) (by simp) _
      · have HC := hide (codeN_over H1.out H2.out (by rw [← hq]; exact hc3))
        have e1 : (codeS ⟨k3, d3, z3⟩ 4 != 0) = true := by rw [bne_iff_ne]; exact hc3
        clear hc3
        generalize codeS ⟨k3, d3, z3⟩ 4 = c at *
        go_wp2_with fail
        refine s4.mono ?_
        rintro e w5 ⟨rfl, hb5⟩
        have p2 := row_below p2 hb5 (by omega)
        have hB6 : Below w.heap.size w w5 := hB5.trans (hb5.mono hB5.size)
        have m0 := p2.cell (i := 0) rfl
        have m1 := p2.cell (i := 1) rfl
        have m2 := p2.cell (i := 2) rfl
        have f0 := p2.frozen 0
        have f1 := p2.frozen 1
        have f2 := p2.frozen 2
        go_wp2
        have q1 := (((p2.set 0 (.int .i64 0)).set 1 (.int .i64 0)).set 2 (.slice none 0 0))
        have v0 := q1.cell (i := 0) (v := .int .i64 0) rfl
        have v1 := q1.cell (i := 1) (v := .int .i64 0) rfl
        have v2 := q1.cell (i := 2) (v := .slice none 0 0) rfl
        refine bodyPost_ret (v := .tuple #[.agg #[.int .i64 0, .int .i64 0, .slice none 0 0], .int .i64 6]) (by simp [results, Try.results9, go_sem, v0, v1, v2]) rfl ⟨.inl ⟨by rw [HC.out]; decide, by rw [HC.out]⟩, ?_⟩
        exact (((hB6).setCell (p := ⟨w.heap.size + 2, 0, none⟩) (by simp) _).setCell (p := ⟨w.heap.size + 2, 1, none⟩) (by simp) _).setCell (p := ⟨w.heap.size + 2, 2, none⟩) (by simp) _
    · have HC := hide (codeN_r H1.out hc2)
      have HN := hide hc2
      have s2' := s2 _ rfl
      have e1 : (codeS ⟨k2, d2, z2⟩ ((Sm.mk k1 d1 z1).out : Int) != 0) = true := by rw [bne_iff_ne]; exact hc2
      clear hc2 s2
      have l2 := p2.lt
      generalize codeS ⟨k2, d2, z2⟩ ((Sm.mk k1 d1 z1).out : Int) = c at *
      go_wp2_with fail
      refine wp_region_quiet_below (by kernel_rfl) (by kernel_rfl) ?_
      repeat (go_big_quiet_step (first | with_reducible exact hm _ _ | with_reducible exact s2' _ _))
      refine wpQuiet_nil ?_
      intro _ hw'
      obtain ⟨⟨dq, osq⟩, hw''⟩ := hw'
      obtain ⟨w3, hw3⟩ : ∃ V, Go.Sort.grow (redrawn w1 dq) osq = V := ⟨_, rfl⟩
      have hb3 : Below w1.heap.size w1 w3 := hw3 ▸ below_regrown w1 dq osq
      subst hw''
      dsimp only
      rw [hw3]
      clear hw3 hm s2' x0 x1 x2 y0 y1 y2
      have p2 := row_below p2 hb3 l2
      have hB3 : Below w.heap.size w w3 := hB1.trans (hb3.mono hB1.size)
      have m0 := p2.cell (i := 0) rfl
      have m1 := p2.cell (i := 1) rfl
      have m2 := p2.cell (i := 2) rfl
      have f0 := p2.frozen 0
      have f1 := p2.frozen 1
      have f2 := p2.frozen 2
      go_wp2
      have q1 := (((p2.set 0 (.int .i64 0)).set 1 (.int .i64 0)).set 2 (.slice none 0 0))
      have v0 := q1.cell (i := 0) (v := .int .i64 0) rfl
      have v1 := q1.cell (i := 1) (v := .int .i64 0) rfl
      have v2 := q1.cell (i := 2) (v := .slice none 0 0) rfl
      refine bodyPost_ret (v := .tuple #[.agg #[.int .i64 0, .int .i64 0, .slice none 0 0], .int .i64 c]) (by simp [results, Try.results9, go_sem, v0, v1, v2]) rfl ⟨.inl ⟨by rw [HC.out]; exact HN.out, by rw [HC.out]⟩, ?_⟩
      exact (((hB3).setCell (p := ⟨w.heap.size + 2, 0, none⟩) (by simp) _).setCell (p := ⟨w.heap.size + 2, 1, none⟩) (by simp) _).setCell (p := ⟨w.heap.size + 2, 2, none⟩) (by simp) _
  · have HC := hide (codeN_s (r := ⟨k2, d2, z2⟩) hc)
    have HN := hide hc
    have e1 : (codeS ⟨k1, d1, z1⟩ 4 != 0) = true := by rw [bne_iff_ne]; exact hc
    clear hc
    generalize codeS ⟨k1, d1, z1⟩ 4 = c at *
    go_enter Try.func9, Try.ntmps9
    go_wp2_with fail
    with_reducible refine s1.mono ?_
    rintro e w1 ⟨rfl, hb1⟩
    have p2 := row_below r2 hb1 lt2
    have hB1 : Below w.heap.size w w1 := HB.out.trans (hb1.mono HB.out.size)
    have m0 := p2.cell (i := 0) rfl
    have m1 := p2.cell (i := 1) rfl
    have m2 := p2.cell (i := 2) rfl
    have f0 := p2.frozen 0
    have f1 := p2.frozen 1
    have f2 := p2.frozen 2
    go_wp2
    have q1 := (((p2.set 0 (.int .i64 0)).set 1 (.int .i64 0)).set 2 (.slice none 0 0))
    have v0 := q1.cell (i := 0) (v := .int .i64 0) rfl
    have v1 := q1.cell (i := 1) (v := .int .i64 0) rfl
    have v2 := q1.cell (i := 2) (v := .slice none 0 0) rfl
    refine bodyPost_ret (v := .tuple #[.agg #[.int .i64 0, .int .i64 0, .slice none 0 0], .int .i64 c]) (by simp [results, Try.results9, go_sem, v0, v1, v2]) rfl ⟨.inl ⟨by rw [HC.out]; exact HN.out, by rw [HC.out]⟩, ?_⟩
    exact (((hB1).setCell (p := ⟨w.heap.size + 2, 0, none⟩) (by simp) _).setCell (p := ⟨w.heap.size + 2, 1, none⟩) (by simp) _).setCell (p := ⟨w.heap.size + 2, 2, none⟩) (by simp) _
end Go.Proofs.Ytfigdkikkociaab
