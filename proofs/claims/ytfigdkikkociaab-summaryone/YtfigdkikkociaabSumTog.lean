/- The contract of package summary's together. -/
import Derived.Test.YtfigdkikkociaabSumCopy
import Derived.StillTailTactics
import Derived.Laws.OwnMore
namespace Go.Proofs.Ytfigdkikkociaab
open Go.RowKit Go.Shelf

theorem then_less {s r : Sm} (k2 : 1 ≤ r.k) (h : r.k < s.k) : thenS s r = r := by
  refine Sm.ext' (by rw [thenS_k]; omega) (by rw [thenS_d, if_pos h]) (zd_ext (by rw [thenS_zlen]; unfold Sm.out; omega) fun i hi => ?_)
  rw [thenS_zlen] at hi
  rw [zd_thenS hi]
  unfold mixS
  rw [if_neg (by omega), Sm.at_put (by omega), show i + (min s.k r.k).toNat - r.k.toNat = i by omega]
  omega
theorem then_same {s r : Sm} (k2 : 1 ≤ r.k) (h : r.k = s.k) : thenS s r = ⟨r.k, r.d + s.d, r.z⟩ := by
  refine Sm.ext' (by rw [thenS_k]; dsimp only; omega) (by rw [thenS_d, if_neg (by omega), if_pos h]) (zd_ext (by rw [thenS_zlen]; unfold Sm.out; dsimp only; omega) fun i hi => ?_)
  rw [thenS_zlen] at hi
  rw [zd_thenS hi]
  unfold mixS
  rw [if_neg (by omega), Sm.at_put (by omega), show i + (min s.k r.k).toNat - r.k.toNat = i by omega]
  dsimp only
  omega
theorem zd_append_lt {a b : List Int} {i : Nat} (h : i < a.length) : zd (a ++ b) i = zd a i := by
  unfold zd; rw [List.getD_eq_getElem?_getD, List.getD_eq_getElem?_getD, List.getElem?_append_left h]
theorem zd_append_ge {a b : List Int} {i : Nat} (h : a.length ≤ i) : zd (a ++ b) i = zd b (i - a.length) := by
  unfold zd; rw [List.getD_eq_getElem?_getD, List.getD_eq_getElem?_getD, List.getElem?_append_right h]
theorem zd_take {a : List Int} {n i : Nat} (h : i < n) : zd (a.take n) i = zd a i := by
  unfold zd; rw [List.getD_eq_getElem?_getD, List.getD_eq_getElem?_getD, List.getElem?_take, if_pos h]
theorem then_more {s r : Sm} {n : Nat} (k1 : 1 ≤ s.k) (h : r.k - s.k = (n : Int)) (n1 : 1 ≤ n) (hn : n ≤ s.z.length) : thenS s r = ⟨s.k, s.d, (s.z.take n ++ r.z).set (n - 1) (zd s.z (n - 1) + r.d)⟩ := by
  have hl : ((s.z.take n ++ r.z).set (n - 1) (zd s.z (n - 1) + r.d)).length = n + r.z.length := by
    rw [List.length_set, List.length_append, List.length_take]; omega
  have hl2 : (s.z.take n ++ r.z).length = n + r.z.length := by rw [List.length_append, List.length_take]; omega
  have hl3 : (s.z.take n).length = n := by rw [List.length_take]; omega
  refine Sm.ext' (by rw [thenS_k]; dsimp only; omega) (by rw [thenS_d, if_neg (by omega), if_neg (by omega)]) (zd_ext (by rw [thenS_zlen]; dsimp only; rw [hl]; unfold Sm.out; omega) fun i hi => ?_)
  rw [thenS_zlen] at hi
  rw [zd_thenS hi]
  dsimp only
  rw [zd_set (by rw [hl2]; omega)]
  have e : (min s.k r.k).toNat = s.k.toNat := by omega
  rw [e] at hi ⊢
  unfold mixS
  by_cases c : i < n
  · rw [if_pos (by omega), Sm.at_put (s := s) (by omega), show i + s.k.toNat - s.k.toNat = i by omega]
    by_cases c2 : n - 1 = i
    · rw [if_pos c2, Sm.at_add (s := r) (by omega), c2]; omega
    · rw [if_neg c2, Sm.at_keep (s := r) (by omega), zd_append_lt (by rw [hl3]; exact c), zd_take c]; omega
  · rw [if_neg (by omega), if_neg (by omega), Sm.at_put (s := r) (by omega), zd_append_ge (by rw [hl3]; omega), hl3, show i + s.k.toNat - r.k.toNat = i - n by omega]; omega

theorem Row.drew {W : World} {B : Nat} {t : TypeId} {vs : List Value} (h : Row W B t vs) : Row W.drew B t vs := h
theorem wrap_small {x : Int} (h1 : -9223372036854775808 ≤ x) (h2 : x ≤ 9223372036854775807) : IntKind.i64.wrap x = x := by
  simp [IntKind.wrap, IntKind.signed, IntKind.bits]; omega
/-- three summaries in blocks of their own -/
theorem sum_rows3 (w : World) (p0 p1 p2 q0 q1 q2 s0 s1 s2 : Value) {W : World} (h : ((w.alloc (.cells #[p0, p1, p2] 24)).alloc (.cells #[q0, q1, q2] 24)).alloc (.cells #[s0, s1, s2] 24) = W) :
    Row W w.heap.size 24 [p0, p1, p2] ∧ Row W (w.heap.size + 1) 24 [q0, q1, q2] ∧ Row W (w.heap.size + 2) 24 [s0, s1, s2] ∧ Below w.heap.size w W ∧ W.heap.size = w.heap.size + 3 := by
  obtain ⟨r0, r1, hb, hs⟩ := sum_rows w p0 p1 p2 q0 q1 q2 rfl
  subst h
  have r2 := Row.new ((w.alloc (.cells #[p0, p1, p2] 24)).alloc (.cells #[q0, q1, q2] 24)) 24 [s0, s1, s2]
  rw [hs] at r2
  exact ⟨r0.alloc _, r1.alloc _, r2, hb.alloc (by omega) _, by rw [World.size_alloc, hs]⟩

set_option maxRecDepth 100000 in
set_option maxHeartbeats 2000000 in
theorem stog_any (k1 d1 : Int) (a1 : Option Addr) (cap1 : Nat) (z1 : List Int) (k2 d2 : Int) (a2 : Option Addr) (cap2 : Nat) (z2 : List Int) (n₀ : Nat) (hg1 : Good ⟨k1, d1, z1⟩ 4) (hg2 : Good ⟨k2, d2, z2⟩ (Sm.mk k1 d1 z1).out) (hna : a2 = none → cap2 = 0) (hc1 : z1.length ≤ cap1) (w : World) (hz1 : ZInts n₀ w a1 z1) (hz2 : ZInts n₀ w a2 z2) (hn₀ : n₀ ≤ w.heap.size) :
    Calls Try.prog 22 #[.agg #[.int .i64 k1, .int .i64 d1, .slice a1 z1.length cap1], .agg #[.int .i64 k2, .int .i64 d2, .slice a2 z2.length cap2]] w fun e w' => ∃ q av cv, q = thenS ⟨k1, d1, z1⟩ ⟨k2, d2, z2⟩ ∧ e = .returned (.agg #[.int .i64 q.k, .int .i64 q.d, .slice av q.z.length cv]) ∧ Below w.heap.size w w' ∧ w'.ownsRow w.heap.size 3 1 (.slice av q.z.length cv) q.z.length (zvals q.z) := by
  obtain ⟨r0, r1, r2, hb0, hs0⟩ := sum_rows3 w (.int .i64 k1) (.int .i64 d1) (.slice a1 z1.length cap1) (.int .i64 k2) (.int .i64 d2) (.slice a2 z2.length cap2) (.int .i64 0) (.int .i64 0) (.slice none 0 0) rfl
  obtain ⟨W0, hW0⟩ : ∃ V, ((w.alloc (.cells #[.int .i64 k1, .int .i64 d1, .slice a1 z1.length cap1] 24)).alloc (.cells #[.int .i64 k2, .int .i64 d2, .slice a2 z2.length cap2] 24)).alloc (.cells #[.int .i64 0, .int .i64 0, .slice none 0 0] 24) = V := ⟨_, rfl⟩
  rw [hW0] at r0 r1 r2 hb0 hs0
  have b0 := r0.cell (i := 0) rfl
  have b1 := r0.cell (i := 1) rfl
  have b2 := r0.cell (i := 2) rfl
  have c0 := r1.cell (i := 0) rfl
  have c1 := r1.cell (i := 1) rfl
  have c2 := r1.cell (i := 2) rfl
  have lt0 := r0.lt
  have lt1 := r1.lt
  have lt2 := r2.lt
  have hg2o := hg2.kn
  have o1 := hg1.out4
  have g1k := hg1.k1
  have g1o := hg1.o4
  have g1d := hg1.d0
  have g1m := hg1.dm
  have g2k := hg2.k1
  have g2o := hg2.o4
  have g2d := hg2.d0
  have g2m := hg2.dm
  dsimp only at o1 g1k g1o g1d g1m g2k g2o g2d g2m hg2o
  rw [o1.2.2.1] at hg2o
  have hcop := copied_any k2 d2 a2 cap2 z2 n₀ (by omega) hna W0 (hz2.below (hb0.mono hn₀)) (by omega)
  have HB := hide hb0
  have HS := hide hs0
  clear hb0 hs0 o1
  by_cases hlt : k2 < k1
  · have HT := hide (then_less (s := ⟨k1, d1, z1⟩) (r := ⟨k2, d2, z2⟩) g2k hlt)
    have e1 : decide (k2 < k1) = true := decide_eq_true hlt
    clear hlt
    go_enter Try.func22, Try.ntmps22
    go_wp2_with fail
    with_reducible refine hcop.mono ?_
    rintro e w1 ⟨av, cv, rfl, hb1, hown⟩
    have p2 := row_below r2 hb1 lt2
    have m0 := p2.cell (i := 0) rfl
    have m1 := p2.cell (i := 1) rfl
    have m2 := p2.cell (i := 2) rfl
    have f0 := p2.frozen 0
    have f1 := p2.frozen 1
    have f2 := p2.frozen 2
    go_wp2
    have q1 := ((p2.set 0 (.int .i64 k2)).set 1 (.int .i64 d2)).set 2 (.slice av z2.length cv)
    have v0 := q1.cell (i := 0) (v := .int .i64 k2) rfl
    have v1 := q1.cell (i := 1) (v := .int .i64 d2) rfl
    have v2 := q1.cell (i := 2) (v := .slice av z2.length cv) rfl
    refine bodyPost_ret (v := .agg #[.int .i64 k2, .int .i64 d2, .slice av z2.length cv]) (by simp [results, Try.results22, go_sem, v0, v1, v2]) rfl ⟨_, av, cv, HT.out.symm, rfl, ?_, ?_⟩
    · have hs := HS.out
      exact (((HB.out.trans (hb1.mono (by omega))).setCell (p := ⟨w.heap.size + 2, 0, none⟩) (by simp) _).setCell (p := ⟨w.heap.size + 2, 1, none⟩) (by simp) _).setCell (p := ⟨w.heap.size + 2, 2, none⟩) (by simp) _
    · have hs := HS.out
      exact Go.Joins.ownsRow_le (ownsRow_setCell_below (ownsRow_setCell_below (ownsRow_setCell_below hown (a := ⟨w.heap.size + 2, 0, none⟩) (by simp; omega) (.int .i64 k2)) (a := ⟨w.heap.size + 2, 1, none⟩) (by simp; omega) (.int .i64 d2)) (a := ⟨w.heap.size + 2, 2, none⟩) (by simp; omega) (.slice av z2.length cv)) (by omega)
  · have e1 : decide (k2 < k1) = false := decide_eq_false hlt
    by_cases heq : k2 = k1
    · have HT := hide (then_same (s := ⟨k1, d1, z1⟩) (r := ⟨k2, d2, z2⟩) g2k heq)
      have e2 : (k2 == k1) = true := by rw [beq_iff_eq]; exact heq
      clear hlt heq
      go_enter Try.func22, Try.ntmps22
      go_wp2_with fail
      with_reducible refine hcop.mono ?_
      rintro e w1 ⟨av, cv, rfl, hb1, hown⟩
      have p0 := row_below r0 hb1 lt0
      have p2 := row_below r2 hb1 lt2
      have t1 := p0.cell (i := 1) rfl
      have m0 := p2.cell (i := 0) rfl
      have m1 := p2.cell (i := 1) rfl
      have m2 := p2.cell (i := 2) rfl
      have f0 := p2.frozen 0
      have f1 := p2.frozen 1
      have f2 := p2.frozen 2
      have l0 := p0.lt
      have l2 := p2.lt
      have l3 : w1.heap.size ≠ w.heap.size + 2 := by omega
      clear hcop
      go_wp2
      have q1 := (((p2.set 0 (.int .i64 k2)).set 1 (.int .i64 (d2 + d1))).set 2 (.slice av z2.length cv)).alloc (.cells #[.int .i64 k2, .int .i64 (d2 + d1), .slice av z2.length cv] 24)
      have v0 := q1.cell (i := 0) (v := .int .i64 k2) rfl
      have v1 := q1.cell (i := 1) (v := .int .i64 (d2 + d1)) rfl
      have v2 := q1.cell (i := 2) (v := .slice av z2.length cv) rfl
      have hs := HS.out
      refine bodyPost_ret (v := .agg #[.int .i64 k2, .int .i64 (d2 + d1), .slice av z2.length cv]) (by simp [results, Try.results22, go_sem, v0, v1, v2]) rfl ⟨_, av, cv, HT.out.symm, rfl, ?_, ?_⟩
      · exact ((((HB.out.trans (hb1.mono (by omega))).setCell (p := ⟨w.heap.size + 2, 0, none⟩) (by simp) _).setCell (p := ⟨w.heap.size + 2, 1, none⟩) (by simp) _).setCell (p := ⟨w.heap.size + 2, 2, none⟩) (by simp) _).alloc (by simp; omega) _
      · exact Go.Joins.ownsRow_le ((ownsRow_setCell_below (ownsRow_setCell_below (ownsRow_setCell_below hown (a := ⟨w.heap.size + 2, 0, none⟩) (by simp; omega) (.int .i64 k2)) (a := ⟨w.heap.size + 2, 1, none⟩) (by simp; omega) (.int .i64 (d2 + d1))) (a := ⟨w.heap.size + 2, 2, none⟩) (by simp; omega) (.slice av z2.length cv)).alloc _) (by omega)
    · obtain ⟨n, hn⟩ : ∃ n : Nat, k2 - k1 = (n : Int) := ⟨(k2 - k1).toNat, by omega⟩
      have n1 : 1 ≤ n := by omega
      have hnz : n ≤ z1.length := by omega
      have hT := then_more (s := ⟨k1, d1, z1⟩) (r := ⟨k2, d2, z2⟩) g1k hn n1 hnz
      have e2 : (k2 == k1) = false := by rw [beq_eq_false_iff_ne]; exact heq
      obtain ⟨m, hm⟩ : ∃ m : Nat, n = m + 1 := ⟨n - 1, by omega⟩
      have hm1 : (n : Int) - 1 = (m : Int) := by omega
      have hmn : m < n + z2.length := by omega
      have hmz : m < z1.length := by omega
      rw [show n - 1 = m by omega] at hT
      have HT := hide hT
      clear hT
      have hzB : ∀ {W}, Below w.heap.size w W → ZInts n₀ W a1 z1 ∧ ZInts n₀ W a2 z2 := fun hW => ⟨hz1.below (hW.mono hn₀), hz2.below (hW.mono hn₀)⟩
      have hna1 : a1 = none → cap1 = 0 := fun h => by
        obtain ⟨b, off, e, _⟩ := hz1.at (i := 0) (by omega)
        rw [h] at e; cases e
      have hcc : ∀ W, Below w.heap.size w W → Calls Try.prog 24 #[.slice (some ⟨W.heap.size, 0, none⟩) 2 2] (W.alloc (.cells #[.slice a1 n cap1, .slice a2 z2.length cap2] 22)) fun e w' => ∃ av cv, e = .returned (.slice av (n + z2.length) cv) ∧ Below W.heap.size W w' ∧ w'.ownsRow W.heap.size 3 1 (.slice av (n + z2.length) cv) (n + z2.length) (zvals (z1.take n ++ z2)) := fun W hW => by
        have hl : (z1.take n).length = n := by rw [List.length_take]; omega
        have hzt : ZInts n₀ W a1 (z1.take n) := by
          obtain ⟨b, off, e, h1, h2⟩ := (hzB hW).1.at (i := 0) (by omega)
          exact .inr ⟨b, off, e, h1, fun i hi => by rw [zd_take (by omega)]; exact h2 i (by omega)⟩
        have h := zconcat_any a1 cap1 (z1.take n) a2 cap2 z2 n₀ (by omega) W hzt (hzB hW).2 hna1 hna (by have := hW.size; omega)
        rwa [hl] at h
      have hl1 : n ≤ cap1 := by omega
      have hmw : IntKind.i64.wrap (m : Int) = (m : Int) := wrap_small (by omega) (by omega)
      obtain ⟨bz, oz, rfl, _⟩ := hz1.at (i := 0) (by omega)
      clear hlt heq hcop hm hna1
      go_enter Try.func22, Try.ntmps22
      go_wp2_with fail
      refine wp_region_still_tail 6 (by kernel_rfl) (by kernel_rfl) ?_
      simp only [List.take_succ_cons, List.take_zero, List.drop_succ_cons, List.drop_zero]
      repeat (refine no_implicit_lambda% (wpStill_step ?_); intro K hK; go_simp; refine hK _ ?_; clear hK K)
      refine no_implicit_lambda% (wpStill_nil ?_)
      show wpList _ _ _ _ _ _
      have hcc1 : Calls Try.prog 24 #[.slice (some ⟨W0.heap.size, 0, none⟩) 2 2] (W0.alloc (.cells #[.slice (some ⟨bz, oz, none⟩) n cap1, .slice a2 z2.length cap2] 22)).drew fun e w' => ∃ av cv, e = .returned (.slice av (n + z2.length) cv) ∧ Below W0.heap.size W0.drew w' ∧ w'.ownsRow W0.heap.size 3 1 (.slice av (n + z2.length) cv) (n + z2.length) (zvals (z1.take n ++ z2)) := hcc W0.drew HB.out.drew
      go_wp2_with fail
      with_reducible refine hcc1.mono ?_
      rintro e w1 ⟨av, cv, rfl, hb1, hown⟩
      clear hcc hcc1
      obtain ⟨g, cp, hav⟩ := Go.Joins.ownsRow_form hown (by omega)
      cases hav
      have hs0 := HS.out
      have hgl := hown.lt g rfl
      have hb1' : Below W0.heap.size W0 w1 := (Below.refl _ _).drew.trans hb1
      have p0 := row_below r0 hb1' lt0
      have p1 := row_below r1 hb1' lt1
      have p2 := row_below r2 hb1' lt2
      have hval : zd (z1.take n ++ z2) m = zd z1 m := by rw [zd_append_lt (by rw [List.length_take]; omega), zd_take (by omega)]
      have hcell := hown.cellAt m (by omega)
      rw [zvals_at (by rw [List.length_append, List.length_take]; omega), hval] at hcell
      have hfr := hown.frozenAt m
      have hst := (hown.stored m (.int .i64 (zd z1 m + d2))).1
      rw [zvals_set] at hst
      have HL := hide (show ((z1.take n ++ z2).set m (zd z1 m + d2)).length = n + z2.length by rw [List.length_set, List.length_append, List.length_take]; omega)
      obtain ⟨N, hN⟩ : ∃ N, n + z2.length = N := ⟨_, rfl⟩
      rw [hN] at hst hmn HL ⊢
      have HO := hide hst
      clear hN
      have hzc := outC_false.1 (hg1.zc m hmz)
      dsimp only at hzc
      generalize zd z1 m = v at *
      have hvw : IntKind.i64.wrap (v + d2) = v + d2 := wrap_small (by omega) (by omega)
      have b0' := p0.cell (i := 0) rfl
      have b1' := p0.cell (i := 1) rfl
      have c1' := p1.cell (i := 1) rfl
      have m0 := p2.cell (i := 0) rfl
      have m1 := p2.cell (i := 1) rfl
      have m2 := p2.cell (i := 2) rfl
      have f0 := p2.frozen 0
      have f1 := p2.frozen 1
      have f2 := p2.frozen 2
      have ne0 : w.heap.size ≠ g := by omega
      have ne2 : w.heap.size + 2 ≠ g := by omega
      clear b0 b1 b2 c0 c1 c2 hst hown
      go_wp2_with fail
      refine wp_region_still_tail 9 (by kernel_rfl) (by kernel_rfl) ?_
      simp only [List.take_succ_cons, List.take_zero, List.drop_succ_cons, List.drop_zero]
      repeat (refine no_implicit_lambda% (wpStill_step ?_); intro K hK; go_simp; refine hK _ ?_; clear hK K)
      refine no_implicit_lambda% (wpStill_nil ?_)
      show wpList _ _ _ _ _ _
      go_wp2
      have q1 := ((((p2.other (b := g) (by omega) m (.int .i64 (v + d2))).set 0 (.int .i64 k1)).set 1 (.int .i64 d1)).set 2 (.slice (some ⟨g, 0, none⟩) N cv)).drew
      have v0 := q1.cell (i := 0) (v := .int .i64 k1) rfl
      have v1 := q1.cell (i := 1) (v := .int .i64 d1) rfl
      have v2 := q1.cell (i := 2) (v := .slice (some ⟨g, 0, none⟩) N cv) rfl
      refine bodyPost_ret (v := .agg #[.int .i64 k1, .int .i64 d1, .slice (some ⟨g, 0, none⟩) N cv]) (by simp [results, Try.results22, go_sem, v0, v1, v2]) rfl ⟨_, _, cv, HT.out.symm, by dsimp only; rw [HL.out], ?_, ?_⟩
      · exact (((((HB.out.trans (hb1'.mono (by omega))).setCell (p := ⟨g, m, none⟩) (by simp; omega) _).setCell (p := ⟨w.heap.size + 2, 0, none⟩) (by simp) _).setCell (p := ⟨w.heap.size + 2, 1, none⟩) (by simp) _).setCell (p := ⟨w.heap.size + 2, 2, none⟩) (by simp) _).drew
      · dsimp only
        rw [HL.out]
        exact Go.Joins.ownsRow_le ((ownsRow_setCell_below (ownsRow_setCell_below (ownsRow_setCell_below HO.out (a := ⟨w.heap.size + 2, 0, none⟩) (by simp; omega) (.int .i64 k1)) (a := ⟨w.heap.size + 2, 1, none⟩) (by simp; omega) (.int .i64 d1)) (a := ⟨w.heap.size + 2, 2, none⟩) (by simp; omega) (.slice (some ⟨g, 0, none⟩) N cv)).drew) (by omega)
end Go.Proofs.Ytfigdkikkociaab
