/- The contract of package summary's Apply. -/
import Derived.Test.YtfigdkikkociaabSumTog
import Derived.Test.YtfigdkikkociaabSumRe
namespace Go.Proofs.Ytfigdkikkociaab
open Go.RowKit Go.Shelf

theorem make_list {s : Sm} {t : List Int} {n m : Nat} (hk : s.k = (n : Int)) (hm : (n : Int) - 1 = (m : Int)) (hn : n ≤ t.length) : makeS s t = (t.take n ++ s.z).set m (zd t m + s.d) := by
  have hl3 : (t.take n).length = n := by rw [List.length_take]; omega
  have hl2 : (t.take n ++ s.z).length = n + s.z.length := by rw [List.length_append, hl3]
  have ho : s.out = n + s.z.length := by unfold Sm.out; omega
  refine zd_ext (by rw [makeS_len, List.length_set, hl2, ho]) fun i hi => ?_
  rw [makeS_len] at hi
  rw [zd_makeS hi, zd_set (by rw [hl2]; omega)]
  by_cases c : i < n
  · rw [if_pos (by omega)]
    by_cases c2 : m = i
    · rw [if_pos c2, Sm.at_add (by omega), c2]; omega
    · rw [if_neg c2, Sm.at_keep (by omega), zd_append_lt (by rw [hl3]; exact c), zd_take c]; omega
  · rw [if_neg (by omega), if_neg (by omega), Sm.at_put (by omega), zd_append_ge (by rw [hl3]; omega), hl3, show i - s.k.toNat = i - n by omega]; omega
def listErr (c : Int) : Ending := .returned (.tuple #[.slice none 0 0, .int .i64 c])
/-- what Apply answers -/
def ApplyPost (s : Sm) (t : List Int) (n : Nat) (e : Ending) (W : World) : Prop :=
  (codeA s t ≠ 0 ∧ e = listErr (codeA s t)) ∨ (codeA s t = 0 ∧ ∃ l av cv, l = makeS s t ∧ e = .returned (.tuple #[.slice av l.length cv, .int .i64 0]) ∧ W.ownsRow n 3 1 (.slice av l.length cv) l.length (zvals l))

set_option maxRecDepth 100000 in
set_option maxHeartbeats 2000000 in
theorem sapply_any (k d : Int) (a : Option Addr) (cap : Nat) (zs : List Int) (a1 : Option Addr) (cap1 : Nat) (z1 : List Int) (n₀ : Nat) (h47 : zs.length ≤ 17592186044416) (h63 : z1.length ≤ 9223372036854775807) (hna : a = none → cap = 0) (hc1 : z1.length ≤ cap1) (w : World) (hz : ZInts n₀ w a zs) (hz1 : ZInts n₀ w a1 z1) (hn₀ : n₀ ≤ w.heap.size) :
    Calls Try.prog 11 #[.agg #[.int .i64 k, .int .i64 d, .slice a zs.length cap], .slice a1 z1.length cap1] w fun e w' => ApplyPost ⟨k, d, zs⟩ z1 w.heap.size e w' ∧ Below w.heap.size w w' := by
  obtain ⟨r0, hb0, hs0⟩ := sum_row w (.int .i64 k) (.int .i64 d) (.slice a zs.length cap) rfl
  obtain ⟨W0, hW0⟩ : ∃ V, w.alloc (.cells #[.int .i64 k, .int .i64 d, .slice a zs.length cap] 24) = V := ⟨_, rfl⟩
  rw [hW0] at r0 hb0 hs0
  have hzB : ∀ {W}, Below w.heap.size w W → ZInts n₀ W a zs ∧ ZInts n₀ W a1 z1 ∧ n₀ ≤ W.heap.size := fun hW => ⟨hz.below (hW.mono hn₀), hz1.below (hW.mono hn₀), by have := hW.size; omega⟩
  have s1 := tcheck_any a1 cap1 z1 n₀ h63 W0 (hzB hb0).2.1
  have s2 := scheck_any k d a cap zs (z1.length : Int) n₀ h47 W0 (hzB hb0).1 (hzB hb0).2.2
  have c0 := r0.cell (i := 0) rfl
  have c1 := r0.cell (i := 1) rfl
  have c2 := r0.cell (i := 2) rfl
  have lt0 := r0.lt
  have HB := hide hb0
  have HS := hide hs0
  clear hb0 hs0
  unfold ApplyPost listErr
  by_cases ht : codeT z1 = 0
  · by_cases hc : codeS ⟨k, d, zs⟩ (z1.length : Int) = 0
    · have g := good_of hc
      have H1 := hide ht
      have H2 := hide hc
      rw [ht] at s1
      rw [hc] at s2
      have gk := g.k1
      have gn := g.kn
      have go := g.o4
      have gd := g.d0
      have gm := g.dm
      have gl := g.n4
      dsimp only at gk gn go gd gm
      obtain ⟨n, rfl⟩ : ∃ n : Nat, k = (n : Int) := ⟨k.toNat, by omega⟩
      obtain ⟨m, hm⟩ : ∃ m : Nat, n = m + 1 := ⟨n - 1, by omega⟩
      have hm1 : (n : Int) - 1 = (m : Int) := by omega
      have hmw : IntKind.i64.wrap (m : Int) = (m : Int) := wrap_small (by omega) (by omega)
      have hT := make_list (s := ⟨n, d, zs⟩) (t := z1) (n := n) rfl hm1 (by omega)
      dsimp only at hT
      have hmn : m < n + zs.length := by omega
      have hmz : m < z1.length := by omega
      have hnc : n ≤ cap1 := by omega
      have hov : overS ⟨n, d, zs⟩ z1 = decide (1048576 < zd z1 m + d) := by unfold overS; rw [show (Sm.mk n d zs).k.toNat - 1 = m by dsimp only; omega]
      have hna1 : a1 = none → cap1 = 0 := fun h => by
        obtain ⟨b, off, e, _⟩ := hz1.at (i := 0) (by omega)
        rw [h] at e; cases e
      have hcc : ∀ W, Below w.heap.size w W → Calls Try.prog 24 #[.slice (some ⟨W.heap.size, 0, none⟩) 2 2] (W.alloc (.cells #[.slice a1 n cap1, .slice a zs.length cap] 22)) fun e w' => ∃ av cv, e = .returned (.slice av (n + zs.length) cv) ∧ Below W.heap.size W w' ∧ w'.ownsRow W.heap.size 3 1 (.slice av (n + zs.length) cv) (n + zs.length) (zvals (z1.take n ++ zs)) := fun W hW => by
        have hl : (z1.take n).length = n := by rw [List.length_take]; omega
        have hzt : ZInts n₀ W a1 (z1.take n) := by
          obtain ⟨b, off, e, h1, h2⟩ := (hzB hW).2.1.at (i := 0) (by omega)
          exact .inr ⟨b, off, e, h1, fun i hi => by rw [zd_take (by omega)]; exact h2 i (by omega)⟩
        have h := zconcat_any a1 cap1 (z1.take n) a cap zs n₀ (by omega) W hzt (hzB hW).1 hna1 hna (by have := hW.size; omega)
        rwa [hl] at h
      obtain ⟨bz, oz, rfl, _⟩ := hz1.at (i := 0) (by omega)
      have hmi : zd z1 m = zd z1 m := rfl
      have hzc := zd_time ht hmz
      clear ht hc hm hna1
      go_enter Try.func11, Try.ntmps11
      go_wp2_with (go_at_call 23; refine s1.mono ?_; rintro e w' ⟨rfl, rfl⟩)
      go_wp2_with fail
      refine s2.mono ?_
      rintro e w1 ⟨rfl, hb1⟩
      have p0 := row_below r0 hb1 lt0
      have x0 := p0.cell (i := 0) rfl
      have x1 := p0.cell (i := 1) rfl
      have x2 := p0.cell (i := 2) rfl
      have l0 := p0.lt
      have hB1 : Below w.heap.size w w1 := HB.out.trans (hb1.mono HB.out.size)
      clear c0 c1 c2 s1 s2
      have hcc1 : Calls Try.prog 24 #[.slice (some ⟨w1.heap.size, 0, none⟩) 2 2] (w1.alloc (.cells #[.slice (some ⟨bz, oz, none⟩) n cap1, .slice a zs.length cap] 22)).drew fun e w' => ∃ av cv, e = .returned (.slice av (n + zs.length) cv) ∧ Below w1.heap.size w1.drew w' ∧ w'.ownsRow w1.heap.size 3 1 (.slice av (n + zs.length) cv) (n + zs.length) (zvals (z1.take n ++ zs)) := hcc w1.drew hB1.drew
      go_wp2_with fail
      refine wp_region_still_tail 6 (by kernel_rfl) (by kernel_rfl) ?_
      simp only [List.take_succ_cons, List.take_zero, List.drop_succ_cons, List.drop_zero]
      repeat (refine no_implicit_lambda% (wpStill_step ?_); intro K hK; go_simp; refine hK _ ?_; clear hK K)
      refine no_implicit_lambda% (wpStill_nil ?_)
      show wpList _ _ _ _ _ _
      go_wp2_with fail
      refine hcc1.mono ?_
      rintro e w2 ⟨av, cv, rfl, hb2, hown⟩
      clear hcc hcc1
      obtain ⟨g', cp, hav⟩ := Go.Joins.ownsRow_form hown (by omega)
      cases hav
      have hs0 := HS.out
      have hs1 := hb1.size
      have hgl := hown.lt g' rfl
      have hb2' : Below w1.heap.size w1 w2 := (Below.refl _ _).drew.trans hb2
      have hB2 : Below w.heap.size w w2 := hB1.trans (hb2'.mono hB1.size)
      have p0 := row_below p0 hb2' l0
      have hval : zd (z1.take n ++ zs) m = zd z1 m := by rw [zd_append_lt (by rw [List.length_take]; omega), zd_take (by omega)]
      have hcell := hown.cellAt m (by omega)
      rw [zvals_at (by rw [List.length_append, List.length_take]; omega), hval] at hcell
      have hfr := hown.frozenAt m
      have hst := (hown.stored m (.int .i64 (zd z1 m + d))).1
      rw [zvals_set, ← hT] at hst
      have HL := hide (show (makeS ⟨n, d, zs⟩ z1).length = n + zs.length by rw [makeS_len]; unfold Sm.out; dsimp only; omega)
      obtain ⟨N, hN⟩ : ∃ N, n + zs.length = N := ⟨_, rfl⟩
      rw [hN] at hst hmn HL ⊢
      have HO := hide hst
      clear hN
      have HV := hide hov
      clear hov hT hval hmi
      generalize zd z1 m = v at *
      have hvw : IntKind.i64.wrap (v + d) = v + d := wrap_small (by omega) (by omega)
      have x0 := p0.cell (i := 0) rfl
      have x1 := p0.cell (i := 1) rfl
      have x2 := p0.cell (i := 2) rfl
      have ne0 : w.heap.size ≠ g' := by omega
      clear hst hown
      go_wp2_with fail
      refine wp_region_still_tail 10 (by kernel_rfl) (by kernel_rfl) ?_
      simp only [List.take_succ_cons, List.take_zero, List.drop_succ_cons, List.drop_zero]
      repeat (refine no_implicit_lambda% (wpStill_step ?_); intro K hK; go_simp; refine hK _ ?_; clear hK K)
      refine no_implicit_lambda% (wpStill_nil ?_)
      show wpList _ _ _ _ _ _
      have hB3 : Below w.heap.size w (w2.setCell ⟨g', m, none⟩ (.int .i64 (v + d))).drew := (hB2.setCell (p := ⟨g', m, none⟩) (by simp; omega) _).drew
      by_cases hv : 1048576 < v + d
      · have HC := hide (codeA_over H1.out H2.out (by rw [HV.out]; exact decide_eq_true hv))
        have e1 : decide (1048576 < v + d) = true := decide_eq_true hv
        clear hv
        go_wp2
        go_ret2
        exact ⟨.inl ⟨by rw [HC.out]; decide, by rw [HC.out]; rfl⟩, hB3⟩
      · have HC := hide (codeA_ok H1.out H2.out (by rw [HV.out]; exact decide_eq_false hv))
        have e1 : decide (1048576 < v + d) = false := decide_eq_false hv
        clear hv
        go_wp2
        go_ret2
        refine ⟨.inr ⟨HC.out, _, _, cv, rfl, by rw [HL.out]; rfl, ?_⟩, hB3⟩
        rw [HL.out]
        exact Go.Joins.ownsRow_le HO.out.drew (by omega)
    · have HC := hide (codeA_s ht hc)
      have HN := hide hc
      rw [ht] at s1
      have e1 : (codeS ⟨k, d, zs⟩ (z1.length : Int) != 0) = true := by rw [bne_iff_ne]; exact hc
      clear ht hc
      generalize codeS ⟨k, d, zs⟩ (z1.length : Int) = c at *
      go_enter Try.func11, Try.ntmps11
      go_wp2_with (go_at_call 23; refine s1.mono ?_; rintro e w' ⟨rfl, rfl⟩)
      go_wp2_with fail
      refine s2.mono ?_
      rintro e w1 ⟨rfl, hb1⟩
      go_wp2
      go_ret2
      exact ⟨.inl ⟨by rw [HC.out]; exact HN.out, by rw [HC.out]; rfl⟩, HB.out.trans (hb1.mono HB.out.size)⟩
  · have HC := hide (codeA_t (s := ⟨k, d, zs⟩) ht)
    have HN := hide ht
    have e1 : (codeT z1 != 0) = true := by rw [bne_iff_ne]; exact ht
    clear ht
    generalize codeT z1 = c at *
    go_enter Try.func11, Try.ntmps11
    go_wp2_with (go_at_call 23; refine s1.mono ?_; rintro e w' ⟨rfl, rfl⟩)
    go_ret2
    exact ⟨.inl ⟨by rw [HC.out]; exact HN.out, by rw [HC.out]; rfl⟩, HB.out⟩
end Go.Proofs.Ytfigdkikkociaab
