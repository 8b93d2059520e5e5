/- The contract of the program's TableOf: what is wrong, that it is no lattice, or the order and its tables. -/
import Derived.Test.YtjbfjdijgfhjfaaDoorLatClone
import Derived.Test.YtjbfjdijgfhjfaaDoorDual
namespace Go.Proofs.YtjbfjdijgfhjfaaDoor
open Go.RowKit Go.Shelf

/-- a struct of two cells and one of six lie in new blocks -/
theorem rows26 (w : World) (t s : TypeId) (p0 p1 q0 q1 q2 q3 q4 q5 : Value) {W : World} (h : (w.alloc (.cells #[p0, p1] t)).alloc (.cells #[q0, q1, q2, q3, q4, q5] s) = W) :
    Row W w.heap.size t [p0, p1] ∧ Row W (w.heap.size + 1) s [q0, q1, q2, q3, q4, q5] ∧ Below w.heap.size w W ∧ W.heap.size = w.heap.size + 2 := by
  subst h
  have r0 := Row.new w t [p0, p1]
  have r1 := Row.new (w.alloc (.cells #[p0, p1] t)) s [q0, q1, q2, q3, q4, q5]
  rw [World.size_alloc] at r1
  exact ⟨r0.alloc _, r1, ((Below.refl _ _).alloc (Nat.le_refl _) _).alloc (by simp) _, by simp⟩

theorem row_set6 {W : World} {B : Nat} {t : TypeId} {p0 p1 p2 p3 p4 p5 : Value} (h : Row W B t [p0, p1, p2, p3, p4, p5]) (v0 v1 v2 v3 v4 v5 : Value) :
    Row ((((((W.setCell ⟨B, 0, none⟩ v0).setCell ⟨B, 1, none⟩ v1).setCell ⟨B, 2, none⟩ v2).setCell ⟨B, 3, none⟩ v3).setCell ⟨B, 4, none⟩ v4).setCell ⟨B, 5, none⟩ v5) B t [v0, v1, v2, v3, v4, v5] :=
  (((((h.set 0 v0).set 1 v1).set 2 v2).set 3 v3).set 4 v4).set 5 v5
theorem below_set6 {n B : Nat} {w W : World} (h : Below n w W) (hB : n ≤ B) (v0 v1 v2 v3 v4 v5 : Value) :
    Below n w ((((((W.setCell ⟨B, 0, none⟩ v0).setCell ⟨B, 1, none⟩ v1).setCell ⟨B, 2, none⟩ v2).setCell ⟨B, 3, none⟩ v3).setCell ⟨B, 4, none⟩ v4).setCell ⟨B, 5, none⟩ v5) :=
  (((((h.setCell (p := ⟨B, 0, none⟩) hB _).setCell (p := ⟨B, 1, none⟩) hB _).setCell (p := ⟨B, 2, none⟩) hB _).setCell (p := ⟨B, 3, none⟩) hB _).setCell (p := ⟨B, 4, none⟩) hB _).setCell (p := ⟨B, 5, none⟩) hB _
/-- the answer where there is no table -/
def tabErr (c : Int) : Ending := .returned (.tuple #[.agg #[.int .i64 0, .slice none 0 0, .slice none 0 0, .slice none 0 0, .int .i64 0, .int .i64 0], .int .i64 c])

set_option maxRecDepth 100000 in
set_option maxHeartbeats 1000000 in
theorem TableOf_bad (n : Int) (a : Option Addr) (cap : Nat) (us : List Nat) (n₀ : Nat) (hf : Fit us) (w : World) (hT : TabAt w) (hw : IsWords n₀ w a us) (hg : 0 < n₀) (hn₀ : n₀ ≤ w.heap.size) (hc : codeOf n us ≠ 0) :
    Calls Tryd.prog 31 #[.agg #[.int .i64 n, .slice a us.length cap]] w fun e w' => e = tabErr (codeOf n us) ∧ Below w.heap.size w w' := by
  obtain ⟨r0, r1, hb0, hs0⟩ := rows26 w 24 73 (.int .i64 n) (.slice a us.length cap) (.int .i64 0) (.slice none 0 0) (.slice none 0 0) (.slice none 0 0) (.int .i64 0) (.int .i64 0) rfl
  have hdu := Dual_bad n a cap us n₀ hf _ (hT.below hb0 (by omega)) (hw.below (hb0.mono hn₀)) hg (by omega) hc
  generalize codeOf n us = c at *
  have hne : (c != 0) = true := by rw [bne_iff_ne]; exact hc
  have Hb := hide hb0
  clear hb0 hc hs0
  go_enter Tryd.func31, Tryd.ntmps31
  go_wp2_with (go_at_call 43; refine hdu.mono ?_; rintro e w1 ⟨rfl, hb1⟩; have q1 := row_below r1 hb1 r1.lt; have hlt1 := q1.lt; have k0 := q1.cell (i := 0) rfl; have k1 := q1.cell (i := 1) rfl; have k2 := q1.cell (i := 2) rfl; have k3 := q1.cell (i := 3) rfl; have k4 := q1.cell (i := 4) rfl; have k5 := q1.cell (i := 5) rfl; have f0 := q1.frozen 0; have f1 := q1.frozen 1; have f2 := q1.frozen 2; have f3 := q1.frozen 3; have f4 := q1.frozen 4; have f5 := q1.frozen 5)
  have q2 := (row_set6 q1 (.int .i64 0) (.slice none 0 0) (.slice none 0 0) (.slice none 0 0) (.int .i64 0) (.int .i64 0)).alloc (.cells #[.int .i64 0, .slice none 0 0] 24)
  have e0 := q2.cell (i := 0) rfl
  have e1 := q2.cell (i := 1) rfl
  have e2 := q2.cell (i := 2) rfl
  have e3 := q2.cell (i := 3) rfl
  have e4 := q2.cell (i := 4) rfl
  have e5 := q2.cell (i := 5) rfl
  refine bodyPost_ret (v := .tuple #[.agg #[.int .i64 0, .slice none 0 0, .slice none 0 0, .slice none 0 0, .int .i64 0, .int .i64 0], .int .i64 c]) (by simp [results, Tryd.results31, go_sem, e0, e1, e2, e3, e4, e5]) rfl ⟨rfl, ?_⟩
  exact (below_set6 (Hb.out.trans (hb1.mono (by simp; omega))) (by simp) _ _ _ _ _ _).alloc (by simp; omega) _

set_option maxRecDepth 100000 in
set_option maxHeartbeats 1000000 in
theorem TableOf_none1 (n : Int) (a : Option Addr) (cap : Nat) (us ds : List Nat) (jb : Bool) (mb : Bool) (n₀ : Nat) (hf : Fit us) (w : World) (hT : TabAt w) (hw : IsWords n₀ w a us) (hg : 0 < n₀) (hn₀ : n₀ ≤ w.heap.size) (hc : codeOf n us = 0) (hD : Tur us us.length [] ds) (hz : (n == 0) = true) (hj : nearB us = jb) (hm : nearB ds = mb) :
    Calls Tryd.prog 31 #[.agg #[.int .i64 n, .slice a us.length cap]] w fun e w' => e = tabErr 5 ∧ Below w.heap.size w w' := by
  obtain ⟨h0, h16, hlen, hin, hord⟩ := code_zero hc
  obtain ⟨r0, r1, hb0, hs0⟩ := rows26 w 24 73 (.int .i64 n) (.slice a us.length cap) (.int .i64 0) (.slice none 0 0) (.slice none 0 0) (.slice none 0 0) (.int .i64 0) (.int .i64 0) rfl
  have hdu := Dual_ok n a cap us n₀ hf _ (hT.below hb0 (by omega)) (hw.below (hb0.mono hn₀)) hg (by omega) hc
  have hl16 : us.length ≤ 16 := by omega
  have Hb := hide hb0
  have hw1 := hw.below (hb0.mono hn₀)
  have Hu := hide hD
  have Hj := hide hj
  have Hm := hide hm
  have hlD : ds.length = us.length := hD.len
  have hfD : Fit ds := hD.fit
  clear hb0 hc hD hj hm hlen h0 hord
  go_enter Tryd.func31, Tryd.ntmps31
  go_wp2_with (first
    | (go_at_call 43; refine hdu.mono ?_; rintro e w1 ⟨g, ds', rfl, hb1, hg1, rD, hTur⟩; have q0 := row_below r0 hb1 r0.lt; have q1 := row_below r1 hb1 r1.lt; have e1 := Tur.unique hTur Hu.out; subst e1; have hs1 := hb1.size; have lt0 := q0.lt; have lt1 := q1.lt; have ltD := rD.lt; have c01 := q0.cell (i := 1) rfl; have c00 := q0.cell (i := 0) rfl; have hn1 := nearest_det a cap us jb Hj.out n₀ hf hl16 (w1.alloc (.cells #[.int .i64 n, .slice (some ⟨g, 0, none⟩) us.length us.length] 24)) ((hw1.below (hb1.mono (by omega))).below (((Below.refl w1.heap.size w1).alloc (Nat.le_refl _) _).mono (by omega))) (by simp; omega))
    | (go_at_call 48; refine hn1.mono ?_; rintro e w2 ⟨av, lv, cv, rfl, hb2, hjj⟩; obtain ⟨rW, hbW, hsW⟩ := one_row w1 24 (.int .i64 n) (.slice (some ⟨g, 0, none⟩) us.length us.length) rfl; have hs2 := hb2.size; have p0 := row_below (row_below q0 hbW lt0) hb2 (by omega); have p1 := row_below (row_below q1 hbW lt1) hb2 (by omega); have pW := row_below rW hb2 rW.lt; have pD := row_below (row_below rD hbW ltD) hb2 (by omega); have ltW := pW.lt; have d1 := pW.cell (i := 1) rfl; have d00 := p0.cell (i := 0) rfl; have d01 := p0.cell (i := 1) rfl; have hn2 := nearest_det (some ⟨g, 0, none⟩) us.length ds' mb Hm.out w2.heap.size hfD (by omega) w2 (pD.words pD.lt) (Nat.le_refl _); rw [hlD] at hn2; clear hn1)
    | (go_at_call 48; refine hn2.mono ?_; rintro e w3 ⟨av', lv', cv', rfl, hb3, hmm⟩; have hs3 := hb3.size; have z0 := row_below p0 hb3 (by omega); have z1 := row_below p1 hb3 (by omega); have m00 := z0.cell (i := 0) rfl; have m01 := z0.cell (i := 1) rfl; have lz0 := z0.lt; have lz1 := z1.lt; have k0 := z1.cell (i := 0) rfl; have k1 := z1.cell (i := 1) rfl; have k2 := z1.cell (i := 2) rfl; have k3 := z1.cell (i := 3) rfl; have k4 := z1.cell (i := 4) rfl; have k5 := z1.cell (i := 5) rfl; have f0 := z1.frozen 0; have f1 := z1.frozen 1; have f2 := z1.frozen 2; have f3 := z1.frozen 3; have f4 := z1.frozen 4; have f5 := z1.frozen 5))
  have q2 := row_set6 z1 (.int .i64 0) (.slice none 0 0) (.slice none 0 0) (.slice none 0 0) (.int .i64 0) (.int .i64 0)
  have e0 := q2.cell (i := 0) rfl
  have e1 := q2.cell (i := 1) rfl
  have e2 := q2.cell (i := 2) rfl
  have e3 := q2.cell (i := 3) rfl
  have e4 := q2.cell (i := 4) rfl
  have e5 := q2.cell (i := 5) rfl
  refine bodyPost_ret (v := .tuple #[.agg #[.int .i64 0, .slice none 0 0, .slice none 0 0, .slice none 0 0, .int .i64 0, .int .i64 0], .int .i64 5]) (by simp [results, Tryd.results31, go_sem, e0, e1, e2, e3, e4, e5]) rfl ⟨rfl, ?_⟩
  have hB3 : Below w.heap.size w w3 := ((Hb.out.trans (hb1.mono (by omega))).trans (hbW.mono (by omega))).trans ((hb2.mono (by omega)).trans (hb3.mono (by omega)))
  exact below_set6 hB3 (by simp) _ _ _ _ _ _
set_option maxRecDepth 100000 in
set_option maxHeartbeats 1000000 in
theorem TableOf_none2 (n : Int) (a : Option Addr) (cap : Nat) (us ds : List Nat) (mb : Bool) (n₀ : Nat) (hf : Fit us) (w : World) (hT : TabAt w) (hw : IsWords n₀ w a us) (hg : 0 < n₀) (hn₀ : n₀ ≤ w.heap.size) (hc : codeOf n us = 0) (hD : Tur us us.length [] ds) (hz : (n == 0) = false) (hj : nearB us = false) (hm : nearB ds = mb) :
    Calls Tryd.prog 31 #[.agg #[.int .i64 n, .slice a us.length cap]] w fun e w' => e = tabErr 5 ∧ Below w.heap.size w w' := by
  obtain ⟨h0, h16, hlen, hin, hord⟩ := code_zero hc
  obtain ⟨r0, r1, hb0, hs0⟩ := rows26 w 24 73 (.int .i64 n) (.slice a us.length cap) (.int .i64 0) (.slice none 0 0) (.slice none 0 0) (.slice none 0 0) (.int .i64 0) (.int .i64 0) rfl
  have hdu := Dual_ok n a cap us n₀ hf _ (hT.below hb0 (by omega)) (hw.below (hb0.mono hn₀)) hg (by omega) hc
  have hl16 : us.length ≤ 16 := by omega
  have Hb := hide hb0
  have hw1 := hw.below (hb0.mono hn₀)
  have Hu := hide hD
  have Hj := hide hj
  have Hm := hide hm
  have hlD : ds.length = us.length := hD.len
  have hfD : Fit ds := hD.fit
  clear hb0 hc hD hj hm hlen h0 hord
  go_enter Tryd.func31, Tryd.ntmps31
  go_wp2_with (first
    | (go_at_call 43; refine hdu.mono ?_; rintro e w1 ⟨g, ds', rfl, hb1, hg1, rD, hTur⟩; have q0 := row_below r0 hb1 r0.lt; have q1 := row_below r1 hb1 r1.lt; have e1 := Tur.unique hTur Hu.out; subst e1; have hs1 := hb1.size; have lt0 := q0.lt; have lt1 := q1.lt; have ltD := rD.lt; have c01 := q0.cell (i := 1) rfl; have c00 := q0.cell (i := 0) rfl; have hn1 := nearest_det a cap us false Hj.out n₀ hf hl16 (w1.alloc (.cells #[.int .i64 n, .slice (some ⟨g, 0, none⟩) us.length us.length] 24)) ((hw1.below (hb1.mono (by omega))).below (((Below.refl w1.heap.size w1).alloc (Nat.le_refl _) _).mono (by omega))) (by simp; omega))
    | (go_at_call 48; refine hn1.mono ?_; rintro e w2 ⟨av, lv, cv, rfl, hb2, hjj⟩; obtain ⟨rW, hbW, hsW⟩ := one_row w1 24 (.int .i64 n) (.slice (some ⟨g, 0, none⟩) us.length us.length) rfl; have hs2 := hb2.size; have p0 := row_below (row_below q0 hbW lt0) hb2 (by omega); have p1 := row_below (row_below q1 hbW lt1) hb2 (by omega); have pW := row_below rW hb2 rW.lt; have pD := row_below (row_below rD hbW ltD) hb2 (by omega); have ltW := pW.lt; have d1 := pW.cell (i := 1) rfl; have d00 := p0.cell (i := 0) rfl; have d01 := p0.cell (i := 1) rfl; have hn2 := nearest_det (some ⟨g, 0, none⟩) us.length ds' mb Hm.out w2.heap.size hfD (by omega) w2 (pD.words pD.lt) (Nat.le_refl _); rw [hlD] at hn2; clear hn1)
    | (go_at_call 48; refine hn2.mono ?_; rintro e w3 ⟨av', lv', cv', rfl, hb3, hmm⟩; have hs3 := hb3.size; have z0 := row_below p0 hb3 (by omega); have z1 := row_below p1 hb3 (by omega); have m00 := z0.cell (i := 0) rfl; have m01 := z0.cell (i := 1) rfl; have lz0 := z0.lt; have lz1 := z1.lt; have k0 := z1.cell (i := 0) rfl; have k1 := z1.cell (i := 1) rfl; have k2 := z1.cell (i := 2) rfl; have k3 := z1.cell (i := 3) rfl; have k4 := z1.cell (i := 4) rfl; have k5 := z1.cell (i := 5) rfl; have f0 := z1.frozen 0; have f1 := z1.frozen 1; have f2 := z1.frozen 2; have f3 := z1.frozen 3; have f4 := z1.frozen 4; have f5 := z1.frozen 5))
  have q2 := row_set6 z1 (.int .i64 0) (.slice none 0 0) (.slice none 0 0) (.slice none 0 0) (.int .i64 0) (.int .i64 0)
  have e0 := q2.cell (i := 0) rfl
  have e1 := q2.cell (i := 1) rfl
  have e2 := q2.cell (i := 2) rfl
  have e3 := q2.cell (i := 3) rfl
  have e4 := q2.cell (i := 4) rfl
  have e5 := q2.cell (i := 5) rfl
  refine bodyPost_ret (v := .tuple #[.agg #[.int .i64 0, .slice none 0 0, .slice none 0 0, .slice none 0 0, .int .i64 0, .int .i64 0], .int .i64 5]) (by simp [results, Tryd.results31, go_sem, e0, e1, e2, e3, e4, e5]) rfl ⟨rfl, ?_⟩
  have hB3 : Below w.heap.size w w3 := ((Hb.out.trans (hb1.mono (by omega))).trans (hbW.mono (by omega))).trans ((hb2.mono (by omega)).trans (hb3.mono (by omega)))
  exact below_set6 hB3 (by simp) _ _ _ _ _ _
set_option maxRecDepth 100000 in
set_option maxHeartbeats 1000000 in
theorem TableOf_none3 (n : Int) (a : Option Addr) (cap : Nat) (us ds : List Nat) (n₀ : Nat) (hf : Fit us) (w : World) (hT : TabAt w) (hw : IsWords n₀ w a us) (hg : 0 < n₀) (hn₀ : n₀ ≤ w.heap.size) (hc : codeOf n us = 0) (hD : Tur us us.length [] ds) (hz : (n == 0) = false) (hj : nearB us = true) (hm : nearB ds = false) :
    Calls Tryd.prog 31 #[.agg #[.int .i64 n, .slice a us.length cap]] w fun e w' => e = tabErr 5 ∧ Below w.heap.size w w' := by
  obtain ⟨h0, h16, hlen, hin, hord⟩ := code_zero hc
  obtain ⟨r0, r1, hb0, hs0⟩ := rows26 w 24 73 (.int .i64 n) (.slice a us.length cap) (.int .i64 0) (.slice none 0 0) (.slice none 0 0) (.slice none 0 0) (.int .i64 0) (.int .i64 0) rfl
  have hdu := Dual_ok n a cap us n₀ hf _ (hT.below hb0 (by omega)) (hw.below (hb0.mono hn₀)) hg (by omega) hc
  have hl16 : us.length ≤ 16 := by omega
  have Hb := hide hb0
  have hw1 := hw.below (hb0.mono hn₀)
  have Hu := hide hD
  have Hj := hide hj
  have Hm := hide hm
  have hlD : ds.length = us.length := hD.len
  have hfD : Fit ds := hD.fit
  clear hb0 hc hD hj hm hlen h0 hord
  go_enter Tryd.func31, Tryd.ntmps31
  go_wp2_with (first
    | (go_at_call 43; refine hdu.mono ?_; rintro e w1 ⟨g, ds', rfl, hb1, hg1, rD, hTur⟩; have q0 := row_below r0 hb1 r0.lt; have q1 := row_below r1 hb1 r1.lt; have e1 := Tur.unique hTur Hu.out; subst e1; have hs1 := hb1.size; have lt0 := q0.lt; have lt1 := q1.lt; have ltD := rD.lt; have c01 := q0.cell (i := 1) rfl; have c00 := q0.cell (i := 0) rfl; have hn1 := nearest_det a cap us true Hj.out n₀ hf hl16 (w1.alloc (.cells #[.int .i64 n, .slice (some ⟨g, 0, none⟩) us.length us.length] 24)) ((hw1.below (hb1.mono (by omega))).below (((Below.refl w1.heap.size w1).alloc (Nat.le_refl _) _).mono (by omega))) (by simp; omega))
    | (go_at_call 48; refine hn1.mono ?_; rintro e w2 ⟨av, lv, cv, rfl, hb2, hjj⟩; obtain ⟨rW, hbW, hsW⟩ := one_row w1 24 (.int .i64 n) (.slice (some ⟨g, 0, none⟩) us.length us.length) rfl; have hs2 := hb2.size; have p0 := row_below (row_below q0 hbW lt0) hb2 (by omega); have p1 := row_below (row_below q1 hbW lt1) hb2 (by omega); have pW := row_below rW hb2 rW.lt; have pD := row_below (row_below rD hbW ltD) hb2 (by omega); have ltW := pW.lt; have d1 := pW.cell (i := 1) rfl; have d00 := p0.cell (i := 0) rfl; have d01 := p0.cell (i := 1) rfl; have hn2 := nearest_det (some ⟨g, 0, none⟩) us.length ds' false Hm.out w2.heap.size hfD (by omega) w2 (pD.words pD.lt) (Nat.le_refl _); rw [hlD] at hn2; clear hn1)
    | (go_at_call 48; refine hn2.mono ?_; rintro e w3 ⟨av', lv', cv', rfl, hb3, hmm⟩; have hs3 := hb3.size; have z0 := row_below p0 hb3 (by omega); have z1 := row_below p1 hb3 (by omega); have m00 := z0.cell (i := 0) rfl; have m01 := z0.cell (i := 1) rfl; have lz0 := z0.lt; have lz1 := z1.lt; have k0 := z1.cell (i := 0) rfl; have k1 := z1.cell (i := 1) rfl; have k2 := z1.cell (i := 2) rfl; have k3 := z1.cell (i := 3) rfl; have k4 := z1.cell (i := 4) rfl; have k5 := z1.cell (i := 5) rfl; have f0 := z1.frozen 0; have f1 := z1.frozen 1; have f2 := z1.frozen 2; have f3 := z1.frozen 3; have f4 := z1.frozen 4; have f5 := z1.frozen 5))
  have q2 := row_set6 z1 (.int .i64 0) (.slice none 0 0) (.slice none 0 0) (.slice none 0 0) (.int .i64 0) (.int .i64 0)
  have e0 := q2.cell (i := 0) rfl
  have e1 := q2.cell (i := 1) rfl
  have e2 := q2.cell (i := 2) rfl
  have e3 := q2.cell (i := 3) rfl
  have e4 := q2.cell (i := 4) rfl
  have e5 := q2.cell (i := 5) rfl
  refine bodyPost_ret (v := .tuple #[.agg #[.int .i64 0, .slice none 0 0, .slice none 0 0, .slice none 0 0, .int .i64 0, .int .i64 0], .int .i64 5]) (by simp [results, Tryd.results31, go_sem, e0, e1, e2, e3, e4, e5]) rfl ⟨rfl, ?_⟩
  have hB3 : Below w.heap.size w w3 := ((Hb.out.trans (hb1.mono (by omega))).trans (hbW.mono (by omega))).trans ((hb2.mono (by omega)).trans (hb3.mono (by omega)))
  exact below_set6 hB3 (by simp) _ _ _ _ _ _
end Go.Proofs.YtjbfjdijgfhjfaaDoor
