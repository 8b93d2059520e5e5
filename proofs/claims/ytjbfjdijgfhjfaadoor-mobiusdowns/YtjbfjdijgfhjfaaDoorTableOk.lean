/- The contract of the program's TableOf where there is a lattice: the order and its tables. -/
import Derived.Test.YtjbfjdijgfhjfaaDoorTableOf
import Derived.Deep.DeepCutAuto
import Derived.Deep.RegionWith
namespace Go.Proofs.YtjbfjdijgfhjfaaDoor
open Go.RowKit Go.Shelf

theorem IsInts.mono {n₀ n₁ : Nat} (hn : n₀ ≤ n₁) {A : World} {a : Option Addr} {l : List Nat} (h : IsInts n₀ A a l) : IsInts n₁ A a l := by
  rcases h with h | ⟨b, off, h1, h2, h3⟩
  · exact .inl h
  · exact .inr ⟨b, off, h1, by omega, h3⟩
theorem Row.ints {n₀ : Nat} {W : World} {B : Nat} {t : TypeId} {l : List Nat} (h : Row W B t (ivals l)) (hB : B < n₀) : IsInts n₀ W (some ⟨B, 0, none⟩) l :=
  .inr ⟨B, 0, rfl, hB, fun i hi => by rw [Nat.zero_add]; exact h.cell (ivals_at hi)⟩
theorem own_set6 {W : World} {base : Nat} {e : TypeId} {size : Nat} {v : Value} {k : Nat} {xs : List Value} (h : W.ownsRow base e size v k xs) {b : Nat} (hb : b < base) (v0 v1 v2 v3 v4 v5 : Value) :
    ((((((W.setCell ⟨b, 0, none⟩ v0).setCell ⟨b, 1, none⟩ v1).setCell ⟨b, 2, none⟩ v2).setCell ⟨b, 3, none⟩ v3).setCell ⟨b, 4, none⟩ v4).setCell ⟨b, 5, none⟩ v5).ownsRow base e size v k xs :=
  ownsRow_setAt (ownsRow_setAt (ownsRow_setAt (ownsRow_setAt (ownsRow_setAt (ownsRow_setAt h hb _ _) hb _ _) hb _ _) hb _ _) hb _ _) hb _ _
theorem ownsRow_other {W : World} {base : Nat} {e t : TypeId} {size : Nat} {v : Value} {k B : Nat} {xs vs : List Value} (h : W.ownsRow base e size v k xs) (hr : Row W B t vs) (hne : t ≠ e) (i : Nat) (u : Value) : (W.setCell ⟨B, i, none⟩ u).ownsRow base e size v k xs := by
  refine ⟨h.1, ?_⟩
  rcases h.2 with h2 | ⟨g, cap, cur, h1, h2, h3, h4⟩
  · exact .inl h2
  · refine .inr ⟨g, cap, cur, h1, h2, ?_, h4⟩
    have hgB : g ≠ B := fun e' => by
      subst e'
      have := h3.symm.trans hr
      cases this
      exact hne rfl
    exact ((grownBy_setCellAt W B i u).block g (Array.getElem?_eq_some_iff.1 h3).1 (fun e' => hgB (by cases e'; rfl))).trans h3

set_option maxRecDepth 100000 in
set_option maxHeartbeats 3000000 in
theorem TableOf_ok (n : Int) (a : Option Addr) (cap : Nat) (us ds : List Nat) (n₀ : Nat) (hf : Fit us) (w : World) (hT : TabAt w) (hw : IsWords n₀ w a us) (hg : 0 < n₀) (hn₀ : n₀ ≤ w.heap.size) (hc : codeOf n us = 0) (hD : Tur us us.length [] ds) (hz : (n == 0) = false) (hj : nearB us = true) (hm : nearB ds = true) :
    Calls Tryd.prog 31 #[.agg #[.int .i64 n, .slice a us.length cap]] w fun e w' => ∃ ca cc aj cj am cm js ms, e = .returned (.tuple #[.agg #[.int .i64 us.length, .slice ca us.length cc, .slice aj (us.length * us.length) cj, .slice am (us.length * us.length) cm, .int .i64 (gath (at2 ms us.length) 0 us.length : Nat), .int .i64 (gath (at2 js us.length) 0 us.length : Nat)], .int .i64 0]) ∧ Below w.heap.size w w' ∧ w'.ownsRow w.heap.size 50 1 (.slice ca us.length cc) us.length (wvals us) ∧ w'.ownsRow w.heap.size 3 1 (.slice aj (us.length * us.length) cj) (us.length * us.length) (ivals js) ∧ w'.ownsRow w.heap.size 3 1 (.slice am (us.length * us.length) cm) (us.length * us.length) (ivals ms) ∧ NearTo us js (us.length * us.length) ∧ NearTo ds ms (us.length * us.length) := by
  obtain ⟨h0, h16, hlen, hin, hord⟩ := code_zero hc
  obtain ⟨r0, r1, hb0, hs0⟩ := rows26 w 24 73 (.int .i64 n) (.slice a us.length cap) (.int .i64 0) (.slice none 0 0) (.slice none 0 0) (.slice none 0 0) (.int .i64 0) (.int .i64 0) rfl
  have hdu := Dual_ok n a cap us n₀ hf _ (hT.below hb0 (by omega)) (hw.below (hb0.mono hn₀)) hg (by omega) hc
  have hl16 : us.length ≤ 16 := by omega
  have Hb := hide hb0
  have hw1 := hw.below (hb0.mono hn₀)
  have Hu := hide hD
  have Hj := hide hj
  have Hm := hide hm
  have hlD : ds.length = us.length := hD.len
  have hfD : Fit ds := hD.fit
  have hpos : 0 < us.length := by
    have := beq_eq_false_iff_ne.1 hz
    omega
  have Hn := hide hlen.symm
  clear hb0 hc hD hj hm hlen h0 hord
  go_enter Tryd.func31, Tryd.ntmps31
  go_wp2_with (first
    | (go_at_call 43; refine hdu.mono ?_; rintro e w1 ⟨g, ds', rfl, hb1, hg1, rD, hTur⟩; have q0 := row_below r0 hb1 r0.lt; have q1 := row_below r1 hb1 r1.lt; have e1 := Tur.unique hTur Hu.out; subst e1; have hs1 := hb1.size; have lt0 := q0.lt; have lt1 := q1.lt; have ltD := rD.lt; have c01 := q0.cell (i := 1) rfl; have c00 := q0.cell (i := 0) rfl; have hn1 := nearest_det a cap us true Hj.out n₀ hf hl16 (w1.alloc (.cells #[.int .i64 n, .slice (some ⟨g, 0, none⟩) us.length us.length] 24)) ((hw1.below (hb1.mono (by omega))).below (((Below.refl w1.heap.size w1).alloc (Nat.le_refl _) _).mono (by omega))) (by simp; omega))
    | (go_at_call 48; refine hn1.mono ?_; rintro e w2 ⟨av, lv, cv, rfl, hb2, hjj⟩; have Hjj := hide hjj; clear hjj; obtain ⟨rW, hbW, hsW⟩ := one_row w1 24 (.int .i64 n) (.slice (some ⟨g, 0, none⟩) us.length us.length) rfl; have hs2 := hb2.size; have p0 := row_below (row_below q0 hbW lt0) hb2 (by omega); have p1 := row_below (row_below q1 hbW lt1) hb2 (by omega); have pW := row_below rW hb2 rW.lt; have pD := row_below (row_below rD hbW ltD) hb2 (by omega); have ltW := pW.lt; have d1 := pW.cell (i := 1) rfl; have d00 := p0.cell (i := 0) rfl; have d01 := p0.cell (i := 1) rfl; have hn2 := nearest_det (some ⟨g, 0, none⟩) us.length ds' true Hm.out w2.heap.size hfD (by omega) w2 (pD.words pD.lt) (Nat.le_refl _); rw [hlD] at hn2; clear hn1)
    | (go_at_call 48; refine hn2.mono ?_; rintro e w3 ⟨av', lv', cv', rfl, hb3, hmm⟩; have Hmm := hide hmm; clear hmm hn2; have hs3 := hb3.size; have z0 := row_below p0 hb3 (by omega); have z1 := row_below p1 hb3 (by omega); have m00 := z0.cell (i := 0) rfl; have m01 := z0.cell (i := 1) rfl; have lz0 := z0.lt; have lz1 := z1.lt; have k0 := z1.cell (i := 0) rfl; have k1 := z1.cell (i := 1) rfl; have k2 := z1.cell (i := 2) rfl; have k3 := z1.cell (i := 3) rfl; have k4 := z1.cell (i := 4) rfl; have k5 := z1.cell (i := 5) rfl; have f0 := z1.frozen 0; have f1 := z1.frozen 1; have f2 := z1.frozen 2; have f3 := z1.frozen 3; have f4 := z1.frozen 4; have f5 := z1.frozen 5))
  obtain ⟨rfl, js, hN1, hown1⟩ := Hjj.out (by simp)
  obtain ⟨elv, ms, hN2, hown2⟩ := Hmm.out (by simp)
  subst elv
  have hB3 : Below w.heap.size w w3 := ((Hb.out.trans (hb1.mono (by omega))).trans (hbW.mono (by omega))).trans ((hb2.mono (by omega)).trans (hb3.mono (by omega)))
  have hJ3 : IsInts w3.heap.size w3 av js := (ownsRow_ints (ownsRow_below hown1 hb3))
  have hM3 : IsInts w3.heap.size w3 av' ms := ownsRow_ints hown2
  have hw3 : IsWords n₀ w3 a us := hw.below (hB3.mono hn₀)
  have hcl : ∀ W, Below w3.heap.size w3 W → Calls Tryd.prog 49 #[.slice a us.length cap] W fun e w' => ∃ ca cc, e = .returned (.slice ca us.length cc) ∧ Below W.heap.size W w' ∧ w'.ownsRow W.heap.size 50 1 (.slice ca us.length cc) us.length (wvals us) ∧ Row w' w.heap.size 24 [.int .i64 n, .slice a us.length cap] := fun W hW =>
    (Clone_any a cap us n₀ hl16 hpos W (hw3.below (hW.mono (by omega))) (by have := hW.size; omega)).mono (by
      rintro e w4 ⟨ca, cc, rfl, hb4, hown4⟩
      exact ⟨ca, cc, rfl, hb4, hown4, row_below (row_below z0 hW lz0) hb4 (by have := hW.size; omega)⟩)
  have hmx : Tryd.prog.follows .mixedOrders = true := by kernel_rfl
  have HO1 := hide (show w3.ownsRow (w.heap.size + 2) 3 1 (.slice av (us.length * us.length) cv) (us.length * us.length) (ivals js) from ownsRow_base (ownsRow_below hown1 hb3) (by omega))
  have HO2 := hide (show w3.ownsRow (w.heap.size + 2) 3 1 (.slice av' (us.length * us.length) cv') (us.length * us.length) (ivals ms) from ownsRow_base hown2 (by omega))
  have hw3z : w.heap.size + 2 ≤ w3.heap.size := by omega
  have HM := hide (show ∀ a b, a < us.length → b < us.length → at2 ms us.length a b < us.length from fun x y hx hy => by
    have h2 : NearTo ds' ms (ds'.length * ds'.length) := by rw [hlD]; exact hN2
    have := (h2.at (a := x) (b := y) (by omega) (by omega)).1
    rw [hlD] at this
    exact this)
  have HJ := hide (show ∀ a b, a < us.length → b < us.length → at2 js us.length a b < us.length from fun x y hx hy => (hN1.at hx hy).1)
  clear hdu Hu Hj Hm Hjj Hmm r0 r1 q0 q1 rD hTur lt0 lt1 ltD c00 c01 hw1 rW p0 p1 pW pD ltW d1 d00 d01 k0 k1 k2 k3 k4 k5 f0 f1 f2 f3 f4 f5 hT hw hown1 hown2 hfD hlD hf hin hw3 h16 hg
  go_cut [10] (fun t10 wx => ∃ B ca cc, t10 = .pointer (some ⟨B, 0, none⟩) ∧ w3.heap.size ≤ B ∧ wx.ownsRow w3.heap.size 50 1 (.slice ca us.length cc) us.length (wvals us) ∧ Below w3.heap.size w3 wx ∧ Row wx B 73 [.int .i64 n, .slice ca us.length cc, .slice av (us.length * us.length) cv, .slice av' (us.length * us.length) cv', .int .i64 0, .int .i64 0])
  case first =>
    go_region_with (go_at_call 49; first | (refine (hcl _ ((Below.refl _ _).drew)).mono ?_; rintro e w4 ⟨ca, cc, rfl, hb4, hown4, x0⟩; have x00 := x0.cell (i := 0) rfl; have lx0 := x0.lt) | (refine (hcl (w3.drew.alloc (.cells #[.int .i64 0, .slice none 0 0, .slice none 0 0, .slice none 0 0, .int .i64 0, .int .i64 0] 73)) (((Below.refl _ _).drew).alloc (Nat.le_refl _) _)).mono ?_; rintro e w4 ⟨ca, cc, rfl, hb4, hown4, x0⟩; have x00 := x0.cell (i := 0) rfl; have lx0 := x0.lt; have t0 : Row w4 w3.heap.size 73 [.int .i64 0, .slice none 0 0, .slice none 0 0, .slice none 0 0, .int .i64 0, .int .i64 0] := row_below (Row.new w3.drew 73 [.int .i64 0, .slice none 0 0, .slice none 0 0, .slice none 0 0, .int .i64 0, .int .i64 0]) hb4 (by simp); have l0 := t0.lt; have t00 := t0.cell (i := 0) rfl; have t01 := t0.cell (i := 1) rfl; have t02 := t0.cell (i := 2) rfl; have t03 := t0.cell (i := 3) rfl; have t04 := t0.cell (i := 4) rfl; have t05 := t0.cell (i := 5) rfl; have g0 := t0.frozen 0; have g1 := t0.frozen 1; have g2 := t0.frozen 2; have g3 := t0.frozen 3; have g4 := t0.frozen 4; have g5 := t0.frozen 5))
    all_goals
      have hs4 := hb4.size
      go_wp2_with fail
      go_meet
      case rel =>
       clear x00 lx0 m00 m01
       first
       | (have t1 := t0
          refine ⟨w3.heap.size, ca, cc, rfl, Nat.le_refl _, ?_, ?_, ?_⟩
          · exact ownsRow_base (ownsRow_setAt (ownsRow_setAt (ownsRow_setAt (ownsRow_setAt (ownsRow_setAt (ownsRow_setAt hown4 (by simp) _ _) (by simp) _ _) (by simp) _ _) (by simp) _ _) (by simp) _ _) (by simp) _ _) (by simp)
          · exact below_set6 ((((Below.refl _ w3).drew).alloc (Nat.le_refl _) _).trans (hb4.mono (by simp))) (Nat.le_refl _) _ _ _ _ _ _
          · exact row_set6 t1 _ _ _ _ _ _)
       | (refine ⟨w4.heap.size, ca, cc, rfl, by simp at hs4; omega, ?_, ?_, ?_⟩
          · exact ownsRow_base (hown4.alloc _) (by simp)
          · exact (((Below.refl _ w3).drew).trans (hb4.mono (by simp))).alloc (by simp at hs4; omega) _
          · exact Row.new w4 73 [.int .i64 n, .slice ca us.length cc, .slice av (us.length * us.length) cv, .slice av' (us.length * us.length) cv', .int .i64 0, .int .i64 0])
  case rest =>
    obtain ⟨B, ca, cc, rfl, hBge, hownC, hbC, rT⟩ := hcut
    have hsC := hbC.size
    have en := Hn.out
    subst en
    have ltT := rT.lt
    have dT : Row wc.drew B 73 [.int .i64 us.length, .slice ca us.length cc, .slice av (us.length * us.length) cv, .slice av' (us.length * us.length) cv', .int .i64 0, .int .i64 0] := rT
    have hel : Calls Tryd.prog 51 #[.agg #[.int .i64 us.length, .slice ca us.length cc, .slice av (us.length * us.length) cv, .slice av' (us.length * us.length) cv', .int .i64 0, .int .i64 0]] wc.drew fun e w' => e = .returned (.slice (some ⟨wc.heap.size + 1, 0, none⟩) us.length us.length) ∧ Below wc.heap.size wc.drew w' ∧ Row w' (wc.heap.size + 1) 3 (ivals (List.range us.length)) := elements_any us.length ca cc av (us.length * us.length) cv av' (us.length * us.length) cv' 0 0 hl16 wc.drew
    have hme : ∀ w5, Below wc.heap.size wc.drew w5 → Row w5 (wc.heap.size + 1) 3 (ivals (List.range us.length)) → Calls Tryd.prog 50 #[.agg #[.int .i64 us.length, .slice ca us.length cc, .slice av (us.length * us.length) cv, .slice av' (us.length * us.length) cv', .int .i64 0, .int .i64 0], .int .i64 0, .slice (some ⟨wc.heap.size + 1, 0, none⟩) us.length us.length] w5 fun e w' => e = .returned (.int .i64 (gath (at2 ms us.length) 0 us.length : Nat)) ∧ Below w5.heap.size w5 w' := fun w5 h5 r5 =>
      MeetOf_any us.length ca cc av cv av' cv' 0 0 ms (some ⟨wc.heap.size + 1, 0, none⟩) us.length w5.heap.size hl16 hpos hN2.len HM.out w5 (((hM3.below hbC).below ((((Below.refl _ wc).drew).trans h5).mono hsC)).mono (by have := h5.size; simp at this; omega)) (r5.ints r5.lt) (Nat.le_refl _)
    have a0 := dT.cell (i := 0) rfl
    have a1 := dT.cell (i := 1) rfl
    have a2 := dT.cell (i := 2) rfl
    have a3 := dT.cell (i := 3) rfl
    have a4 := dT.cell (i := 4) rfl
    have a5 := dT.cell (i := 5) rfl
    clear hcl
    go_wp2_with fail
    go_cut [] (fun wx => wx.ownsRow w3.heap.size 50 1 (.slice ca us.length cc) us.length (wvals us) ∧ Below w3.heap.size w3 wx ∧ Row wx B 73 [.int .i64 us.length, .slice ca us.length cc, .slice av (us.length * us.length) cv, .slice av' (us.length * us.length) cv', .int .i64 (gath (at2 ms us.length) 0 us.length : Nat), .int .i64 0])
    case first =>
      go_region_with (first
        | (go_at_call 51; refine hel.mono ?_; rintro e w5 ⟨rfl, hb5, rE⟩; have dT5 := row_below dT hb5 ltT; have l5 := dT5.lt; have a0 := dT5.cell (i := 0) rfl; have a1 := dT5.cell (i := 1) rfl; have a2 := dT5.cell (i := 2) rfl; have a3 := dT5.cell (i := 3) rfl; have a4 := dT5.cell (i := 4) rfl; have a5 := dT5.cell (i := 5) rfl; have hme5 := hme w5 hb5 rE)
        | (go_at_call 50; refine hme5.mono ?_; rintro e w6 ⟨rfl, hb6⟩; have dT6 := row_below dT5 hb6 l5; have l6 := dT6.lt; have a4 := dT6.cell (i := 4) rfl; have g4 := dT6.frozen 4))
      all_goals
        have hB6 : Below wc.heap.size wc w6 := (((Below.refl _ wc).drew).trans hb5).trans (hb6.mono (by have := hb5.size; simp at this; omega))
        go_wp2_with fail
        go_meet
        case rel => exact ⟨ownsRow_other (ownsRow_below hownC hB6) dT6 (by decide) _ _, (hbC.trans (hB6.mono hsC)).setCell (p := ⟨B, 4, none⟩) hBge _, dT6.set 4 _⟩
    case rest =>
      clear hel hme a0 a1 a2 a3 a4 a5 dT rT hownC hbC hsC ltT
      obtain ⟨hownC, hbC, rT⟩ := hcut
      generalize hbt : ((gath (at2 ms us.length) 0 us.length : Nat) : Int) = bt at *
      have Hbt := hide hbt
      clear hbt
      have hsC := hbC.size
      have ltT := rT.lt
      have dT : Row wc.drew B 73 [.int .i64 us.length, .slice ca us.length cc, .slice av (us.length * us.length) cv, .slice av' (us.length * us.length) cv', .int .i64 bt, .int .i64 0] := rT
      have hel : Calls Tryd.prog 51 #[.agg #[.int .i64 us.length, .slice ca us.length cc, .slice av (us.length * us.length) cv, .slice av' (us.length * us.length) cv', .int .i64 bt, .int .i64 0]] wc.drew fun e w' => e = .returned (.slice (some ⟨wc.heap.size + 1, 0, none⟩) us.length us.length) ∧ Below wc.heap.size wc.drew w' ∧ Row w' (wc.heap.size + 1) 3 (ivals (List.range us.length)) := elements_any us.length ca cc av (us.length * us.length) cv av' (us.length * us.length) cv' bt 0 hl16 wc.drew
      have hme : ∀ w5, Below wc.heap.size wc.drew w5 → Row w5 (wc.heap.size + 1) 3 (ivals (List.range us.length)) → Calls Tryd.prog 52 #[.agg #[.int .i64 us.length, .slice ca us.length cc, .slice av (us.length * us.length) cv, .slice av' (us.length * us.length) cv', .int .i64 bt, .int .i64 0], .int .i64 0, .slice (some ⟨wc.heap.size + 1, 0, none⟩) us.length us.length] w5 fun e w' => e = .returned (.int .i64 (gath (at2 js us.length) 0 us.length : Nat)) ∧ Below w5.heap.size w5 w' := fun w5 h5 r5 =>
        JoinOf_any us.length ca cc av cv av' cv' bt 0 js (some ⟨wc.heap.size + 1, 0, none⟩) us.length w5.heap.size hl16 hpos hN1.len HJ.out w5 (((hJ3.below hbC).below ((((Below.refl _ wc).drew).trans h5).mono hsC)).mono (by have := h5.size; simp at this; omega)) (r5.ints r5.lt) (Nat.le_refl _)
      have a0 := dT.cell (i := 0) rfl
      have a1 := dT.cell (i := 1) rfl
      have a2 := dT.cell (i := 2) rfl
      have a3 := dT.cell (i := 3) rfl
      have a4 := dT.cell (i := 4) rfl
      have a5 := dT.cell (i := 5) rfl
      go_wp2_with fail
      go_cut [] (fun wx => wx.ownsRow w3.heap.size 50 1 (.slice ca us.length cc) us.length (wvals us) ∧ Below w3.heap.size w3 wx ∧ Row wx B 73 [.int .i64 us.length, .slice ca us.length cc, .slice av (us.length * us.length) cv, .slice av' (us.length * us.length) cv', .int .i64 bt, .int .i64 (gath (at2 js us.length) 0 us.length : Nat)])
      case first =>
        go_region_with (first
          | (go_at_call 51; refine hel.mono ?_; rintro e w5 ⟨rfl, hb5, rE⟩; have dT5 := row_below dT hb5 ltT; have l5 := dT5.lt; have a0 := dT5.cell (i := 0) rfl; have a1 := dT5.cell (i := 1) rfl; have a2 := dT5.cell (i := 2) rfl; have a3 := dT5.cell (i := 3) rfl; have a4 := dT5.cell (i := 4) rfl; have a5 := dT5.cell (i := 5) rfl; have hme5 := hme w5 hb5 rE)
          | (go_at_call 52; refine hme5.mono ?_; rintro e w6 ⟨rfl, hb6⟩; have dT6 := row_below dT5 hb6 l5; have l6 := dT6.lt; have a5 := dT6.cell (i := 5) rfl; have g5 := dT6.frozen 5))
        all_goals
          have hB6 : Below wc.heap.size wc w6 := (((Below.refl _ wc).drew).trans hb5).trans (hb6.mono (by have := hb5.size; simp at this; omega))
          go_wp2_with fail
          go_meet
          case rel => exact ⟨ownsRow_other (ownsRow_below hownC hB6) dT6 (by decide) _ _, (hbC.trans (hB6.mono hsC)).setCell (p := ⟨B, 5, none⟩) hBge _, dT6.set 5 _⟩
      case rest =>
        clear hel hme a0 a1 a2 a3 a4 a5 dT rT hownC hbC hsC ltT
        obtain ⟨hownC, hbC, rT⟩ := hcut
        generalize htp : ((gath (at2 js us.length) 0 us.length : Nat) : Int) = tp at *
        have Htp := hide htp
        clear htp
        have hsC := hbC.size
        have a0 := rT.cell (i := 0) rfl
        have a1 := rT.cell (i := 1) rfl
        have a2 := rT.cell (i := 2) rfl
        have a3 := rT.cell (i := 3) rfl
        have a4 := rT.cell (i := 4) rfl
        have a5 := rT.cell (i := 5) rfl
        have z2 := row_below z1 hbC lz1
        have k0 := z2.cell (i := 0) rfl
        have k1 := z2.cell (i := 1) rfl
        have k2 := z2.cell (i := 2) rfl
        have k3 := z2.cell (i := 3) rfl
        have k4 := z2.cell (i := 4) rfl
        have k5 := z2.cell (i := 5) rfl
        have f0 := z2.frozen 0
        have f1 := z2.frozen 1
        have f2 := z2.frozen 2
        have f3 := z2.frozen 3
        have f4 := z2.frozen 4
        have f5 := z2.frozen 5
        go_wp2_with fail
        have q2 := row_set6 z2 (.int .i64 us.length) (.slice ca us.length cc) (.slice av (us.length * us.length) cv) (.slice av' (us.length * us.length) cv') (.int .i64 bt) (.int .i64 tp)
        have e0 := q2.cell (i := 0) rfl
        have e1 := q2.cell (i := 1) rfl
        have e2 := q2.cell (i := 2) rfl
        have e3 := q2.cell (i := 3) rfl
        have e4 := q2.cell (i := 4) rfl
        have e5 := q2.cell (i := 5) rfl
        refine bodyPost_ret (v := .tuple #[.agg #[.int .i64 us.length, .slice ca us.length cc, .slice av (us.length * us.length) cv, .slice av' (us.length * us.length) cv', .int .i64 bt, .int .i64 tp], .int .i64 0]) (by simp [results, Tryd.results31, go_sem, e0, e1, e2, e3, e4, e5]) rfl ⟨ca, cc, av, cv, av', cv', js, ms, by rw [Hbt.out, Htp.out], ?_, ?_, ?_, ?_, hN1, hN2⟩
        · exact below_set6 (hB3.trans (hbC.mono (by omega))) (by simp) _ _ _ _ _ _
        · exact ownsRow_base (own_set6 hownC (b := w.heap.size + 1) (by omega) _ _ _ _ _ _) (by omega)
        · exact ownsRow_base (own_set6 (ownsRow_below HO1.out hbC) (b := w.heap.size + 1) (by omega) _ _ _ _ _ _) (by omega)
        · exact ownsRow_base (own_set6 (ownsRow_below HO2.out hbC) (b := w.heap.size + 1) (by omega) _ _ _ _ _ _) (by omega)
end Go.Proofs.YtjbfjdijgfhjfaaDoor
