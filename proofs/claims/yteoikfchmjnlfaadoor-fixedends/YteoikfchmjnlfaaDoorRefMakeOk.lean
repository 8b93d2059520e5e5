/- The contract of the document's LatticeMake where the order may be and has elements: that it is no lattice, or its tables and ends. -/
import Derived.Test.YteoikfchmjnlfaaDoorRefMake
import Derived.Test.YteoikfchmjnlfaaDoorLatTwo
import Derived.Test.YteoikfchmjnlfaaDoorApart
namespace Go.Proofs.YteoikfchmjnlfaaDoor
open Go.RowKit Go.Shelf

/-- what stands in memory while the two tables grow: the block B of the lattice, two rows of its own behind it -/
structure Grow (V wr : World) (B m : Nat) (aj : Option Addr) (cj : Nat) (am : Option Addr) (cm : Nat) (js ms : List Nat) : Prop where
  bel : Below B V wr
  row : Row wr B 30 [.slice aj m cj, .slice am m cm, .int .i64 0, .int .i64 0]
  oj : wr.ownsRow (B + 1) 3 1 (.slice aj m cj) m (ivals js)
  om : wr.ownsRow (B + 1) 3 1 (.slice am m cm) m (ivals ms)
  apart : Apart (.slice aj m cj) (.slice am m cm)
theorem Grow.step {V wr w' : World} {B m : Nat} {aj : Option Addr} {cj : Nat} {am : Option Addr} {cm : Nat} {js ms : List Nat} (h : Grow V wr B m aj cj am cm js ms) (hb : Below wr.heap.size wr w') : Grow V w' B m aj cj am cm js ms :=
  ⟨h.bel.trans (hb.mono (Nat.le_of_lt h.row.lt)), row_below h.row hb h.row.lt, ownsRow_below h.oj hb, ownsRow_below h.om hb, h.apart⟩

set_option maxRecDepth 100000 in
set_option maxHeartbeats 4000000 in
theorem RefMake_main (a : Option Addr) (cap : Nat) (us : List Nat) (n₀ : Nat) (hf : Fit us) (w : World) (hw : IsWords n₀ w a us) (hn₀ : n₀ ≤ w.heap.size) (hc : codeOf us.length us = 0) (hpos : 0 < us.length) :
    Calls Tryd.prog 11 #[.agg #[.int .i64 us.length, .slice a us.length cap]] w fun e w' => Below w.heap.size w w' ∧ ∃ ds, Tur us us.length [] ds ∧ (((NoNear us ∨ NoNear ds) ∧ e = latErr 5) ∨ ∃ aj cj am cm js ms, e = .returned (.tuple #[.agg #[.slice aj (us.length * us.length) cj, .slice am (us.length * us.length) cm, .int .i64 (gath (at2 ms us.length) 0 us.length : Nat), .int .i64 (gath (at2 js us.length) 0 us.length : Nat)], .int .i64 0]) ∧ IsInts w'.heap.size w' aj js ∧ IsInts w'.heap.size w' am ms ∧ NearTo us js (us.length * us.length) ∧ NearTo ds ms (us.length * us.length)) := by
  obtain ⟨h0, h16, _, hin, hord⟩ := code_zero hc
  obtain ⟨i0, hi, hz0, hz1, hz2⟩ := info_parts info_int
  have hl16 : us.length ≤ 16 := by omega
  obtain ⟨r0, r1, hb0, hs0⟩ := rows24 w 24 30 (.int .i64 us.length) (.slice a us.length cap) (.slice none 0 0) (.slice none 0 0) (.int .i64 0) (.int .i64 0) rfl
  have hck := OrderCheck_any us.length a cap us n₀ hf _ (hw.below (hb0.mono hn₀)) (by omega)
  rw [hc] at hck
  have hz : ((us.length : Int) == 0) = false := by rw [beq_eq_false_iff_ne]; omega
  have Hb := hide hb0
  have hw0 := hw.below (hb0.mono hn₀)
  clear hb0 hc h0
  go_enter Tryd.func11, Tryd.ntmps11
  go_wp2_with (first
    | (go_at_call 33; refine hck.mono ?_; rintro e w1 ⟨rfl, hb1⟩; have hs1 := hb1.size; have q0 := row_below r0 hb1 r0.lt; have lt0 := q0.lt; have j0 := q0.cell (i := 0) rfl; have j1 := q0.cell (i := 1) rfl; have q1 := row_below r1 hb1 r1.lt; have lt1 := q1.lt; have hdu := OrderDual_any a cap us n₀ hf hl16 w1 (hw0.below (hb1.mono (by omega))) (by omega))
    | (go_at_call 34; refine hdu.mono ?_; rintro e w2 ⟨v, ds, rfl, hb2, hown, hTur⟩; obtain ⟨av, cv, rfl, hdw⟩ := ownsRow_words hown; have elD := hTur.len; rw [elD]; have hs2 := hb2.size; have p0 := row_below q0 hb2 lt0; have p1 := row_below q1 hb2 lt1))
  obtain ⟨V, hV⟩ : ∃ V, V = (w2.alloc (.cells #[.int .i64 us.length, .slice av us.length cv] 24)).alloc (.cells #[.slice none 0 0, .slice none 0 0, .int .i64 0, .int .i64 0] 30) := ⟨_, rfl⟩
  rw [← hV]
  obtain ⟨zD, zL, hbV, hsV⟩ := rows24 w2 24 30 (.int .i64 us.length) (.slice av us.length cv) (.slice none 0 0) (.slice none 0 0) (.int .i64 0) (.int .i64 0) hV.symm
  have z0 := row_below p0 hbV p0.lt
  have z1 := row_below p1 hbV p1.lt
  have hB : Below w.heap.size w V := (Hb.out.trans (hb1.mono (by omega))).trans ((hb2.mono (by omega)).trans (hbV.mono (by omega)))
  have hwV : IsWords n₀ V a us := hw.below (hB.mono hn₀)
  have hdV : IsWords w2.heap.size V av ds := hdw.below hbV
  have hinD := tur_inside hTur
  have hordD := tur_ord hord hTur
  have hfD := hTur.fit
  have lz1 := z1.lt
  have hB2 : w.heap.size + 2 ≤ w2.heap.size := by omega
  have HTur := hide hTur
  clear hV hb1 hb2 hbV q0 q1 p0 p1 j0 j1 lt0 lt1 hdu hck r0 r1 hs0 hown hdw hTur Hb hw0 hs1 hs2
  have hsz1 : ∀ {X : World} {m : Nat} {aj : Option Addr} {cj : Nat} {am : Option Addr} {cm : Nat} {js ms : List Nat}, Grow V X (w2.heap.size + 1) m aj cj am cm js ms → Row X w.heap.size 24 [.int .i64 us.length, .slice a us.length cap] ∧ Row X (w.heap.size + 1) 30 [.slice none 0 0, .slice none 0 0, .int .i64 0, .int .i64 0] ∧ Row X w2.heap.size 24 [.int .i64 us.length, .slice av us.length cv] ∧ w2.heap.size + 2 ≤ X.heap.size ∧ Below w.heap.size w X := fun h => ⟨row_below z0 h.bel (by omega), row_below z1 h.bel (by omega), row_below zD h.bel (by omega), by have := h.bel.size; omega, hB.trans (h.bel.mono (by omega))⟩
  have hju : ∀ (x y : Nat) (W : World), x < us.length → y < us.length → Below (w2.heap.size + 1) V W → IsWords n₀ W a us ∧ IsWords w2.heap.size W av ds := fun x y W _ _ hW => ⟨hwV.below (hW.mono (by omega)), hdV.below (hW.mono (by omega))⟩
  go_loopw [7] (fun i wr => ∃ (k : Nat) (aj : Option Addr) (cj : Nat) (am : Option Addr) (cm : Nat) (js ms : List Nat), k ≤ us.length ∧ i = .int .i64 k ∧ Grow V wr (w2.heap.size + 1) (k * us.length) aj cj am cm js ms ∧ NearTo us js (k * us.length) ∧ NearTo ds ms (k * us.length)) (fun i _ => us.length - (intOf i).toNat)
  case atStart =>
    refine ⟨0, none, 0, none, 0, [], [], Nat.zero_le _, rfl, ?_, by rw [Nat.zero_mul]; exact NearTo.start us, by rw [Nat.zero_mul]; exact NearTo.start ds⟩
    rw [Nat.zero_mul]
    exact ⟨Below.refl _ _, zL, World.ownsRow_nil .., World.ownsRow_nil .., fun b hb => by simp [Value.ownBlock] at hb⟩
  case round =>
    obtain ⟨k, aj, cj, am, cm, js, ms, hk, rfl, hG, hN1, hN2⟩ := hrel
    obtain ⟨y0, y1, yD, hsr, hBr⟩ := hsz1 hG
    have c00 := y0.cell (i := 0) rfl
    by_cases hlt : k < us.length
    · go_wp2
      go_loopw [8] (fun i wr => ∃ (t : Nat) (aj : Option Addr) (cj : Nat) (am : Option Addr) (cm : Nat) (js ms : List Nat), t ≤ us.length ∧ i = .int .i64 t ∧ Grow V wr (w2.heap.size + 1) (k * us.length + t) aj cj am cm js ms ∧ NearTo us js (k * us.length + t) ∧ NearTo ds ms (k * us.length + t)) (fun i _ => us.length - (intOf i).toNat)
      case atStart => exact ⟨0, aj, cj, am, cm, js, ms, Nat.zero_le _, rfl, hG, hN1, hN2⟩
      case round =>
        clear hG hN1 hN2 y0 y1 yD hsr hBr c00
        obtain ⟨t, aj, cj, am, cm, js, ms, ht, rfl, hG, hN1, hN2⟩ := hrel
        obtain ⟨y0, y1, yD, hsr, hBr⟩ := hsz1 hG
        have c00 := y0.cell (i := 0) rfl
        by_cases hlj : t < us.length
        · have c01 := y0.cell (i := 1) rfl
          have hpl := place_lt hlt hlj
          have h256 : us.length * us.length ≤ 256 := Nat.mul_le_mul hl16 hl16
          have hwr := hju k t wr hlt hlj hG.bel
          by_cases hex1 : ∃ z, z < us.length ∧ wd us z = andW (wd us k) (wd us t)
          · obtain ⟨z, hzl, hze⟩ := hex1
            have hj1 := join_is a cap us k t z n₀ hf hin hord hl16 hlt hlj hzl hze wr hwr.1 (by omega)
            by_cases hex2 : ∃ z, z < us.length ∧ wd ds z = andW (wd ds k) (wd ds t)
            · obtain ⟨z', hzl', hze'⟩ := hex2
              have hj2 : ∀ W, Below (w2.heap.size + 1) V W → w2.heap.size + 2 ≤ W.heap.size → Calls Tryd.prog 35 #[.agg #[.int .i64 us.length, .slice av us.length cv], .int .i64 k, .int .i64 t] W fun e w' => e = .returned (.int .i64 (z' : Nat)) ∧ Below W.heap.size W w' := fun W hW hsW => by
                have := join_is av cv ds k t z' w2.heap.size hfD hinD hordD (by omega) (by omega) (by omega) (by omega) hze' W (hju k t W hlt hlj hW).2 (by omega)
                rw [elD] at this
                exact this
              have Hz := hide hze
              have Hz' := hide hze'
              clear hze hze' hwr
              go_wp2_with (first
                | (go_at_call 35; refine hj1.mono ?_; rintro e u1 ⟨rfl, hu1⟩; have hG1 := hG.step hu1; obtain ⟨x0, x1, xD, hsx, hBx⟩ := hsz1 hG1; have xD0 := xD.cell (i := 0) rfl; have xD1 := xD.cell (i := 1) rfl; have hj2' := hj2 u1 hG1.bel hsx; clear hj1 hj2)
                | (go_at_call 35; refine hj2'.mono ?_; rintro e u2 ⟨rfl, hu2⟩; have hG2 := hG1.step hu2; have l0 := hG2.row.cell (i := 0) rfl; have l1 := hG2.row.cell (i := 1) rfl; have ltl := hG2.row.lt; have hs2 := hu2.size; clear hj2')
                | (at_builtin; refine wpList_append_own_at _ rfl _ _ 25 rfl (w2.heap.size + 1 + 1) 3 i0 (.int .i64 0) 1 8 Tryd.underlying25 hi hz0 hz1 hz2 rfl (by decide) _ _ _ rfl (hG2.oj.alloc _) ⟨u2.heap.size, 0, none⟩ 1 1 [.int .i64 (z : Nat)] rfl rfl (cell_one_new _ _ _) (fun u hu => by simp at hu; subst hu; rfl) (by unfold maxLen; omega) (by omega) (by simp; omega) ?_; intro v' u3 o3 g3 _ at3; obtain ⟨g', cap', rfl⟩ := ownsRow_succ o3; obtain ⟨k1, k2, k3, k4, k5⟩ := append_keep hG2.bel hG2.row hG2.oj hG2.om hG2.apart _ g3 at3; have m0 := k2.cell (i := 0) rfl; have m1 := k2.cell (i := 1) rfl; have fm0 := k2.frozen 0; have fm1 := k2.frozen 1; have ltm := k2.lt)
                | (at_builtin; refine wpList_append_own_at _ rfl _ _ 25 rfl (w2.heap.size + 1 + 1) 3 i0 (.int .i64 0) 1 8 Tryd.underlying25 hi hz0 hz1 hz2 rfl (by decide) _ _ _ rfl ((show (u3.setCell ⟨w2.heap.size + 1, 0, none⟩ (.slice (some ⟨g', 0, none⟩) (k * us.length + t + 1) cap')).ownsRow (w2.heap.size + 1 + 1) 3 1 (.slice am (k * us.length + t) cm) (k * us.length + t) (ivals ms) from ownsRow_setAt k3 (by omega) _ _).alloc _) ⟨u3.heap.size, 0, none⟩ 1 1 [.int .i64 (z' : Nat)] rfl rfl (cell_one_new' _ _ _ (by simp)) (fun u hu => by simp at hu; subst hu; rfl) (by unfold maxLen; omega) (by omega) (by simp; omega) ?_; intro v'' u4 o4 g4 _ at4; obtain ⟨g'', cap'', rfl⟩ := ownsRow_succ o4; obtain ⟨c1, c2, c3, c4, c5⟩ := append_keep (k1.setCell (p := ⟨w2.heap.size + 1, 0, none⟩) (Nat.le_refl _) (.slice (some ⟨g', 0, none⟩) (k * us.length + t + 1) cap')) (k2.set 0 _) (ownsRow_setAt k3 (by omega) _ _) (ownsRow_setAt o3 (by omega) _ _) k4.symm _ g4 at4; have n0 := c2.cell (i := 0) rfl; have n1 := c2.cell (i := 1) rfl; have fn1 := c2.frozen 1; have ltn := c2.lt))
              have oj' : u4.ownsRow (w2.heap.size + 1 + 1) 3 1 (.slice (some ⟨g', 0, none⟩) (k * us.length + t + 1) cap') (k * us.length + t + 1) (ivals (js ++ [z])) := by rw [ivals_snoc]; exact c3
              have om' : u4.ownsRow (w2.heap.size + 1 + 1) 3 1 (.slice (some ⟨g'', 0, none⟩) (k * us.length + t + 1) cap'') (k * us.length + t + 1) (ivals (ms ++ [z'])) := by rw [ivals_snoc]; exact o4
              exact ⟨⟨t + 1, some ⟨g', 0, none⟩, cap', some ⟨g'', 0, none⟩, cap'', js ++ [z], ms ++ [z'], by omega, by go_num, ⟨c1.setCell (p := ⟨w2.heap.size + 1, 1, none⟩) (Nat.le_refl _) _, c2.set 1 _, ownsRow_setAt oj' (by omega) _ _, ownsRow_setAt om' (by omega) _ _, c4.symm⟩, hN1.snoc hlj hzl Hz.out, by have h2 := NearTo.snoc (ws := ds) (a := k) (b := t) (i := z') (by rw [elD]; exact hN2) (by omega) (by omega) Hz'.out; rw [elD] at h2; exact h2⟩, by simp [intOf]; omega⟩
            · have hno : ∀ z, z < ds.length → wd ds z ≠ andW (wd ds k) (wd ds t) := fun z hz he => hex2 ⟨z, by omega, he⟩
              have HNO := hide (show NoNear us ∨ NoNear ds from .inr ⟨k, t, by omega, by omega, hno⟩)
              have hj2 : ∀ W, Below (w2.heap.size + 1) V W → w2.heap.size + 2 ≤ W.heap.size → Calls Tryd.prog 35 #[.agg #[.int .i64 us.length, .slice av us.length cv], .int .i64 k, .int .i64 t] W fun e w' => e = .returned (.int .i64 (-1)) ∧ Below W.heap.size W w' := fun W hW hsW => by
                have := join_no av cv ds k t w2.heap.size hfD hinD hordD (by omega) (by omega) (by omega) hno W (hju k t W hlt hlj hW).2 (by omega)
                rw [elD] at this
                exact this
              clear hze hwr hno hex2
              go_wp2_with (first
                | (go_at_call 35; refine hj1.mono ?_; rintro e u1 ⟨rfl, hu1⟩; have hG1 := hG.step hu1; obtain ⟨x0, x1, xD, hsx, hBx⟩ := hsz1 hG1; have xD0 := xD.cell (i := 0) rfl; have xD1 := xD.cell (i := 1) rfl; have hj2' := hj2 u1 hG1.bel hsx; clear hj1 hj2 hsx hBx x0 x1)
                | (go_at_call 35; refine hj2'.mono ?_; rintro e u2 ⟨rfl, hu2⟩; have hG2 := hG1.step hu2; obtain ⟨x0, x1, xD, hsx, hBx⟩ := hsz1 hG2; have lx1 := x1.lt; have k0 := x1.cell (i := 0) rfl; have k1 := x1.cell (i := 1) rfl; have k2 := x1.cell (i := 2) rfl; have k3 := x1.cell (i := 3) rfl; have f0 := x1.frozen 0; have f1 := x1.frozen 1; have f2 := x1.frozen 2; have f3 := x1.frozen 3; clear hj2'))
              have qE := row_set4 x1 (.slice none 0 0) (.slice none 0 0) (.int .i64 0) (.int .i64 0)
              have e0 := qE.cell (i := 0) rfl
              have e1 := qE.cell (i := 1) rfl
              have e2 := qE.cell (i := 2) rfl
              have e3 := qE.cell (i := 3) rfl
              refine bodyPost_ret (v := .tuple #[.agg #[.slice none 0 0, .slice none 0 0, .int .i64 0, .int .i64 0], .int .i64 5]) (by simp [results, Tryd.results11, go_sem, e0, e1, e2, e3]) rfl ⟨?_, ds, HTur.out, .inl ⟨HNO.out, rfl⟩⟩
              exact below_set4 hBx (by simp) _ _ _ _
          · have hno : ∀ z, z < us.length → wd us z ≠ andW (wd us k) (wd us t) := fun z hz he => hex1 ⟨z, hz, he⟩
            have HNO := hide (show NoNear us ∨ NoNear ds from .inl ⟨k, t, hlt, hlj, hno⟩)
            have hj1 := join_no a cap us k t n₀ hf hin hord hl16 hlt hlj hno wr hwr.1 (by omega)
            have hj2 : ∀ W, Below (w2.heap.size + 1) V W → w2.heap.size + 2 ≤ W.heap.size → Calls Tryd.prog 35 #[.agg #[.int .i64 us.length, .slice av us.length cv], .int .i64 k, .int .i64 t] W fun e w' => ∃ r : Int, e = .returned (.int .i64 r) ∧ Below W.heap.size W w' := fun W hW hsW => by
              have := join_any av cv ds k t w2.heap.size hfD (by omega) (by omega) (by omega) W (hju k t W hlt hlj hW).2 (by omega)
              rw [elD] at this
              exact this.mono (by rintro e w' ⟨r, rfl, hb, _⟩; exact ⟨r, rfl, hb⟩)
            clear hwr hno hex1
            go_wp2_with (first
              | (go_at_call 35; refine hj1.mono ?_; rintro e u1 ⟨rfl, hu1⟩; have hG1 := hG.step hu1; obtain ⟨x0, x1, xD, hsx, hBx⟩ := hsz1 hG1; have xD0 := xD.cell (i := 0) rfl; have xD1 := xD.cell (i := 1) rfl; have hj2' := hj2 u1 hG1.bel hsx; clear hj1 hj2 hsx hBx x0 x1)
              | (go_at_call 35; refine hj2'.mono ?_; rintro e u2 ⟨r, rfl, hu2⟩; have hG2 := hG1.step hu2; obtain ⟨x0, x1, xD, hsx, hBx⟩ := hsz1 hG2; have lx1 := x1.lt; have k0 := x1.cell (i := 0) rfl; have k1 := x1.cell (i := 1) rfl; have k2 := x1.cell (i := 2) rfl; have k3 := x1.cell (i := 3) rfl; have f0 := x1.frozen 0; have f1 := x1.frozen 1; have f2 := x1.frozen 2; have f3 := x1.frozen 3; clear hj2'))
            have qE := row_set4 x1 (.slice none 0 0) (.slice none 0 0) (.int .i64 0) (.int .i64 0)
            have e0 := qE.cell (i := 0) rfl
            have e1 := qE.cell (i := 1) rfl
            have e2 := qE.cell (i := 2) rfl
            have e3 := qE.cell (i := 3) rfl
            refine bodyPost_ret (v := .tuple #[.agg #[.slice none 0 0, .slice none 0 0, .int .i64 0, .int .i64 0], .int .i64 5]) (by simp [results, Tryd.results11, go_sem, e0, e1, e2, e3]) rfl ⟨?_, ds, HTur.out, .inl ⟨HNO.out, rfl⟩⟩
            exact below_set4 hBx (by simp) _ _ _ _
        · obtain rfl : t = us.length := by omega
          have e1 : k * us.length + us.length = (k + 1) * us.length := by rw [Nat.add_mul]; omega
          rw [e1] at hG hN1 hN2
          go_wp2
          exact ⟨⟨k + 1, aj, cj, am, cm, js, ms, by omega, by go_num, hG, hN1, hN2⟩, by simp [intOf]; omega⟩
    · obtain rfl : k = us.length := by omega
      have h256 : us.length * us.length ≤ 256 := Nat.mul_le_mul hl16 hl16
      have hjl : ∀ x y, x < us.length → y < us.length → at2 js us.length x y < us.length := fun x y hx hy => (hN1.at hx hy).1
      have hml : ∀ x y, x < us.length → y < us.length → at2 ms us.length x y < us.length := fun x y hx hy => by
        have h2 : NearTo ds ms (ds.length * ds.length) := by rw [elD]; exact hN2
        have := (h2.at (a := x) (b := y) (by omega) (by omega)).1
        rw [elD] at this
        exact this
      have hgj := gath_lt hjl hpos
      have hgm := gath_lt hml hpos
      have hlj := hN1.len
      have hlm := hN2.len
      have HN1 := hide hN1
      have HN2 := hide hN2
      have hpl : ∀ x y, x < us.length → y < us.length → x * us.length + y < us.length * us.length := fun x y hx hy => place_lt hx hy
      have hmi : ∀ x, x < us.length → IntKind.i64.wrap ((x : Int) * (us.length : Int)) = ((x * us.length : Nat) : Int) := fun x hx => mul_in hx hl16
      have hai : ∀ x y, x < us.length → y < us.length → IntKind.i64.wrap (((x * us.length : Nat) : Int) + (y : Int)) = ((x * us.length + y : Nat) : Int) := fun x y hx hy => add_in hx hy hl16
      have ha2 : ∀ (l : List Nat) x y, wd l (x * us.length + y) = at2 l us.length x y := fun l x y => rfl
      clear hN1 hN2 hjl hml
      generalize hnn : us.length * us.length = nn at *
      go_wp2
      go_loopw [11] (fun i wr => ∃ t : Nat, t ≤ us.length ∧ i = .int .i64 t ∧ Below (w2.heap.size + 1) V wr ∧ Row wr (w2.heap.size + 1) 30 [.slice aj nn cj, .slice am nn cm, .int .i64 (gath (at2 ms us.length) 0 t : Nat), .int .i64 (gath (at2 js us.length) 0 t : Nat)] ∧ wr.ownsRow (w2.heap.size + 1 + 1) 3 1 (.slice aj nn cj) nn (ivals js) ∧ wr.ownsRow (w2.heap.size + 1 + 1) 3 1 (.slice am nn cm) nn (ivals ms)) (fun i _ => us.length - (intOf i).toNat)
      case atStart => exact ⟨0, Nat.zero_le _, rfl, hG.bel, hG.row, hG.oj, hG.om⟩
      case round =>
        clear hG y0 y1 yD hsr hBr c00 hsz1
        obtain ⟨t, ht, rfl, hbt, rL, oj, om⟩ := hrel
        have y0 := row_below z0 hbt (by omega)
        have c00 := y0.cell (i := 0) rfl
        have l0 := rL.cell (i := 0) rfl
        have l1 := rL.cell (i := 1) rfl
        have l2 := rL.cell (i := 2) rfl
        have l3 := rL.cell (i := 3) rfl
        have f2 := rL.frozen 2
        have f3 := rL.frozen 3
        have ltL := rL.lt
        by_cases hlt' : t < us.length
        · have g1 := hgj t (by omega)
          have g2 := hgm t (by omega)
          have hm1 := hmi _ g1
          have hm2 := hmi _ g2
          have ha1 := hai _ t g1 hlt'
          have ha2' := hai _ t g2 hlt'
          have p1 := hpl _ t g1 hlt'
          have p2 := hpl _ t g2 hlt'
          obtain ⟨b1, o1, rfl, hb1, hc1⟩ := (ownsRow_ints oj).at (i := gath (at2 js us.length) 0 t * us.length + t) (by omega)
          obtain ⟨b2, o2, rfl, hb2, hc2⟩ := (ownsRow_ints om).at (i := gath (at2 ms us.length) 0 t * us.length + t) (by omega)
          have d1 := hc1 (gath (at2 js us.length) 0 t * us.length + t) (by omega)
          have d2 := hc2 (gath (at2 ms us.length) 0 t * us.length + t) (by omega)
          rw [ha2] at d1 d2
          have eb1 : b1 ≠ w2.heap.size + 1 := fun e => by have := own_block_ge oj (b := b1) rfl; omega
          have eb2 : b2 ≠ w2.heap.size + 1 := fun e => by have := own_block_ge om (b := b2) rfl; omega
          have E1 : at2 js us.length (gath (at2 js us.length) 0 t) t = gath (at2 js us.length) 0 (t + 1) := rfl
          have E2 : at2 ms us.length (gath (at2 ms us.length) 0 t) t = gath (at2 ms us.length) 0 (t + 1) := rfl
          rw [E1] at d1
          rw [E2] at d2
          generalize gath (at2 js us.length) 0 t = x1 at *
          generalize gath (at2 ms us.length) 0 t = x2 at *
          generalize hx3 : gath (at2 js us.length) 0 (t + 1) = x3 at *
          generalize hx4 : gath (at2 ms us.length) 0 (t + 1) = x4 at *
          have Hx3 := hide hx3
          have Hx4 := hide hx4
          generalize x1 * us.length = y1 at *
          generalize x2 * us.length = y2 at *
          clear hc1 hc2 E1 E2 hgj hgm hmi hai hpl ha2 hx3 hx4
          go_wp2
          exact ⟨⟨t + 1, by omega, by go_num, (hbt.setCell (p := ⟨w2.heap.size + 1, 2, none⟩) (Nat.le_refl _) _).setCell (p := ⟨w2.heap.size + 1, 3, none⟩) (Nat.le_refl _) _, by rw [Hx3.out, Hx4.out]; exact (rL.set 2 _).set 3 _, ownsRow_setAt (ownsRow_setAt oj (by omega) _ _) (by omega) _ _, ownsRow_setAt (ownsRow_setAt om (by omega) _ _) (by omega) _ _⟩, by simp [intOf]; omega⟩
        · obtain rfl : t = us.length := by omega
          have x1 := row_below z1 hbt (by omega)
          have lx1 := x1.lt
          have k0 := x1.cell (i := 0) rfl
          have k1 := x1.cell (i := 1) rfl
          have k2 := x1.cell (i := 2) rfl
          have k3 := x1.cell (i := 3) rfl
          have g0 := x1.frozen 0
          have g1 := x1.frozen 1
          have g2 := x1.frozen 2
          have g3 := x1.frozen 3
          go_wp2
          have qE := row_set4 x1 (.slice aj nn cj) (.slice am nn cm) (.int .i64 (gath (at2 ms us.length) 0 us.length : Nat)) (.int .i64 (gath (at2 js us.length) 0 us.length : Nat))
          have e0 := qE.cell (i := 0) rfl
          have e1 := qE.cell (i := 1) rfl
          have e2 := qE.cell (i := 2) rfl
          have e3 := qE.cell (i := 3) rfl
          refine bodyPost_ret (v := .tuple #[.agg #[.slice aj nn cj, .slice am nn cm, .int .i64 (gath (at2 ms us.length) 0 us.length : Nat), .int .i64 (gath (at2 js us.length) 0 us.length : Nat)], .int .i64 0]) (by simp [results, Tryd.results11, go_sem, e0, e1, e2, e3]) rfl ⟨?_, ds, HTur.out, .inr ⟨aj, cj, am, cm, js, ms, by rw [hnn], ?_, ?_, by rw [hnn]; exact HN1.out, by rw [hnn]; exact HN2.out⟩⟩
          · exact below_set4 (hB.trans (hbt.mono (by omega))) (by simp) _ _ _ _
          · exact ownsRow_ints (own_set4 oj (b := w.heap.size + 1) (by omega) _ _ _ _)
          · exact ownsRow_ints (own_set4 om (b := w.heap.size + 1) (by omega) _ _ _ _)
/-- the document's answer, told by whether it is a lattice -/
theorem RefMake_none (n : Int) (a : Option Addr) (cap : Nat) (us ds : List Nat) (n₀ : Nat) (hf : Fit us) (w : World) (hw : IsWords n₀ w a us) (hn₀ : n₀ ≤ w.heap.size) (hc : codeOf n us = 0) (hD : Tur us us.length [] ds) (hno : latB us ds = false) :
    Calls Tryd.prog 11 #[.agg #[.int .i64 n, .slice a us.length cap]] w fun e w' => e = latErr 5 ∧ Below w.heap.size w w' := by
  by_cases h0 : us.length = 0
  · refine RefMake_zero n a cap us n₀ hf w hw hn₀ hc ?_
    have := (code_zero hc).2.2.1
    rw [beq_iff_eq]; omega
  · have en := (code_zero hc).2.2.1.symm
    subst en
    refine (RefMake_main a cap us n₀ hf w hw hn₀ hc (by omega)).mono ?_
    rintro e w' ⟨hb, ds', hD', ⟨_, rfl⟩ | ⟨aj, cj, am, cm, js, ms, rfl, _, _, h1, h2⟩⟩
    · exact ⟨rfl, hb⟩
    · exfalso
      obtain rfl := hD.unique hD'
      have e2 : NearTo ds ms (ds.length * ds.length) := by rw [hD.len]; exact h2
      unfold latB at hno
      rw [decide_eq_false h0, nearB_true.2 h1.none, nearB_true.2 e2.none] at hno
      cases hno
theorem RefMake_ok (n : Int) (a : Option Addr) (cap : Nat) (us ds : List Nat) (n₀ : Nat) (hf : Fit us) (w : World) (hw : IsWords n₀ w a us) (hn₀ : n₀ ≤ w.heap.size) (hc : codeOf n us = 0) (hD : Tur us us.length [] ds) (hl : latB us ds = true) :
    Calls Tryd.prog 11 #[.agg #[.int .i64 n, .slice a us.length cap]] w fun e w' => ∃ aj cj am cm js ms, e = .returned (.tuple #[.agg #[.slice aj (us.length * us.length) cj, .slice am (us.length * us.length) cm, .int .i64 (gath (at2 ms us.length) 0 us.length : Nat), .int .i64 (gath (at2 js us.length) 0 us.length : Nat)], .int .i64 0]) ∧ Below w.heap.size w w' ∧ IsInts w'.heap.size w' aj js ∧ IsInts w'.heap.size w' am ms ∧ NearTo us js (us.length * us.length) ∧ NearTo ds ms (us.length * us.length) := by
  have hp : us.length ≠ 0 ∧ nearB us = true ∧ nearB ds = true := by unfold latB at hl; simpa [Bool.and_eq_true, and_assoc] using hl
  obtain ⟨h0, h1, h2⟩ := hp
  have en := (code_zero hc).2.2.1.symm
  subst en
  refine (RefMake_main a cap us n₀ hf w hw hn₀ hc (by omega)).mono ?_
  rintro e w' ⟨hb, ds', hD', ⟨hno, rfl⟩ | ⟨aj, cj, am, cm, js, ms, rfl, i1, i2, n1, n2⟩⟩
  · exfalso
    obtain rfl := hD.unique hD'
    rcases hno with h | h
    · exact nearB_true.1 h1 h
    · exact nearB_true.1 h2 h
  · obtain rfl := hD.unique hD'
    exact ⟨aj, cj, am, cm, js, ms, rfl, hb, i1, i2, n1, n2⟩
end Go.Proofs.YteoikfchmjnlfaaDoor
