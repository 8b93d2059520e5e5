/- The contracts of watershedkeep's open, or, and. -/
import Derived.Test.YtjbfjdijgfhjfaaDoorMake
import Derived.Test.YtjbfjdijgfhjfaaDoorSound
import Derived.Test.YtjbfjdijgfhjfaaDoorKeepWithin
namespace Go.Proofs.YtjbfjdijgfhjfaaDoor
open Go.RowKit Go.Shelf

theorem row_set7 {W : World} {B : Nat} {t : TypeId} {p0 p1 p2 p3 p4 p5 p6 : Value} (h : Row W B t [p0, p1, p2, p3, p4, p5, p6]) (v0 v1 v2 v3 v4 v5 v6 : Value) :
    Row (((((((W.setCell ⟨B, 0, none⟩ v0).setCell ⟨B, 1, none⟩ v1).setCell ⟨B, 2, none⟩ v2).setCell ⟨B, 3, none⟩ v3).setCell ⟨B, 4, none⟩ v4).setCell ⟨B, 5, none⟩ v5).setCell ⟨B, 6, none⟩ v6) B t [v0, v1, v2, v3, v4, v5, v6] :=
  ((((((h.set 0 v0).set 1 v1).set 2 v2).set 3 v3).set 4 v4).set 5 v5).set 6 v6
theorem below_set7 {n B : Nat} {w W : World} (h : Below n w W) (hB : n ≤ B) (v0 v1 v2 v3 v4 v5 v6 : Value) :
    Below n w (((((((W.setCell ⟨B, 0, none⟩ v0).setCell ⟨B, 1, none⟩ v1).setCell ⟨B, 2, none⟩ v2).setCell ⟨B, 3, none⟩ v3).setCell ⟨B, 4, none⟩ v4).setCell ⟨B, 5, none⟩ v5).setCell ⟨B, 6, none⟩ v6) :=
  (below_set6 h hB _ _ _ _ _ _).setCell (p := ⟨B, 6, none⟩) hB _
theorem own_set7 {W : World} {base : Nat} {e : TypeId} {size : Nat} {v : Value} {k : Nat} {xs : List Value} (h : W.ownsRow base e size v k xs) {b : Nat} (hb : b < base) (v0 v1 v2 v3 v4 v5 v6 : Value) :
    (((((((W.setCell ⟨b, 0, none⟩ v0).setCell ⟨b, 1, none⟩ v1).setCell ⟨b, 2, none⟩ v2).setCell ⟨b, 3, none⟩ v3).setCell ⟨b, 4, none⟩ v4).setCell ⟨b, 5, none⟩ v5).setCell ⟨b, 6, none⟩ v6).ownsRow base e size v k xs :=
  ownsRow_setAt (own_set6 h hb _ _ _ _ _ _) hb _ _

set_option maxRecDepth 100000 in
set_option maxHeartbeats 1000000 in
theorem open_err (n : Int) (a : Option Addr) (len cap : Nat) (c : Int) (hc : c ≠ 0) (w : World) (hm : ∀ W, Below w.heap.size w W → W.heap.size = w.heap.size + 2 → Calls Tryd.prog 17 #[.agg #[.int .i64 n, .slice a len cap]] W fun e w' => e = latErr c ∧ Below W.heap.size W w') :
    Calls Tryd.prog 6 #[.agg #[.int .i64 n, .slice a len cap]] w fun e w' => e = .returned (.tuple #[.agg #[.int .i64 n, .slice a len cap, .slice none 0 0, .slice none 0 0, .int .i64 0, .int .i64 0, .bool false], .bool false]) ∧ Below w.heap.size w w' := by
  obtain ⟨r0, r1, hb0, hs0⟩ := rows_two w 24 29 [.int .i64 n, .slice a len cap] [.int .i64 0, .slice none 0 0, .slice none 0 0, .slice none 0 0, .int .i64 0, .int .i64 0, .bool false] rfl
  have hma := hm _ hb0 hs0
  have hne : (c != 0) = true := by rw [bne_iff_ne]; exact hc
  have Hb := hide hb0
  clear hb0 hm hc
  unfold latErr at hma
  go_enter Tryd.func6, Tryd.ntmps6
  go_wp2_with (go_at_call 17; refine hma.mono ?_; rintro e w1 ⟨rfl, hb1⟩; have q0 := row_below r0 hb1 r0.lt; have lt0 := q0.lt; have j0 := q0.cell (i := 0) rfl; have j1 := q0.cell (i := 1) rfl; have q1 := row_below r1 hb1 r1.lt; have lt1 := q1.lt; have k0 := q1.cell (i := 0) rfl; have k1 := q1.cell (i := 1) rfl; have k2 := q1.cell (i := 2) rfl; have k3 := q1.cell (i := 3) rfl; have k4 := q1.cell (i := 4) rfl; have k5 := q1.cell (i := 5) rfl; have k6 := q1.cell (i := 6) rfl; have f0 := q1.frozen 0; have f1 := q1.frozen 1; have f2 := q1.frozen 2; have f3 := q1.frozen 3; have f4 := q1.frozen 4; have f5 := q1.frozen 5; have f6 := q1.frozen 6)
  have q2 := ((row_set7 q1 (.int .i64 n) (.slice a len cap) (.slice none 0 0) (.slice none 0 0) (.int .i64 0) (.int .i64 0) (.bool false)).alloc (.cells #[.slice none 0 0, .slice none 0 0, .int .i64 0, .int .i64 0] 27)).alloc (.cells #[.int .i64 n, .slice a len cap, .slice none 0 0, .slice none 0 0, .int .i64 0, .int .i64 0, .bool false] 29)
  have e0 := q2.cell (i := 0) rfl
  have e1 := q2.cell (i := 1) rfl
  have e2 := q2.cell (i := 2) rfl
  have e3 := q2.cell (i := 3) rfl
  have e4 := q2.cell (i := 4) rfl
  have e5 := q2.cell (i := 5) rfl
  have e6 := q2.cell (i := 6) rfl
  refine bodyPost_ret (v := .tuple #[.agg #[.int .i64 n, .slice a len cap, .slice none 0 0, .slice none 0 0, .int .i64 0, .int .i64 0, .bool false], .bool false]) (by simp [results, Tryd.results6, go_sem, e0, e1, e2, e3, e4, e5, e6]) rfl ⟨rfl, ?_⟩
  exact ((below_set7 (Hb.out.trans (hb1.mono (by simp; omega))) (by simp) _ _ _ _ _ _ _).alloc (by simp; omega) _).alloc (by simp; omega) _

set_option maxRecDepth 100000 in
set_option maxHeartbeats 2000000 in
theorem open_ok (n : Int) (a : Option Addr) (cap : Nat) (us ds : List Nat) (n₀ : Nat) (hf : Fit us) (w : World) (hT : TabAt w) (hw : IsWords n₀ w a us) (hg : 0 < n₀) (hn₀ : n₀ ≤ w.heap.size) (hc : codeOf n us = 0) (hD : Tur us us.length [] ds) (hl : latB us ds = true) :
    Calls Tryd.prog 6 #[.agg #[.int .i64 n, .slice a us.length cap]] w fun e w' => ∃ aj cj am cm js ms, e = .returned (.tuple #[.agg #[.int .i64 us.length, .slice a us.length cap, .slice aj (us.length * us.length) cj, .slice am (us.length * us.length) cm, .int .i64 (gath (at2 ms us.length) 0 us.length : Nat), .int .i64 (gath (at2 js us.length) 0 us.length : Nat), .bool false], .bool true]) ∧ Below w.heap.size w w' ∧ IsInts w'.heap.size w' aj js ∧ IsInts w'.heap.size w' am ms ∧ NearTo us js (us.length * us.length) ∧ NearTo ds ms (us.length * us.length) := by
  obtain ⟨h0, h16, hlen, hin, hord⟩ := code_zero hc
  have en := hlen.symm
  subst en
  obtain ⟨r0, r1, hb0, hs0⟩ := rows_two w 24 29 [.int .i64 us.length, .slice a us.length cap] [.int .i64 0, .slice none 0 0, .slice none 0 0, .slice none 0 0, .int .i64 0, .int .i64 0, .bool false] rfl
  have hma := Make_ok us.length a cap us ds n₀ hf _ (hT.below hb0 (by omega)) (hw.below (hb0.mono hn₀)) hg (by omega) hc hD hl
  have hl16 : us.length ≤ 16 := by omega
  have hpos : 0 < us.length := Nat.pos_of_ne_zero (latB_parts hl).1
  have hmul : IntKind.i64.wrap ((us.length : Int) * (us.length : Int)) = ((us.length * us.length : Nat) : Int) := by
    have h : us.length * us.length ≤ 16 * 16 := Nat.mul_le_mul hl16 hl16
    rw [← Int.natCast_mul]; exact IntWalk.i64_in _ (by omega)
  have h256 : us.length * us.length ≤ 256 := Nat.mul_le_mul hl16 hl16
  have hso : ∀ W, Below w.heap.size w W → Calls Tryd.prog 14 #[.agg #[.int .i64 us.length, .slice a us.length cap]] W fun e w' => e = .returned (.bool true) ∧ Below W.heap.size W w' := fun W hW =>
    (sound_any us.length a cap us n₀ hf W (hw.below (hW.mono hn₀)) (by have := hW.size; omega)).mono (by
      rintro e w' ⟨rfl, hb⟩
      rw [hc]
      exact ⟨rfl, hb⟩)
  have hL : ∀ js ms, NearTo us js (us.length * us.length) → NearTo ds ms (us.length * us.length) → Lat us.length (leW us) (at2 js us.length) (at2 ms us.length) (gath (at2 ms us.length) 0 us.length) (gath (at2 js us.length) 0 us.length) := fun js ms h1 h2 => lat_pre hord hD h1 h2 hpos
  have hlD := hD.len
  have Hb := hide hb0
  have hnn : (((us.length * us.length : Nat) : Int) != ((us.length * us.length : Nat) : Int)) = false := by simp
  clear hb0 hc hD hl hord hlen h0 hin
  generalize hqq : us.length * us.length = qq at *
  go_enter Tryd.func6, Tryd.ntmps6
  go_wp2_with (first
    | (go_at_call 17; refine hma.mono ?_; rintro e w1 ⟨aj, cj, am, cm, js, ms, rfl, hb1, o1, o2, hN1, hN2⟩; have L := hL js ms hN1 hN2; have HLat := hide L; have hbt := L.blt; have htp := L.tlt; have HN1 := hide hN1; have HN2 := hide hN2; clear hL hN1 hN2 L; generalize hgb : gath (at2 ms us.length) 0 us.length = bt at *; generalize hgt : gath (at2 js us.length) 0 us.length = tp at *; have Hgb := hide hgb; have Hgt := hide hgt; clear hgb hgt; have hs1 := hb1.size; have q0 := row_below r0 hb1 r0.lt; have lt0 := q0.lt; have j0 := q0.cell (i := 0) rfl; have j1 := q0.cell (i := 1) rfl; have q1 := row_below r1 hb1 r1.lt; have lt1 := q1.lt; have hsw := hso ((w1.alloc (.cells #[.slice aj qq cj, .slice am qq cm, .int .i64 bt, .int .i64 tp] 27)).alloc (.cells #[.int .i64 us.length, .slice a us.length cap, .slice aj qq cj, .slice am qq cm, .int .i64 bt, .int .i64 tp, .bool false] 29)) (((Hb.out.trans (hb1.mono (by omega))).alloc (by omega) _).alloc (by simp; omega) _))
    | (go_at_call 14; refine hsw.mono ?_; rintro e w2 ⟨rfl, hb2⟩; obtain ⟨rA, rB, hbA, hsA⟩ := rows_two w1 27 29 [.slice aj qq cj, .slice am qq cm, .int .i64 bt, .int .i64 tp] [.int .i64 us.length, .slice a us.length cap, .slice aj qq cj, .slice am qq cm, .int .i64 bt, .int .i64 tp, .bool false] rfl; have hs2 := hb2.size; have p0 := row_below (row_below q0 hbA lt0) hb2 (by omega); have p1 := row_below (row_below q1 hbA lt1) hb2 (by omega); have pA := row_below rA hb2 rA.lt; have pB := row_below rB hb2 rB.lt; have i0 := p0.cell (i := 0) rfl; have i1 := p0.cell (i := 1) rfl; have a0 := pA.cell (i := 0) rfl; have a1 := pA.cell (i := 1) rfl; have a2 := pA.cell (i := 2) rfl; have a3 := pA.cell (i := 3) rfl; have b0 := pB.cell (i := 0) rfl; have b1 := pB.cell (i := 1) rfl; have b2 := pB.cell (i := 2) rfl; have b3 := pB.cell (i := 3) rfl; have b4 := pB.cell (i := 4) rfl; have b5 := pB.cell (i := 5) rfl; have b6 := pB.cell (i := 6) rfl; have fB := pB.frozen 6; have d0 := p1.cell (i := 0) rfl; have d1 := p1.cell (i := 1) rfl; have d2 := p1.cell (i := 2) rfl; have d3 := p1.cell (i := 3) rfl; have d4 := p1.cell (i := 4) rfl; have d5 := p1.cell (i := 5) rfl; have d6 := p1.cell (i := 6) rfl; have f0 := p1.frozen 0; have f1 := p1.frozen 1; have f2 := p1.frozen 2; have f3 := p1.frozen 3; have f4 := p1.frozen 4; have f5 := p1.frozen 5; have f6 := p1.frozen 6; have lB := pB.lt; have l1 := p1.lt; have l0 := p0.lt; have lA := pA.lt; have hbn : Below w2.heap.size w2 (w2.alloc (.cells #[.int .i64 (bt : Nat), .int .i64 (tp : Nat)] 3)) := (Below.refl _ _).alloc (Nat.le_refl _) _; have hB12 : Below w1.heap.size w1 w2 := hbA.trans (hb2.mono (by omega)); have x1 := ((ownsRow_ints (ownsRow_below o1 hB12)).below hbn); have x2 := ((ownsRow_ints (ownsRow_below o2 hB12)).below hbn); have e1 := HN1.out.len; have e2 := HN2.out.len; have hjl : ∀ i, i < js.length → wd js i < us.length := fun i hi => (HN1.out.near i (by omega)).1; have hml : ∀ i, i < ms.length → wd ms i < us.length := fun i hi => by { have := (HN2.out.near i (by omega)).1; omega }; have t1 := kwithin_true us.length (some ⟨w2.heap.size, 0, none⟩) 2 [bt, tp] (w2.heap.size + 1) (by simp) (fun i hi => by { match i, hi with | 0, _ => exact hbt | 1, _ => exact htp }) (w2.alloc (.cells #[.int .i64 (bt : Nat), .int .i64 (tp : Nat)] 3)) (Row.ints (Row.new w2 3 (ivals [bt, tp])) (by omega)); have t2 := kwithin_true us.length aj cj js w2.heap.size (by omega) hjl (w2.alloc (.cells #[.int .i64 (bt : Nat), .int .i64 (tp : Nat)] 3)) x1; have t3 := kwithin_true us.length am cm ms w2.heap.size (by omega) hml (w2.alloc (.cells #[.int .i64 (bt : Nat), .int .i64 (tp : Nat)] 3)) x2; rw [e1] at t2; rw [e2] at t3; clear hjl hml)
    | (go_at_call 7; refine t1.mono ?_; rintro e w3 ⟨rfl, hww⟩; rw [hww]; clear hww w3 t1)
    | (go_at_call 7; refine t2.mono ?_; rintro e w3 ⟨rfl, hww⟩; rw [hww]; clear hww w3 t2)
    | (go_at_call 7; refine t3.mono ?_; rintro e w3 ⟨rfl, hww⟩; rw [hww]; clear hww w3 t3))
  have p1' := p1.other (show w.heap.size + 1 ≠ w1.heap.size + 1 by omega) 6 (.bool false)
  have q2 := (row_set7 p1' (.int .i64 us.length) (.slice a us.length cap) (.slice aj qq cj) (.slice am qq cm) (.int .i64 (bt : Nat)) (.int .i64 (tp : Nat)) (.bool false)).alloc (.cells #[.int .i64 (bt : Nat), .int .i64 (tp : Nat)] 3)
  have e0 := q2.cell (i := 0) rfl
  have e1 := q2.cell (i := 1) rfl
  have e2 := q2.cell (i := 2) rfl
  have e3 := q2.cell (i := 3) rfl
  have e4 := q2.cell (i := 4) rfl
  have e5 := q2.cell (i := 5) rfl
  have e6 := q2.cell (i := 6) rfl
  have hBw : Below w.heap.size w w2 := (Hb.out.trans (hb1.mono (by omega))).trans (hB12.mono (by omega))
  have oo1 := ownsRow_other (ownsRow_below o1 hB12) pB (by decide) 6 (.bool false)
  have oo2 := ownsRow_other (ownsRow_below o2 hB12) pB (by decide) 6 (.bool false)
  refine bodyPost_ret (v := .tuple #[.agg #[.int .i64 us.length, .slice a us.length cap, .slice aj qq cj, .slice am qq cm, .int .i64 (bt : Nat), .int .i64 (tp : Nat), .bool false], .bool true]) (by simp [results, Tryd.results6, go_sem, e0, e1, e2, e3, e4, e5, e6]) rfl ⟨aj, cj, am, cm, js, ms, by rw [Hgb.out, Hgt.out], ?_, ?_, ?_, HN1.out, HN2.out⟩
  · exact (below_set7 (hBw.setCell (p := ⟨w1.heap.size + 1, 6, none⟩) (by simp; omega) _) (by simp) _ _ _ _ _ _ _).alloc (by simp; omega) _
  · exact ownsRow_ints ((own_set7 oo1 (b := w.heap.size + 1) (by omega) _ _ _ _ _ _ _).alloc _)
  · exact ownsRow_ints ((own_set7 oo2 (b := w.heap.size + 1) (by omega) _ _ _ _ _ _ _).alloc _)

set_option maxRecDepth 100000 in
set_option maxHeartbeats 1000000 in
theorem bor_any (n : Nat) (a : Option Addr) (cap : Nat) (aj : Option Addr) (cj : Nat) (am : Option Addr) (cm : Nat) (bt tp : Int) (wr : Bool) (js : List Nat) (x y n₀ : Nat) (hn : n ≤ 16) (hx : x < n) (hy : y < n) (hl : js.length = n * n) (w : World) (hw : IsInts n₀ w aj js) (hn₀ : n₀ ≤ w.heap.size) :
    Calls Tryd.prog 9 #[.agg #[.int .i64 n, .slice a n cap, .slice aj (n * n) cj, .slice am (n * n) cm, .int .i64 bt, .int .i64 tp, .bool wr], .int .i64 x, .int .i64 y] w fun e w' => e = .returned (.int .i64 (at2 js n x y : Nat)) ∧ Below w.heap.size w w' := by
  have hpl := place_lt hx hy
  obtain ⟨b, off, rfl, hb, hc⟩ := hw.at (show x * n + y < js.length by rw [hl]; exact hpl)
  have hcx := hc (x * n + y) (by rw [hl]; exact hpl)
  have hbw : b < w.heap.size := by omega
  have hm := mul_in hx hn
  have ha := add_in hx hy hn
  have h256 : n * n ≤ 256 := Nat.mul_le_mul hn hn
  have hpi : ((x * n + y : Nat) : Int) < ((n * n : Nat) : Int) := by omega
  generalize hnn : n * n = nn at *
  generalize hxx : x * n = xx at *
  have e2 : at2 js n x y = wd js (xx + y) := by unfold at2; rw [hxx]
  rw [e2]
  clear hc hl e2 hnn hxx
  go_enter Tryd.func9, Tryd.ntmps9
  go_wp2
  go_ret
  exact ⟨rfl, (Below.refl _ _).alloc (Nat.le_refl _) _⟩
end Go.Proofs.YtjbfjdijgfhjfaaDoor
