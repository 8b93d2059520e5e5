/- The walk of the law LatticeBounds: it answers true, and writes nothing that was there. -/
import Derived.Test.YtbdigkjahfdmjabDoorKeepRe
namespace Go.Proofs.YtbdigkjahfdmjabDoor
open Go.RowKit Go.Shelf

set_option maxRecDepth 100000 in
set_option maxHeartbeats 1000000 in
theorem bounds_err (n : Int) (a : Option Addr) (len cap : Nat) (x y z : Int) (w : World) (ho : ∀ W, Below w.heap.size w W → Calls Tryd.prog 15 #[.agg #[.int .i64 n, .slice a len cap]] W fun e w' => e = .returned (.tuple #[.agg #[.int .i64 n, .slice a len cap, .slice none 0 0, .slice none 0 0, .int .i64 0, .int .i64 0, .bool false], .bool false]) ∧ Below W.heap.size W w') :
    Calls Tryd.prog 6 #[.agg #[.int .i64 n, .slice a len cap], .int .i64 x, .int .i64 y, .int .i64 z] w fun e w' => e = .returned (.bool true) ∧ Below w.heap.size w w' := by
  obtain ⟨r0, hb0, hs0⟩ := one_row w 24 (.int .i64 n) (.slice a len cap) rfl
  have h1 := ho _ hb0
  clear ho
  go_enter Tryd.func6, Tryd.ntmps6
  go_wp2_with (go_at_call 15; refine h1.mono ?_; rintro e w1 ⟨rfl, hb1⟩)
  go_ret
  exact ⟨rfl, (hb0.trans (hb1.mono (by omega))).alloc (by have := hb1.size; omega) _⟩

set_option maxRecDepth 100000 in
set_option maxHeartbeats 1000000 in
theorem bounds_out (n : Int) (a : Option Addr) (cap : Nat) (us ds : List Nat) (x y z : Int) (n₀ : Nat) (hf : Fit us) (w : World) (hT : TabAt w) (hw : IsWords n₀ w a us) (hg : 0 < n₀) (hn₀ : n₀ ≤ w.heap.size) (hc : codeOf n us = 0) (hD : Tur us us.length [] ds) (hl : latB us ds = true) (hin : allInB us.length [x, y, z] = false) :
    Calls Tryd.prog 6 #[.agg #[.int .i64 n, .slice a us.length cap], .int .i64 x, .int .i64 y, .int .i64 z] w fun e w' => e = .returned (.bool true) ∧ Below w.heap.size w w' := by
  have en := (code_zero hc).2.2.1.symm
  subst en
  obtain ⟨r0, hb0, hs0⟩ := one_row w 24 (.int .i64 us.length) (.slice a us.length cap) rfl
  have h1 := open_ok us.length a cap us ds n₀ hf _ (hT.below hb0 (by omega)) (hw.below (hb0.mono hn₀)) hg (by simp; omega) hc hD hl
  clear hc hl hD
  generalize us.length * us.length = qq at *
  go_enter Tryd.func6, Tryd.ntmps6
  go_wp2_with (first
    | (go_at_call 15; refine h1.mono ?_; rintro e w1 ⟨aj, cj, am, cm, js, ms, rfl, hb1, i1, i2, n1, n2⟩; generalize gath (at2 ms us.length) 0 us.length = bt at *; generalize gath (at2 js us.length) 0 us.length = tp at *; have hs1 := hb1.size; have q0 := row_below r0 hb1 r0.lt; have lt0 := q0.lt; have j0 := q0.cell (i := 0) rfl; have h2 := kwithin_z us.length (some ⟨w1.heap.size + 1, 0, none⟩) 3 [x, y, z] (w1.heap.size + 1 + 1) (by simp) ((w1.alloc (.cells #[.int .i64 us.length, .slice a us.length cap, .slice aj qq cj, .slice am qq cm, .int .i64 (bt : Nat), .int .i64 (tp : Nat), .bool false] 43)).alloc (.cells #[.int .i64 x, .int .i64 y, .int .i64 z] 3)) (by have := zints3 (w1.alloc (.cells #[.int .i64 us.length, .slice a us.length cap, .slice aj qq cj, .slice am qq cm, .int .i64 (bt : Nat), .int .i64 (tp : Nat), .bool false] 43)) 3 x y z; rw [World.size_alloc] at this; exact this); rw [hin] at h2)
    | (go_at_call 16; refine h2.mono ?_; rintro e w2 ⟨rfl, hww⟩; rw [hww]; clear hww w2))
  go_ret
  exact ⟨rfl, ((hb0.trans (hb1.mono (by omega))).alloc (by omega) _).alloc (by simp; omega) _⟩

set_option maxRecDepth 100000 in
set_option maxHeartbeats 4000000 in
theorem bounds_in (a : Option Addr) (cap : Nat) (us ds : List Nat) (x y z : Nat) (n₀ : Nat) (hf : Fit us) (w : World) (hT : TabAt w) (hw : IsWords n₀ w a us) (hg : 0 < n₀) (hn₀ : n₀ ≤ w.heap.size) (hc : codeOf us.length us = 0) (hD : Tur us us.length [] ds) (hl : latB us ds = true) (hx : x < us.length) (hy : y < us.length) (hz : z < us.length) :
    Calls Tryd.prog 6 #[.agg #[.int .i64 us.length, .slice a us.length cap], .int .i64 x, .int .i64 y, .int .i64 z] w fun e w' => e = .returned (.bool true) ∧ Below w.heap.size w w' := by
  have hord := (code_zero hc).2.2.2.2
  have hl16 : us.length ≤ 16 := by have := code_zero hc; omega
  have hpos : 0 < us.length := by omega
  obtain ⟨r0, hb0, hs0⟩ := one_row w 24 (.int .i64 us.length) (.slice a us.length cap) rfl
  have h1 := open_ok us.length a cap us ds n₀ hf _ (hT.below hb0 (by omega)) (hw.below (hb0.mono hn₀)) hg (by simp; omega) hc hD hl
  have hin : allInB us.length [(x : Int), (y : Int), (z : Int)] = true := allInB_true.2 (allIn3.2 ⟨by omega, by omega, by omega⟩)
  have hL : ∀ js ms, NearTo us js (us.length * us.length) → NearTo ds ms (us.length * us.length) → Lat us.length (leW us) (at2 js us.length) (at2 ms us.length) (gath (at2 ms us.length) 0 us.length) (gath (at2 js us.length) 0 us.length) := fun js ms h1 h2 => lat_pre hord hD h1 h2 hpos
  clear hc hl hD hord
  go_enter Tryd.func6, Tryd.ntmps6
  go_wp2_with (first
    | (go_at_call 15; refine h1.mono ?_; rintro e w1 ⟨aj, cj, am, cm, js, ms, rfl, hb1, i1, i2, n1, n2⟩; have L := hL js ms n1 n2; have HL := hide L; have hlj := n1.len; have hlm := n2.len; clear hL L n1 n2; generalize gath (at2 ms us.length) 0 us.length = bt at *; generalize gath (at2 js us.length) 0 us.length = tp at *; have hs1 := hb1.size; have q0 := row_below r0 hb1 r0.lt; have lt0 := q0.lt; have j0 := q0.cell (i := 0) rfl; have j1 := q0.cell (i := 1) rfl; have h2 := kwithin_z us.length (some ⟨w1.heap.size + 1, 0, none⟩) 3 [(x : Int), (y : Int), (z : Int)] (w1.heap.size + 1 + 1) (by simp) ((w1.alloc (.cells #[.int .i64 us.length, .slice a us.length cap, .slice aj (us.length * us.length) cj, .slice am (us.length * us.length) cm, .int .i64 (bt : Nat), .int .i64 (tp : Nat), .bool false] 43)).alloc (.cells #[.int .i64 x, .int .i64 y, .int .i64 z] 3)) (by have := zints3 (w1.alloc (.cells #[.int .i64 us.length, .slice a us.length cap, .slice aj (us.length * us.length) cj, .slice am (us.length * us.length) cm, .int .i64 (bt : Nat), .int .i64 (tp : Nat), .bool false] 43)) 3 x y z; rw [World.size_alloc] at this; exact this); rw [hin] at h2)
    | (go_at_call 16; refine h2.mono ?_; rintro e w2 ⟨rfl, hww⟩; rw [hww]; clear hww w2))
  obtain ⟨wB, hwB⟩ : ∃ wB, wB = ((w1.alloc (.cells #[.int .i64 us.length, .slice a us.length cap, .slice aj (us.length * us.length) cj, .slice am (us.length * us.length) cm, .int .i64 (bt : Nat), .int .i64 (tp : Nat), .bool false] 43)).alloc (.cells #[.int .i64 x, .int .i64 y, .int .i64 z] 3)) := ⟨_, rfl⟩
  rw [← hwB]
  obtain ⟨rB, rX, hbB, hsB⟩ := rows_two w1 43 3 [.int .i64 us.length, .slice a us.length cap, .slice aj (us.length * us.length) cj, .slice am (us.length * us.length) cm, .int .i64 (bt : Nat), .int .i64 (tp : Nat), .bool false] [.int .i64 x, .int .i64 y, .int .i64 z] hwB.symm
  have hBw : Below w.heap.size w wB := (hb0.trans (hb1.mono (by omega))).trans (hbB.mono (by omega))
  have I1 := (i1.below hbB).mono (show w1.heap.size ≤ wB.heap.size by omega)
  have I2 := (i2.below hbB).mono (show w1.heap.size ≤ wB.heap.size by omega)
  have cor := bor_re us.length a cap aj cj am cm (bt : Nat) (tp : Nat) js wB hl16 hlj I1
  have cand := band_re us.length a cap aj cj am cm (bt : Nat) (tp : Nat) ms wB hl16 hlm I2
  have L := HL.out
  have hJ := L.jlt hx hy
  have hM := L.mlt hx hy
  have hbt := L.blt
  have htp := L.tlt
  have wwB : IsWords n₀ wB a us := hw.below (hBw.mono hn₀)
  have hnB : n₀ ≤ wB.heap.size := by have := hBw.size; omega
  have cbel := kbelow_re us.length a cap us n₀ wB hf hl16 wwB hnB
  obtain ⟨J, eJ⟩ : ∃ r, at2 js us.length x y = r := ⟨_, rfl⟩
  obtain ⟨M, eM⟩ : ∃ r, at2 ms us.length x y = r := ⟨_, rfl⟩
  have f1 := L.le_j hx hy
  have f2 := L.le_m hx hy
  have f3 := L.jle hx hy hz
  have f4 := L.lem hx hy hz
  rw [eJ] at hJ f1 f3
  rw [eM] at hM f2 f4
  obtain ⟨bxy, exy⟩ : ∃ r, hasB (wd us x) y = r := ⟨_, rfl⟩
  have q1 : ((J : Int) == (y : Int)) = bxy := by
    rw [← exy]
    cases h : hasB (wd us x) y with
    | true => rw [beq_iff_eq]; exact congrArg _ (f1.1 h)
    | false => rw [beq_eq_false_iff_ne]; intro e; have := f1.2 (Int.ofNat.inj e); unfold leW at this; rw [this] at h; cases h
  have q2 : ((M : Int) == (x : Int)) = bxy := by
    rw [← exy]
    cases h : hasB (wd us x) y with
    | true => rw [beq_iff_eq]; exact congrArg _ (f2.1 h)
    | false => rw [beq_eq_false_iff_ne]; intro e; have := f2.2 (Int.ofNat.inj e); unfold leW at this; rw [this] at h; cases h
  have q3 : (bxy != bxy) = false := by simp
  have E3 : hasB (wd us J) z = (hasB (wd us x) z && hasB (wd us y) z) := by
    cases h : hasB (wd us J) z with
    | true => obtain ⟨g1, g2⟩ := f3.1 h; unfold leW at g1 g2; rw [g1, g2]; rfl
    | false =>
      cases g1 : hasB (wd us x) z with
      | false => rfl
      | true =>
        cases g2 : hasB (wd us y) z with
        | false => rfl
        | true => have := f3.2 ⟨g1, g2⟩; unfold leW at this; rw [this] at h; cases h
  have E4 : hasB (wd us z) M = (hasB (wd us z) x && hasB (wd us z) y) := by
    cases h : hasB (wd us z) M with
    | true => obtain ⟨g1, g2⟩ := f4.1 h; unfold leW at g1 g2; rw [g1, g2]; rfl
    | false =>
      cases g1 : hasB (wd us z) x with
      | false => rfl
      | true =>
        cases g2 : hasB (wd us z) y with
        | false => rfl
        | true => have := f4.2 ⟨g1, g2⟩; unfold leW at this; rw [this] at h; cases h
  have EXY := hide exy
  have EJ := hide eJ
  have EM := hide eM
  have e3 := hide E3
  have e4 := hide E4
  have EB := hide (show hasB (wd us bt) x = true from L.ble hx)
  have ET := hide (show hasB (wd us x) tp = true from L.let_ hx)
  clear f1 f2 f3 f4 exy eJ eM E3 E4
  have q0B := row_below (row_below r0 hb1 r0.lt) hbB lt0
  have hs0w : w.heap.size < w1.heap.size := by omega
  clear hwB hb1 hbB i1 i2 hs1 q0 lt0 j0 j1 h2 h1 r0 hb0 hs0 rX hin HL L
  have pbel : ∀ (i j : Nat) (r : Bool) (W : World), i < us.length → j < us.length → hasB (wd us i) j = r → Below wB.heap.size wB W → Calls Tryd.prog 19 #[.agg #[.int .i64 us.length, .slice a us.length cap], .int .i64 i, .int .i64 j] W fun e w' => e = .returned (.bool r) ∧ Below wB.heap.size wB w' ∧ Row w' w.heap.size 24 [.int .i64 us.length, .slice a us.length cap] ∧ Row w' w1.heap.size 43 [.int .i64 us.length, .slice a us.length cap, .slice aj (us.length * us.length) cj, .slice am (us.length * us.length) cm, .int .i64 (bt : Nat), .int .i64 (tp : Nat), .bool false] := fun i j r W hi hj hr hW =>
    (kbelow_any us.length a cap us i j n₀ hf hi (by omega) W (wwB.below (hW.mono hnB)) (by have := hW.size; omega)).mono (by
      rintro e w' ⟨rfl, hb⟩
      have hB' : Below wB.heap.size wB w' := hW.trans (hb.mono hW.size)
      exact ⟨by rw [hr], hB', row_below q0B hB' q0B.lt, row_below rB hB' rB.lt⟩)
  have por : ∀ (W : World), Below wB.heap.size wB W → Calls Tryd.prog 17 #[.agg #[.int .i64 us.length, .slice a us.length cap, .slice aj (us.length * us.length) cj, .slice am (us.length * us.length) cm, .int .i64 (bt : Nat), .int .i64 (tp : Nat), .bool false], .int .i64 x, .int .i64 y] W fun e w' => e = .returned (.int .i64 (J : Nat)) ∧ Below wB.heap.size wB w' ∧ Row w' w.heap.size 24 [.int .i64 us.length, .slice a us.length cap] ∧ Row w' w1.heap.size 43 [.int .i64 us.length, .slice a us.length cap, .slice aj (us.length * us.length) cj, .slice am (us.length * us.length) cm, .int .i64 (bt : Nat), .int .i64 (tp : Nat), .bool false] := fun W hW =>
    (bor_any us.length a cap aj cj am cm (bt : Nat) (tp : Nat) false js x y wB.heap.size hl16 hx hy hlj W (I1.below hW) hW.size).mono (by
      rintro e w' ⟨rfl, hb⟩
      have hB' : Below wB.heap.size wB w' := hW.trans (hb.mono hW.size)
      exact ⟨by rw [EJ.out], hB', row_below q0B hB' q0B.lt, row_below rB hB' rB.lt⟩)
  have pand : ∀ (W : World), Below wB.heap.size wB W → Calls Tryd.prog 18 #[.agg #[.int .i64 us.length, .slice a us.length cap, .slice aj (us.length * us.length) cj, .slice am (us.length * us.length) cm, .int .i64 (bt : Nat), .int .i64 (tp : Nat), .bool false], .int .i64 x, .int .i64 y] W fun e w' => e = .returned (.int .i64 (M : Nat)) ∧ Below wB.heap.size wB w' ∧ Row w' w.heap.size 24 [.int .i64 us.length, .slice a us.length cap] ∧ Row w' w1.heap.size 43 [.int .i64 us.length, .slice a us.length cap, .slice aj (us.length * us.length) cj, .slice am (us.length * us.length) cm, .int .i64 (bt : Nat), .int .i64 (tp : Nat), .bool false] := fun W hW =>
    (band_any us.length a cap aj cj am cm (bt : Nat) (tp : Nat) false ms x y wB.heap.size hl16 hx hy hlm W (I2.below hW) hW.size).mono (by
      rintro e w' ⟨rfl, hb⟩
      have hB' : Below wB.heap.size wB w' := hW.trans (hb.mono hW.size)
      exact ⟨by rw [EM.out], hB', row_below q0B hB' q0B.lt, row_below rB hB' rB.lt⟩)
  refine (pbel x y bxy wB hx hy EXY.out (Below.refl _ _)).mono ?_
  rintro e w2 ⟨rfl, hB2, o2, b2⟩
  have p3 := por w2 hB2
  have x0 := o2.cell (i := 0) rfl
  have x1 := o2.cell (i := 1) rfl
  have y0 := b2.cell (i := 0) rfl; have y1 := b2.cell (i := 1) rfl; have y2 := b2.cell (i := 2) rfl; have y3 := b2.cell (i := 3) rfl; have y4 := b2.cell (i := 4) rfl; have y5 := b2.cell (i := 5) rfl; have y6 := b2.cell (i := 6) rfl
  go_wp2_with (first
    | (go_at_call 17; refine p3.mono ?_; rintro e w3 ⟨rfl, hB3, o3, b3⟩; clear p3; have p4 := pand w3 hB3; have y0 := b3.cell (i := 0) rfl; have y1 := b3.cell (i := 1) rfl; have y2 := b3.cell (i := 2) rfl; have y3 := b3.cell (i := 3) rfl; have y4 := b3.cell (i := 4) rfl; have y5 := b3.cell (i := 5) rfl; have y6 := b3.cell (i := 6) rfl)
    | (go_at_call 18; refine p4.mono ?_; rintro e w4 ⟨rfl, hB4, o4, b4⟩; clear p4; have p5 := pbel bt x true w4 hbt hx EB.out hB4; have y4 := b4.cell (i := 4) rfl; have x0 := o4.cell (i := 0) rfl; have x1 := o4.cell (i := 1) rfl)
    | (go_at_call 19; refine p5.mono ?_; rintro e w5 ⟨rfl, hB5, o5, b5⟩; clear p5; have p6 := pbel x tp true w5 hx htp ET.out hB5; have y5 := b5.cell (i := 5) rfl; have x0 := o5.cell (i := 0) rfl; have x1 := o5.cell (i := 1) rfl)
    | (go_at_call 19; refine p6.mono ?_; rintro e w6 ⟨rfl, hB6, o6, b6⟩; clear p6))
  have hsB := hB6.size
  have u0 := cell_regrown (b6.cell (i := 0) rfl)
  have u1 := cell_regrown (b6.cell (i := 1) rfl)
  have u2 := cell_regrown (b6.cell (i := 2) rfl)
  have u3 := cell_regrown (b6.cell (i := 3) rfl)
  have u4 := cell_regrown (b6.cell (i := 4) rfl)
  have u5 := cell_regrown (b6.cell (i := 5) rfl)
  have u6 := cell_regrown (b6.cell (i := 6) rfl)
  have v0 := cell_regrown (o6.cell (i := 0) rfl)
  have v1 := cell_regrown (o6.cell (i := 1) rfl)
  clear pbel por pand x0 x1 y0 y1 y2 y3 y4 y5 y6 q1 q2 q3 o2 b2 o3 b3 o4 b4 o5 b5 hB2 hB3 hB4 hB5
  cases hxz' : hasB (wd us x) z with
  | false =>
    have hxz := hide hxz'
    clear hxz'
    cases hzx' : hasB (wd us z) x with
    | false =>
      have hzx := hide hzx'
      clear hzx'
      have c1 := cor w6 hB6 x y J hx hy EJ.out
      have c2 := cbel w6 hB6 J z false hJ hz (by rw [e3.out, hxz.out]; rfl)
      have c3 := cbel w6 hB6 x z false hx hz hxz.out
      have c5 := cand w6 hB6 x y M hx hy EM.out
      have c6 := cbel w6 hB6 z M false hz hM (by rw [e4.out, hzx.out]; rfl)
      have c7 := cbel w6 hB6 z x false hz hx hzx.out
      clear cor cand cbel
      refine wp_region_quiet_below (by kernel_rfl) (by kernel_rfl) ?_
      repeat (go_big_quiet_step (first | with_reducible exact c1 _ _ | with_reducible exact c2 _ _ | with_reducible exact c3 _ _ | with_reducible exact c5 _ _ | with_reducible exact c6 _ _ | with_reducible exact c7 _ _))
      refine wpQuiet_nil ?_
      intro _ hw'
      obtain ⟨⟨dq, osq⟩, hw''⟩ := hw'
      subst hw''
      go_wp2
      go_ret
      exact ⟨rfl, (hBw.trans (hB6.mono hBw.size)).trans ((below_regrown _ _ _).mono (by have := hB6.size; have := hBw.size; omega))⟩
    | true =>
      have hzx := hide hzx'
      clear hzx'
      cases hzy' : hasB (wd us z) y with
      | false =>
        have hzy := hide hzy'
        clear hzy'
        have c1 := cor w6 hB6 x y J hx hy EJ.out
        have c2 := cbel w6 hB6 J z false hJ hz (by rw [e3.out, hxz.out]; rfl)
        have c3 := cbel w6 hB6 x z false hx hz hxz.out
        have c5 := cand w6 hB6 x y M hx hy EM.out
        have c6 := cbel w6 hB6 z M false hz hM (by rw [e4.out, hzx.out, hzy.out]; rfl)
        have c7 := cbel w6 hB6 z x true hz hx hzx.out
        have c8 := cbel w6 hB6 z y false hz hy hzy.out
        clear cor cand cbel
        refine wp_region_quiet_below (by kernel_rfl) (by kernel_rfl) ?_
        repeat (go_big_quiet_step (first | with_reducible exact c1 _ _ | with_reducible exact c2 _ _ | with_reducible exact c3 _ _ | with_reducible exact c5 _ _ | with_reducible exact c6 _ _ | with_reducible exact c7 _ _ | with_reducible exact c8 _ _))
        refine wpQuiet_nil ?_
        intro _ hw'
        obtain ⟨⟨dq, osq⟩, hw''⟩ := hw'
        subst hw''
        go_wp2
        go_ret
        exact ⟨rfl, (hBw.trans (hB6.mono hBw.size)).trans ((below_regrown _ _ _).mono (by have := hB6.size; have := hBw.size; omega))⟩
      | true =>
        have hzy := hide hzy'
        clear hzy'
        have c1 := cor w6 hB6 x y J hx hy EJ.out
        have c2 := cbel w6 hB6 J z false hJ hz (by rw [e3.out, hxz.out]; rfl)
        have c3 := cbel w6 hB6 x z false hx hz hxz.out
        have c5 := cand w6 hB6 x y M hx hy EM.out
        have c6 := cbel w6 hB6 z M true hz hM (by rw [e4.out, hzx.out, hzy.out]; rfl)
        have c7 := cbel w6 hB6 z x true hz hx hzx.out
        have c8 := cbel w6 hB6 z y true hz hy hzy.out
        clear cor cand cbel
        refine wp_region_quiet_below (by kernel_rfl) (by kernel_rfl) ?_
        repeat (go_big_quiet_step (first | with_reducible exact c1 _ _ | with_reducible exact c2 _ _ | with_reducible exact c3 _ _ | with_reducible exact c5 _ _ | with_reducible exact c6 _ _ | with_reducible exact c7 _ _ | with_reducible exact c8 _ _))
        refine wpQuiet_nil ?_
        intro _ hw'
        obtain ⟨⟨dq, osq⟩, hw''⟩ := hw'
        subst hw''
        go_wp2
        go_ret
        exact ⟨rfl, (hBw.trans (hB6.mono hBw.size)).trans ((below_regrown _ _ _).mono (by have := hB6.size; have := hBw.size; omega))⟩
  | true =>
    have hxz := hide hxz'
    clear hxz'
    cases hyz' : hasB (wd us y) z with
    | false =>
      have hyz := hide hyz'
      clear hyz'
      cases hzx' : hasB (wd us z) x with
      | false =>
        have hzx := hide hzx'
        clear hzx'
        have c1 := cor w6 hB6 x y J hx hy EJ.out
        have c2 := cbel w6 hB6 J z false hJ hz (by rw [e3.out, hxz.out, hyz.out]; rfl)
        have c3 := cbel w6 hB6 x z true hx hz hxz.out
        have c4 := cbel w6 hB6 y z false hy hz hyz.out
        have c5 := cand w6 hB6 x y M hx hy EM.out
        have c6 := cbel w6 hB6 z M false hz hM (by rw [e4.out, hzx.out]; rfl)
        have c7 := cbel w6 hB6 z x false hz hx hzx.out
        clear cor cand cbel
        refine wp_region_quiet_below (by kernel_rfl) (by kernel_rfl) ?_
        repeat (go_big_quiet_step (first | with_reducible exact c1 _ _ | with_reducible exact c2 _ _ | with_reducible exact c3 _ _ | with_reducible exact c4 _ _ | with_reducible exact c5 _ _ | with_reducible exact c6 _ _ | with_reducible exact c7 _ _))
        refine wpQuiet_nil ?_
        intro _ hw'
        obtain ⟨⟨dq, osq⟩, hw''⟩ := hw'
        subst hw''
        go_wp2
        go_ret
        exact ⟨rfl, (hBw.trans (hB6.mono hBw.size)).trans ((below_regrown _ _ _).mono (by have := hB6.size; have := hBw.size; omega))⟩
      | true =>
        have hzx := hide hzx'
        clear hzx'
        cases hzy' : hasB (wd us z) y with
        | false =>
          have hzy := hide hzy'
          clear hzy'
          have c1 := cor w6 hB6 x y J hx hy EJ.out
          have c2 := cbel w6 hB6 J z false hJ hz (by rw [e3.out, hxz.out, hyz.out]; rfl)
          have c3 := cbel w6 hB6 x z true hx hz hxz.out
          have c4 := cbel w6 hB6 y z false hy hz hyz.out
          have c5 := cand w6 hB6 x y M hx hy EM.out
          have c6 := cbel w6 hB6 z M false hz hM (by rw [e4.out, hzx.out, hzy.out]; rfl)
          have c7 := cbel w6 hB6 z x true hz hx hzx.out
          have c8 := cbel w6 hB6 z y false hz hy hzy.out
          clear cor cand cbel
          refine wp_region_quiet_below (by kernel_rfl) (by kernel_rfl) ?_
          repeat (go_big_quiet_step (first | with_reducible exact c1 _ _ | with_reducible exact c2 _ _ | with_reducible exact c3 _ _ | with_reducible exact c4 _ _ | with_reducible exact c5 _ _ | with_reducible exact c6 _ _ | with_reducible exact c7 _ _ | with_reducible exact c8 _ _))
          refine wpQuiet_nil ?_
          intro _ hw'
          obtain ⟨⟨dq, osq⟩, hw''⟩ := hw'
          subst hw''
          go_wp2
          go_ret
          exact ⟨rfl, (hBw.trans (hB6.mono hBw.size)).trans ((below_regrown _ _ _).mono (by have := hB6.size; have := hBw.size; omega))⟩
        | true =>
          have hzy := hide hzy'
          clear hzy'
          have c1 := cor w6 hB6 x y J hx hy EJ.out
          have c2 := cbel w6 hB6 J z false hJ hz (by rw [e3.out, hxz.out, hyz.out]; rfl)
          have c3 := cbel w6 hB6 x z true hx hz hxz.out
          have c4 := cbel w6 hB6 y z false hy hz hyz.out
          have c5 := cand w6 hB6 x y M hx hy EM.out
          have c6 := cbel w6 hB6 z M true hz hM (by rw [e4.out, hzx.out, hzy.out]; rfl)
          have c7 := cbel w6 hB6 z x true hz hx hzx.out
          have c8 := cbel w6 hB6 z y true hz hy hzy.out
          clear cor cand cbel
          refine wp_region_quiet_below (by kernel_rfl) (by kernel_rfl) ?_
          repeat (go_big_quiet_step (first | with_reducible exact c1 _ _ | with_reducible exact c2 _ _ | with_reducible exact c3 _ _ | with_reducible exact c4 _ _ | with_reducible exact c5 _ _ | with_reducible exact c6 _ _ | with_reducible exact c7 _ _ | with_reducible exact c8 _ _))
          refine wpQuiet_nil ?_
          intro _ hw'
          obtain ⟨⟨dq, osq⟩, hw''⟩ := hw'
          subst hw''
          go_wp2
          go_ret
          exact ⟨rfl, (hBw.trans (hB6.mono hBw.size)).trans ((below_regrown _ _ _).mono (by have := hB6.size; have := hBw.size; omega))⟩
    | true =>
      have hyz := hide hyz'
      clear hyz'
      cases hzx' : hasB (wd us z) x with
      | false =>
        have hzx := hide hzx'
        clear hzx'
        have c1 := cor w6 hB6 x y J hx hy EJ.out
        have c2 := cbel w6 hB6 J z true hJ hz (by rw [e3.out, hxz.out, hyz.out]; rfl)
        have c3 := cbel w6 hB6 x z true hx hz hxz.out
        have c4 := cbel w6 hB6 y z true hy hz hyz.out
        have c5 := cand w6 hB6 x y M hx hy EM.out
        have c6 := cbel w6 hB6 z M false hz hM (by rw [e4.out, hzx.out]; rfl)
        have c7 := cbel w6 hB6 z x false hz hx hzx.out
        clear cor cand cbel
        refine wp_region_quiet_below (by kernel_rfl) (by kernel_rfl) ?_
        repeat (go_big_quiet_step (first | with_reducible exact c1 _ _ | with_reducible exact c2 _ _ | with_reducible exact c3 _ _ | with_reducible exact c4 _ _ | with_reducible exact c5 _ _ | with_reducible exact c6 _ _ | with_reducible exact c7 _ _))
        refine wpQuiet_nil ?_
        intro _ hw'
        obtain ⟨⟨dq, osq⟩, hw''⟩ := hw'
        subst hw''
        go_wp2
        go_ret
        exact ⟨rfl, (hBw.trans (hB6.mono hBw.size)).trans ((below_regrown _ _ _).mono (by have := hB6.size; have := hBw.size; omega))⟩
      | true =>
        have hzx := hide hzx'
        clear hzx'
        cases hzy' : hasB (wd us z) y with
        | false =>
          have hzy := hide hzy'
          clear hzy'
          have c1 := cor w6 hB6 x y J hx hy EJ.out
          have c2 := cbel w6 hB6 J z true hJ hz (by rw [e3.out, hxz.out, hyz.out]; rfl)
          have c3 := cbel w6 hB6 x z true hx hz hxz.out
          have c4 := cbel w6 hB6 y z true hy hz hyz.out
          have c5 := cand w6 hB6 x y M hx hy EM.out
          have c6 := cbel w6 hB6 z M false hz hM (by rw [e4.out, hzx.out, hzy.out]; rfl)
          have c7 := cbel w6 hB6 z x true hz hx hzx.out
          have c8 := cbel w6 hB6 z y false hz hy hzy.out
          clear cor cand cbel
          refine wp_region_quiet_below (by kernel_rfl) (by kernel_rfl) ?_
          repeat (go_big_quiet_step (first | with_reducible exact c1 _ _ | with_reducible exact c2 _ _ | with_reducible exact c3 _ _ | with_reducible exact c4 _ _ | with_reducible exact c5 _ _ | with_reducible exact c6 _ _ | with_reducible exact c7 _ _ | with_reducible exact c8 _ _))
          refine wpQuiet_nil ?_
          intro _ hw'
          obtain ⟨⟨dq, osq⟩, hw''⟩ := hw'
          subst hw''
          go_wp2
          go_ret
          exact ⟨rfl, (hBw.trans (hB6.mono hBw.size)).trans ((below_regrown _ _ _).mono (by have := hB6.size; have := hBw.size; omega))⟩
        | true =>
          have hzy := hide hzy'
          clear hzy'
          have c1 := cor w6 hB6 x y J hx hy EJ.out
          have c2 := cbel w6 hB6 J z true hJ hz (by rw [e3.out, hxz.out, hyz.out]; rfl)
          have c3 := cbel w6 hB6 x z true hx hz hxz.out
          have c4 := cbel w6 hB6 y z true hy hz hyz.out
          have c5 := cand w6 hB6 x y M hx hy EM.out
          have c6 := cbel w6 hB6 z M true hz hM (by rw [e4.out, hzx.out, hzy.out]; rfl)
          have c7 := cbel w6 hB6 z x true hz hx hzx.out
          have c8 := cbel w6 hB6 z y true hz hy hzy.out
          clear cor cand cbel
          refine wp_region_quiet_below (by kernel_rfl) (by kernel_rfl) ?_
          repeat (go_big_quiet_step (first | with_reducible exact c1 _ _ | with_reducible exact c2 _ _ | with_reducible exact c3 _ _ | with_reducible exact c4 _ _ | with_reducible exact c5 _ _ | with_reducible exact c6 _ _ | with_reducible exact c7 _ _ | with_reducible exact c8 _ _))
          refine wpQuiet_nil ?_
          intro _ hw'
          obtain ⟨⟨dq, osq⟩, hw''⟩ := hw'
          subst hw''
          go_wp2
          go_ret
          exact ⟨rfl, (hBw.trans (hB6.mono hBw.size)).trans ((below_regrown _ _ _).mono (by have := hB6.size; have := hBw.size; omega))⟩

/-- **LatticeBounds answers true, for every order and any three numbers, and writes nothing that was there** -/
theorem bounds_any (n : Int) (a : Option Addr) (cap : Nat) (us : List Nat) (x y z : Int) (n₀ : Nat) (hf : Fit us) (w : World) (hT : TabAt w) (hw : IsWords n₀ w a us) (hg : 0 < n₀) (hn₀ : n₀ ≤ w.heap.size) :
    Calls Tryd.prog 6 #[.agg #[.int .i64 n, .slice a us.length cap], .int .i64 x, .int .i64 y, .int .i64 z] w fun e w' => e = .returned (.bool true) ∧ Below w.heap.size w w' := by
  by_cases hc : codeOf n us = 0
  · obtain ⟨ds, hD⟩ := tur_ex hf (by have := code_zero hc; omega)
    cases hl : latB us ds with
    | true =>
      cases hin : allInB us.length [x, y, z] with
      | false => exact bounds_out n a cap us ds x y z n₀ hf w hT hw hg hn₀ hc hD hl hin
      | true =>
        obtain ⟨h1, h2, h3⟩ := allIn3.1 (allInB_true.1 hin)
        obtain ⟨x', rfl⟩ : ∃ x' : Nat, x = (x' : Int) := ⟨x.toNat, by omega⟩
        obtain ⟨y', rfl⟩ : ∃ y' : Nat, y = (y' : Int) := ⟨y.toNat, by omega⟩
        obtain ⟨z', rfl⟩ : ∃ z' : Nat, z = (z' : Int) := ⟨z.toNat, by omega⟩
        have en := (code_zero hc).2.2.1.symm
        subst en
        exact bounds_in a cap us ds x' y' z' n₀ hf w hT hw hg hn₀ hc hD hl (by omega) (by omega) (by omega)
    | false => exact bounds_err n a us.length cap x y z w fun W hW => open_err n a us.length cap 5 (by decide) W fun X hX hs => Make_none n a cap us ds n₀ hf X ((hT.below hW (by omega)).below hX (by have := hW.size; omega)) ((hw.below (hW.mono hn₀)).below (hX.mono (by have := hW.size; omega))) hg (by have := hW.size; omega) hc hD hl
  · exact bounds_err n a us.length cap x y z w fun W hW => open_err n a us.length cap _ hc W fun X hX hs => Make_bad n a cap us n₀ hf X ((hT.below hW (by omega)).below hX (by have := hW.size; omega)) ((hw.below (hW.mono hn₀)).below (hX.mono (by have := hW.size; omega))) hg (by have := hW.size; omega) hc
end Go.Proofs.YtbdigkjahfdmjabDoor
