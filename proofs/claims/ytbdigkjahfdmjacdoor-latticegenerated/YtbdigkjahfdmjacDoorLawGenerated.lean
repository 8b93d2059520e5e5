/- The walk of the law LatticeGenerated: it answers true, and writes nothing that was there. -/
import Derived.Test.YtbdigkjahfdmjacDoorIrreducible
import Derived.Test.YtbdigkjahfdmjacDoorKeepOpen
import Derived.Test.YtbdigkjahfdmjacDoorKeepBelow
import Derived.Test.YtbdigkjahfdmjacDoorTurEx
namespace Go.Proofs.YtbdigkjahfdmjacDoor
open Go.RowKit Go.Shelf

set_option maxRecDepth 100000 in
set_option maxHeartbeats 1000000 in
theorem generated_err (n : Int) (a : Option Addr) (len cap : Nat) (c : Int) (hc : c ≠ 0) (w : World) (h1 : ∀ W, Below w.heap.size w W → Calls Tryd.prog 13 #[.agg #[.int .i64 n, .slice a len cap]] W fun e w' => e = irrErr c ∧ Below W.heap.size W w') (h2 : ∀ W, Below w.heap.size w W → Calls Tryd.prog 9 #[.agg #[.int .i64 n, .slice a len cap]] W fun e w' => e = .returned (.tuple #[.agg #[.int .i64 n, .slice a len cap, .slice none 0 0, .slice none 0 0, .int .i64 0, .int .i64 0, .bool false], .bool false]) ∧ Below W.heap.size W w') :
    Calls Tryd.prog 6 #[.agg #[.int .i64 n, .slice a len cap]] w fun e w' => e = .returned (.bool true) ∧ Below w.heap.size w w' := by
  obtain ⟨r0, hb0, hs0⟩ := one_row w 24 (.int .i64 n) (.slice a len cap) rfl
  have s1 := h1 _ hb0
  unfold irrErr at s1
  have e1 : (c != 0) = true := by rw [bne_iff_ne]; exact hc
  have e2 : (c == 0) = false := by rw [beq_eq_false_iff_ne]; exact hc
  have lt0 := r0.lt
  clear h1 hc
  go_enter Tryd.func6, Tryd.ntmps6
  go_wp2_with (first
    | (go_at_call 13; refine s1.mono ?_; rintro e w1 ⟨rfl, hb1⟩; have q0 := row_below r0 hb1 lt0; have j0 := q0.cell (i := 0) rfl; have j1 := q0.cell (i := 1) rfl; have hB1 : Below w.heap.size w w1 := hb0.trans (hb1.mono (by omega)); have s2 := h2 w1 hB1; clear h2 s1)
    | (go_at_call 9; refine s2.mono ?_; rintro e w2 ⟨rfl, hb2⟩))
  go_ret
  exact ⟨rfl, (hB1.trans (hb2.mono hB1.size)).alloc (by have := hb2.size; have := hB1.size; omega) _⟩

theorem take_snoc {l : List Nat} {k : Nat} (h : k < l.length) : l.take (k + 1) = l.take k ++ [wd l k] := by
  rw [List.take_succ_eq_append_getElem h]
  unfold wd
  rw [List.getD_eq_getElem?_getD, List.getElem?_eq_getElem h]
  rfl

set_option maxRecDepth 100000 in
set_option maxHeartbeats 2000000 in
theorem generated_ok (a : Option Addr) (cap : Nat) (us ds : List Nat) (n₀ : Nat) (hf : Fit us) (w : World) (hT : TabAt w) (hw : IsWords n₀ w a us) (hg : 0 < n₀) (hn₀ : n₀ ≤ w.heap.size) (hc : codeOf us.length us = 0) (hD : Tur us us.length [] ds) (hl : latB us ds = true) :
    Calls Tryd.prog 6 #[.agg #[.int .i64 us.length, .slice a us.length cap]] w fun e w' => e = .returned (.bool true) ∧ Below w.heap.size w w' := by
  have hord := (code_zero hc).2.2.2.2
  have hl16 : us.length ≤ 16 := by have := code_zero hc; omega
  have hpos : 0 < us.length := Nat.pos_of_ne_zero (latB_parts hl).1
  obtain ⟨r0, hb0, hs0⟩ := one_row w 24 (.int .i64 us.length) (.slice a us.length cap) rfl
  have s1 := Irr_ok us.length a cap us ds n₀ hf _ (hT.below hb0 (by omega)) (hw.below (hb0.mono hn₀)) hg (by omega) hc hD hl
  have hop : ∀ W, Below w.heap.size w W → _ := fun W hW => open_ok us.length a cap us ds n₀ hf W (hT.below hW (by omega)) (hw.below (hW.mono hn₀)) hg (by have := hW.size; omega) hc hD hl
  have hL : ∀ js ms, NearTo us js (us.length * us.length) → NearTo ds ms (us.length * us.length) → Lat us.length (leW us) (at2 js us.length) (at2 ms us.length) (gath (at2 ms us.length) 0 us.length) (gath (at2 js us.length) 0 us.length) := fun js ms h1 h2 => lat_pre hord hD h1 h2 hpos
  have hlow : ∀ i, i < (lowIrr us).length → wd (lowIrr us) i < us.length := fun i hi => (mem_lowIrr.1 (wd_mem hi)).1
  have hhigh : ∀ i, i < (highIrr us).length → wd (highIrr us) i < us.length := fun i hi => (mem_highIrr.1 (wd_mem hi)).1
  have hll : (lowIrr us).length ≤ 16 := by
    unfold lowIrr
    have := List.length_filter_le (fun x => decide (lowCnt us x = 1)) (List.range us.length)
    simp at this
    omega
  have hlh : (highIrr us).length ≤ 16 := by
    unfold highIrr
    have := List.length_filter_le (fun x => decide (highCnt us x = 1)) (List.range us.length)
    simp at this
    omega
  have lt0 := r0.lt
  have HD := hide hD
  clear hc hl hD
  go_enter Tryd.func6, Tryd.ntmps6
  go_wp2_with (first
    | (go_at_call 13; refine s1.mono ?_; rintro e w1 ⟨a1, c1, a2, c2, rfl, hb1, i1, i2⟩; clear s1; have q0 := row_below r0 hb1 lt0; have lq0 := q0.lt; have j0 := q0.cell (i := 0) rfl; have j1 := q0.cell (i := 1) rfl; have hB1 : Below w.heap.size w w1 := hb0.trans (hb1.mono (by omega)); have s2 := hop w1 hB1; clear hop)
    | (go_at_call 9; refine s2.mono ?_; rintro e w2 ⟨aj, cj, am, cm, js, ms, rfl, hb2, i3, i4, n1, n2⟩; clear s2; have L := hL js ms n1 n2; have HL := hide L; have hlj := n1.len; have hlm := n2.len; clear hL L n1 n2; generalize gath (at2 ms us.length) 0 us.length = bt at *; generalize gath (at2 js us.length) 0 us.length = tp at *; have hs2 := hb2.size; have p0 := row_below q0 hb2 lq0; have lp0 := p0.lt; have j0 := p0.cell (i := 0) rfl; have hA : Below w2.heap.size w2 (w2.alloc (.cells #[.int .i64 us.length, .slice a us.length cap, .slice aj (us.length * us.length) cj, .slice am (us.length * us.length) cm, .int .i64 (bt : Nat), .int .i64 (tp : Nat), .bool false] 34)) := (Below.refl _ _).alloc (Nat.le_refl _) _; have t1 := kwithin_true us.length a1 c1 (lowIrr us) w1.heap.size (by omega) hlow _ ((i1.below hb2).below (hA.mono hs2)); have t2 := kwithin_true us.length a2 c2 (highIrr us) w1.heap.size (by omega) hhigh _ ((i2.below hb2).below (hA.mono hs2)))
    | (go_at_call 14; refine t1.mono ?_; rintro e w3 ⟨rfl, hww⟩; rw [hww]; clear hww w3 t1)
    | (go_at_call 14; refine t2.mono ?_; rintro e w3 ⟨rfl, hww⟩; rw [hww]; clear hww w3 t2))
  obtain ⟨V, hV⟩ : ∃ V, V = w2.alloc (.cells #[.int .i64 us.length, .slice a us.length cap, .slice aj (us.length * us.length) cj, .slice am (us.length * us.length) cm, .int .i64 (bt : Nat), .int .i64 (tp : Nat), .bool false] 34) := ⟨_, rfl⟩
  rw [← hV]
  rw [← hV] at hA
  have zB : Row V w2.heap.size 34 [.int .i64 us.length, .slice a us.length cap, .slice aj (us.length * us.length) cj, .slice am (us.length * us.length) cm, .int .i64 (bt : Nat), .int .i64 (tp : Nat), .bool false] := by rw [hV]; exact Row.new w2 _ _
  have z0 : Row V w.heap.size 24 [.int .i64 us.length, .slice a us.length cap] := row_below p0 hA lp0
  have hsV := hA.size
  have lz0 := z0.lt
  have lzB := zB.lt
  have hBV : Below w.heap.size w V := (hB1.trans (hb2.mono hB1.size)).trans (hA.mono (by have := hB1.size; omega))
  have hwV : IsWords n₀ V a us := hw.below (hBV.mono hn₀)
  have hnV : n₀ ≤ V.heap.size := by have := hBV.size; omega
  have I1 : IsInts V.heap.size V a1 (lowIrr us) := ((i1.below hb2).below (hA.mono hs2)).mono (by omega)
  have I2 : IsInts V.heap.size V a2 (highIrr us) := ((i2.below hb2).below (hA.mono hs2)).mono (by omega)
  have I3 : IsInts V.heap.size V aj js := (i3.below hA).mono hsV
  have I4 : IsInts V.heap.size V am ms := (i4.below hA).mono hsV
  have L := HL.out
  have hbt := L.blt
  have htp := L.tlt
  have pbel : ∀ (i j : Nat) (W : World), i < us.length → j < us.length → Below V.heap.size V W → Calls Tryd.prog 15 #[.agg #[.int .i64 us.length, .slice a us.length cap], .int .i64 i, .int .i64 j] W fun e w' => e = .returned (.bool (hasB (wd us i) j)) ∧ Below V.heap.size V w' ∧ Row w' w.heap.size 24 [.int .i64 us.length, .slice a us.length cap] ∧ Row w' w2.heap.size 34 [.int .i64 us.length, .slice a us.length cap, .slice aj (us.length * us.length) cj, .slice am (us.length * us.length) cm, .int .i64 (bt : Nat), .int .i64 (tp : Nat), .bool false] := fun i j W hi hj hW =>
    (kbelow_any us.length a cap us i j n₀ hf hi (by omega) W (hwV.below (hW.mono hnV)) (by have := hW.size; omega)).mono (by
      rintro e w' ⟨rfl, hb⟩
      have hB' : Below V.heap.size V w' := hW.trans (hb.mono hW.size)
      exact ⟨rfl, hB', row_below z0 hB' lz0, row_below zB hB' lzB⟩)
  have por : ∀ (x y : Nat) (W : World), x < us.length → y < us.length → Below V.heap.size V W → Calls Tryd.prog 10 #[.agg #[.int .i64 us.length, .slice a us.length cap, .slice aj (us.length * us.length) cj, .slice am (us.length * us.length) cm, .int .i64 (bt : Nat), .int .i64 (tp : Nat), .bool false], .int .i64 x, .int .i64 y] W fun e w' => e = .returned (.int .i64 (at2 js us.length x y : Nat)) ∧ Below V.heap.size V w' ∧ Row w' w.heap.size 24 [.int .i64 us.length, .slice a us.length cap] ∧ Row w' w2.heap.size 34 [.int .i64 us.length, .slice a us.length cap, .slice aj (us.length * us.length) cj, .slice am (us.length * us.length) cm, .int .i64 (bt : Nat), .int .i64 (tp : Nat), .bool false] := fun x y W hx hy hW =>
    (bor_any us.length a cap aj cj am cm (bt : Nat) (tp : Nat) false js x y V.heap.size hl16 hx hy hlj W (I3.below hW) hW.size).mono (by
      rintro e w' ⟨rfl, hb⟩
      have hB' : Below V.heap.size V w' := hW.trans (hb.mono hW.size)
      exact ⟨rfl, hB', row_below z0 hB' lz0, row_below zB hB' lzB⟩)
  have pand : ∀ (x y : Nat) (W : World), x < us.length → y < us.length → Below V.heap.size V W → Calls Tryd.prog 11 #[.agg #[.int .i64 us.length, .slice a us.length cap, .slice aj (us.length * us.length) cj, .slice am (us.length * us.length) cm, .int .i64 (bt : Nat), .int .i64 (tp : Nat), .bool false], .int .i64 x, .int .i64 y] W fun e w' => e = .returned (.int .i64 (at2 ms us.length x y : Nat)) ∧ Below V.heap.size V w' ∧ Row w' w.heap.size 24 [.int .i64 us.length, .slice a us.length cap] ∧ Row w' w2.heap.size 34 [.int .i64 us.length, .slice a us.length cap, .slice aj (us.length * us.length) cj, .slice am (us.length * us.length) cm, .int .i64 (bt : Nat), .int .i64 (tp : Nat), .bool false] := fun x y W hx hy hW =>
    (band_any us.length a cap aj cj am cm (bt : Nat) (tp : Nat) false ms x y V.heap.size hl16 hx hy hlm W (I4.below hW) hW.size).mono (by
      rintro e w' ⟨rfl, hb⟩
      have hB' : Below V.heap.size V w' := hW.trans (hb.mono hW.size)
      exact ⟨rfl, hB', row_below z0 hB' lz0, row_below zB hB' lzB⟩)
  have G1 : ∀ x, x < us.length → ∀ k, genF (at2 js us.length) (fun y => hasB (wd us y) x) bt ((lowIrr us).take k) < us.length := fun x hx k =>
    (genF_spec L (fun y => hasB (wd us y) x) hx (fun y _ => Iff.rfl) ((lowIrr us).take k) (fun y hy => (mem_lowIrr.1 (List.mem_of_mem_take hy)).1) L.blt (L.ble hx)).1
  have G2 : ∀ x, x < us.length → ∀ k, genF (at2 ms us.length) (fun y => hasB (wd us x) y) tp ((highIrr us).take k) < us.length := fun x hx k =>
    (genF_spec L.turn (fun y => hasB (wd us x) y) hx (fun y _ => Iff.rfl) ((highIrr us).take k) (fun y hy => (mem_highIrr.1 (List.mem_of_mem_take hy)).1) L.tlt (L.let_ hx)).1
  have E1 : ∀ x, x < us.length → genF (at2 js us.length) (fun y => hasB (wd us y) x) bt (lowIrr us) = x := fun x hx => gen_low hord L (fun _ _ _ _ => Iff.rfl) hx _ (fun y _ => Iff.rfl)
  have E2 : ∀ x, x < us.length → genF (at2 ms us.length) (fun y => hasB (wd us x) y) tp (highIrr us) = x := fun x hx => gen_high hord HD.out L hx _ (fun y _ => Iff.rfl)
  clear hV hb1 hb2 hA i1 i2 i3 i4 hB1 q0 lq0 p0 lp0 j0 j1 r0 hb0 hs0 lt0 hs2 HL L
  go_loopw [8] (fun i wr => ∃ x : Nat, x ≤ us.length ∧ i = .int .i64 x ∧ Below V.heap.size V wr) (fun i _ => us.length - (intOf i).toNat)
  case atStart => exact ⟨0, Nat.zero_le _, rfl, Below.refl _ _⟩
  case round =>
    obtain ⟨x, hx', rfl, hbr⟩ := hrel
    have y0 := row_below z0 hbr lz0
    have c00 := y0.cell (i := 0) rfl
    by_cases hx : x < us.length
    · have yB := row_below zB hbr lzB
      have d4 := yB.cell (i := 4) rfl
      have d5 := yB.cell (i := 5) rfl
      have g1 := G1 x hx
      have g2 := G2 x hx
      have e1 := E1 x hx
      have e2 := E2 x hx
      generalize hs1 : (fun y => hasB (wd us y) x) = sel1 at *
      generalize hs2 : (fun y => hasB (wd us x) y) = sel2 at *
      have HS1 := hide hs1
      have HS2 := hide hs2
      have He1 := hide e1
      have He2 := hide e2
      clear hs1 hs2 e1 e2 G1 G2 E1 E2
      go_wp2
      go_loopw [9, 64] (fun j i wr => ∃ k : Nat, k ≤ (lowIrr us).length ∧ i = .int .i64 k ∧ j = .int .i64 (genF (at2 js us.length) sel1 bt ((lowIrr us).take k) : Nat) ∧ Below V.heap.size V wr) (fun _ i _ => (lowIrr us).length - (intOf i).toNat)
      case atStart => exact ⟨0, Nat.zero_le _, rfl, rfl, hbr⟩
      case round =>
        clear hbr y0 c00 yB d4 d5
        obtain ⟨k, hk, rfl, rfl, hbr⟩ := hrel
        have y0 := row_below z0 hbr lz0
        have c00 := y0.cell (i := 0) rfl
        have c01 := y0.cell (i := 1) rfl
        by_cases hlt : k < (lowIrr us).length
        · obtain ⟨b, off, rfl, hb, hcc⟩ := (I1.below hbr).at hlt
          have hck := hcc k hlt
          have hyl := hlow k hlt
          have hsn := genF_snoc (at2 js us.length) sel1 bt ((lowIrr us).take k) (wd (lowIrr us) k)
          rw [← take_snoc hlt] at hsn
          have gk := g1 k
          have hse : sel1 (wd (lowIrr us) k) = hasB (wd us (wd (lowIrr us) k)) x := by rw [← HS1.out]
          generalize genF (at2 js us.length) sel1 bt ((lowIrr us).take k) = acc at *
          generalize wd (lowIrr us) k = y at *
          have sb := pbel y x wr hyl hx hbr
          have hbw : b < wr.heap.size := by have := hbr.size; omega
          clear hcc
          cases hbv : hasB (wd us y) x with
          | false =>
            rw [hbv] at sb hse
            rw [hse] at hsn
            have HN := hide hsn
            clear hbv hse hsn
            go_wp2_with (go_at_call 15; refine sb.mono ?_; rintro e w4 ⟨rfl, hB4, _, _⟩)
            exact ⟨⟨k + 1, by omega, by go_num, by rw [HN.out]; rfl, hB4⟩, by simp [intOf]; omega⟩
          | true =>
            rw [hbv] at sb hse
            rw [hse] at hsn
            have HN := hide hsn
            clear hbv hse hsn
            go_wp2_with (first
              | (go_at_call 15; refine sb.mono ?_; rintro e w4 ⟨rfl, hB4, _, b4⟩; clear sb; have so := por acc y w4 gk hyl hB4; have v0 := b4.cell (i := 0) rfl; have v1 := b4.cell (i := 1) rfl; have v2 := b4.cell (i := 2) rfl; have v3 := b4.cell (i := 3) rfl; have v4 := b4.cell (i := 4) rfl; have v5 := b4.cell (i := 5) rfl; have v6 := b4.cell (i := 6) rfl)
              | (go_at_call 10; refine so.mono ?_; rintro e w5 ⟨rfl, hB5, _, _⟩))
            exact ⟨⟨k + 1, by omega, by go_num, by rw [HN.out]; rfl, hB5⟩, by simp [intOf]; omega⟩
        · obtain rfl : k = (lowIrr us).length := by omega
          rw [List.take_length, He1.out]
          go_wp2
          go_loopw [10, 79] (fun j i wr => ∃ k : Nat, k ≤ (highIrr us).length ∧ i = .int .i64 k ∧ j = .int .i64 (genF (at2 ms us.length) sel2 tp ((highIrr us).take k) : Nat) ∧ Below V.heap.size V wr) (fun _ i _ => (highIrr us).length - (intOf i).toNat)
          case atStart => exact ⟨0, Nat.zero_le _, rfl, rfl, hbr⟩
          case round =>
            clear hbr y0 c00 c01
            obtain ⟨k, hk, rfl, rfl, hbr⟩ := hrel
            have y0 := row_below z0 hbr lz0
            have c00 := y0.cell (i := 0) rfl
            have c01 := y0.cell (i := 1) rfl
            by_cases hlt : k < (highIrr us).length
            · obtain ⟨b, off, rfl, hb, hcc⟩ := (I2.below hbr).at hlt
              have hck := hcc k hlt
              have hyl := hhigh k hlt
              have hsn := genF_snoc (at2 ms us.length) sel2 tp ((highIrr us).take k) (wd (highIrr us) k)
              rw [← take_snoc hlt] at hsn
              have gk := g2 k
              have hse : sel2 (wd (highIrr us) k) = hasB (wd us x) (wd (highIrr us) k) := by rw [← HS2.out]
              generalize genF (at2 ms us.length) sel2 tp ((highIrr us).take k) = acc at *
              generalize wd (highIrr us) k = y at *
              have sb := pbel x y wr hx hyl hbr
              have hbw : b < wr.heap.size := by have := hbr.size; omega
              clear hcc
              cases hbv : hasB (wd us x) y with
              | false =>
                rw [hbv] at sb hse
                rw [hse] at hsn
                have HN := hide hsn
                clear hbv hse hsn
                go_wp2_with (go_at_call 15; refine sb.mono ?_; rintro e w4 ⟨rfl, hB4, _, _⟩)
                exact ⟨⟨k + 1, by omega, by go_num, by rw [HN.out]; rfl, hB4⟩, by simp [intOf]; omega⟩
              | true =>
                rw [hbv] at sb hse
                rw [hse] at hsn
                have HN := hide hsn
                clear hbv hse hsn
                go_wp2_with (first
                  | (go_at_call 15; refine sb.mono ?_; rintro e w4 ⟨rfl, hB4, _, b4⟩; clear sb; have so := pand acc y w4 gk hyl hB4; have v0 := b4.cell (i := 0) rfl; have v1 := b4.cell (i := 1) rfl; have v2 := b4.cell (i := 2) rfl; have v3 := b4.cell (i := 3) rfl; have v4 := b4.cell (i := 4) rfl; have v5 := b4.cell (i := 5) rfl; have v6 := b4.cell (i := 6) rfl)
                  | (go_at_call 11; refine so.mono ?_; rintro e w5 ⟨rfl, hB5, _, _⟩))
                exact ⟨⟨k + 1, by omega, by go_num, by rw [HN.out]; rfl, hB5⟩, by simp [intOf]; omega⟩
            · obtain rfl : k = (highIrr us).length := by omega
              rw [List.take_length, He2.out]
              have hne : ((x : Int) != (x : Int)) = false := by simp
              go_wp2
              exact ⟨⟨x + 1, by omega, by go_num, hbr⟩, by simp [intOf]; omega⟩
    · go_wp2
      go_ret
      exact ⟨rfl, hBV.trans (hbr.mono hBV.size)⟩

/-- **LatticeGenerated answers true, for every order, and writes nothing that was there** -/
theorem generated_any (n : Int) (a : Option Addr) (cap : Nat) (us : List Nat) (n₀ : Nat) (hf : Fit us) (w : World) (hT : TabAt w) (hw : IsWords n₀ w a us) (hg : 0 < n₀) (hn₀ : n₀ ≤ w.heap.size) :
    Calls Tryd.prog 6 #[.agg #[.int .i64 n, .slice a us.length cap]] w fun e w' => e = .returned (.bool true) ∧ Below w.heap.size w w' := by
  have hTW : ∀ {W}, Below w.heap.size w W → TabAt W := fun hW => hT.below hW (by omega)
  have hwW : ∀ {W}, Below w.heap.size w W → IsWords n₀ W a us := fun hW => hw.below (hW.mono hn₀)
  have hnW : ∀ {W}, Below w.heap.size w W → n₀ ≤ W.heap.size := fun hW => by have := hW.size; omega
  have hcomp : ∀ {W X}, Below w.heap.size w W → Below W.heap.size W X → Below w.heap.size w X := fun hW hX => hW.trans (hX.mono hW.size)
  by_cases hc : codeOf n us = 0
  · obtain ⟨ds, hD⟩ := tur_ex hf (by have := code_zero hc; omega)
    cases hl : latB us ds with
    | true =>
      have en := (code_zero hc).2.2.1.symm
      subst en
      exact generated_ok a cap us ds n₀ hf w hT hw hg hn₀ hc hD hl
    | false => exact generated_err n a us.length cap 5 (by decide) w (fun W hW => Irr_err n a us.length cap 5 (by decide) W fun X hX => TableOf_none n a cap us ds n₀ hf X (hTW (hcomp hW hX)) (hwW (hcomp hW hX)) hg (hnW (hcomp hW hX)) hc hD hl) (fun W hW => open_err n a us.length cap 5 (by decide) W fun X hX _ => Make_none n a cap us ds n₀ hf X (hTW (hcomp hW hX)) (hwW (hcomp hW hX)) hg (hnW (hcomp hW hX)) hc hD hl)
  · exact generated_err n a us.length cap _ hc w (fun W hW => Irr_err n a us.length cap _ hc W fun X hX => TableOf_bad n a cap us n₀ hf X (hTW (hcomp hW hX)) (hwW (hcomp hW hX)) hg (hnW (hcomp hW hX)) hc) (fun W hW => open_err n a us.length cap _ hc W fun X hX _ => Make_bad n a cap us n₀ hf X (hTW (hcomp hW hX)) (hwW (hcomp hW hX)) hg (hnW (hcomp hW hX)) hc)
end Go.Proofs.YtbdigkjahfdmjacDoor
