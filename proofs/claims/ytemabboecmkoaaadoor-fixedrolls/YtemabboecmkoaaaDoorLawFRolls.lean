/- The walk of the law FixedRolls: it answers true, and writes nothing that was there. -/
import Derived.Test.YtemabboecmkoaaaDoorFixMore
import Derived.Test.YtemabboecmkoaaaDoorFixComp
import Derived.Deep.RegionHeld3
namespace Go.Proofs.YtemabboecmkoaaaDoor
open Go.RowKit Go.Shelf

set_option maxRecDepth 100000 in
set_option maxHeartbeats 2000000 in
theorem frol_no (n : Int) (a : Option Addr) (cap : Nat) (us : List Nat) (ag : Option Addr) (cg : Nat) (zs : List Int) (ah : Option Addr) (ch : Nat) (ys : List Int) (n₀ : Nat) (hf : Fit us) (h63 : zs.length ≤ 9223372036854775807) (h64 : ys.length ≤ 9223372036854775807) (w : World) (hT : TabAt w) (hw : IsWords n₀ w a us) (hz : ZInts n₀ w ag zs) (hy : ZInts n₀ w ah ys) (hg : 0 < n₀) (hn₀ : n₀ ≤ w.heap.size) (hc : fixCode n us zs ≠ 0 ∨ fixCode n us ys ≠ 0) :
    Calls Tryd.prog 7 #[.agg #[.int .i64 n, .slice a us.length cap], .slice ag zs.length cg, .slice ah ys.length ch] w fun e w' => e = .returned (.bool true) ∧ Below w.heap.size w w' := by
  have hTW : ∀ {W}, Below w.heap.size w W → TabAt W := fun hW => hT.below hW (by omega)
  have hwW : ∀ {W}, Below w.heap.size w W → IsWords n₀ W a us := fun hW => hw.below (hW.mono hn₀)
  have hzW : ∀ {W}, Below w.heap.size w W → ZInts n₀ W ag zs := fun hW => hz.below (hW.mono hn₀)
  have hyW : ∀ {W}, Below w.heap.size w W → ZInts n₀ W ah ys := fun hW => hy.below (hW.mono hn₀)
  have hnW : ∀ {W}, Below w.heap.size w W → n₀ ≤ W.heap.size := fun hW => by have := hW.size; omega
  obtain ⟨r0, hb0, hs0⟩ := one_row w 24 (.int .i64 n) (.slice a us.length cap) rfl
  have s1 := mapped_any n a cap us ag cg zs n₀ hf h63 _ (hwW hb0) (hzW hb0) (hnW hb0)
  have s2 : ∀ W, Below w.heap.size w W → _ := fun W hW => mapped_any n a cap us ah ch ys n₀ hf h64 W (hwW hW) (hyW hW) (hnW hW)
  have s3 : ∀ W, Below w.heap.size w W → _ := fun W hW => FCheck_any n a cap us ag cg zs n₀ hf h63 W (hTW hW) (hwW hW) (hzW hW) hg (hnW hW)
  have s4 : ∀ W, Below w.heap.size w W → _ := fun W hW => FCheck_any n a cap us ah ch ys n₀ hf h64 W (hTW hW) (hwW hW) (hyW hW) hg (hnW hW)
  have lt0 := r0.lt
  have i0 := r0.cell (i := 0) rfl
  have i1 := r0.cell (i := 1) rfl
  by_cases hc1 : fixCode n us zs = 0
  · have hc2 := hc.resolve_left fun h => h hc1
    have e1 : (fixCode n us ys == 0) = false := by rw [beq_eq_false_iff_ne]; exact hc2
    have e2 : (fixCode n us ys != 0) = true := by rw [bne_iff_ne]; exact hc2
    have e3 : (fixCode n us zs == 0) = true := by rw [hc1]; rfl
    rw [e3] at s1
    rw [hc1] at s3
    rw [e1] at s2
    clear hc hc2 hc1 e1 e3
    generalize fixCode n us ys = c at *
    go_enter Tryd.func7, Tryd.ntmps7
    go_wp2_with fail
    with_reducible refine s1.mono ?_
    rintro e w1 ⟨rfl, hb1⟩
    have q0 := row_below r0 hb1 lt0
    have lq0 := q0.lt
    clear i0 i1 s1
    have j0 := q0.cell (i := 0) rfl
    have j1 := q0.cell (i := 1) rfl
    have hB1 : Below w.heap.size w w1 := hb0.trans (hb1.mono (by omega))
    have s2' := s2 w1 hB1
    clear s2
    go_wp2_with fail
    with_reducible refine s2'.mono ?_
    rintro e w2 ⟨rfl, hb2⟩
    clear j0 j1 s2'
    have hB2 : Below w.heap.size w w2 := hB1.trans (hb2.mono hB1.size)
    have q1 := row_below q0 hb2 lq0
    have lq1 := q1.lt
    have j0 := q1.cell (i := 0) rfl
    have j1 := q1.cell (i := 1) rfl
    have s3' := s3 w2 hB2
    clear s3
    go_wp2_with fail
    with_reducible refine s3'.mono ?_
    rintro e w3 ⟨rfl, hb3⟩
    clear j0 j1 s3'
    have hB3 : Below w.heap.size w w3 := hB2.trans (hb3.mono hB2.size)
    have q2 := row_below q1 hb3 lq1
    have j0 := q2.cell (i := 0) rfl
    have j1 := q2.cell (i := 1) rfl
    have s4' := s4 w3 hB3
    clear s4
    go_wp2_with fail
    with_reducible refine s4'.mono ?_
    rintro e w4 ⟨rfl, hb4⟩
    go_wp2_with fail
    go_ret
    exact ⟨rfl, hB3.trans (hb4.mono hB3.size)⟩
  · have e1 : (fixCode n us zs == 0) = false := by rw [beq_eq_false_iff_ne]; exact hc1
    have e2 : (fixCode n us zs != 0) = true := by rw [bne_iff_ne]; exact hc1
    rw [e1] at s1
    clear hc hc1 e1 s2 s4
    generalize fixCode n us zs = c at *
    go_enter Tryd.func7, Tryd.ntmps7
    go_wp2_with fail
    with_reducible refine s1.mono ?_
    rintro e w1 ⟨rfl, hb1⟩
    have q0 := row_below r0 hb1 lt0
    clear i0 i1
    have j0 := q0.cell (i := 0) rfl
    have j1 := q0.cell (i := 1) rfl
    have hB1 : Below w.heap.size w w1 := hb0.trans (hb1.mono (by omega))
    have s3' := s3 w1 hB1
    clear s3
    go_wp2_with fail
    with_reducible refine s3'.mono ?_
    rintro e w3 ⟨rfl, hb3⟩
    go_wp2_with fail
    go_ret
    exact ⟨rfl, hB1.trans (hb3.mono hB1.size)⟩

set_option maxRecDepth 100000 in
set_option maxHeartbeats 4000000 in
theorem frol_yes (a : Option Addr) (cap : Nat) (us : List Nat) (ag : Option Addr) (cg : Nat) (zs : List Int) (ah : Option Addr) (ch : Nat) (ys : List Int) (n₀ : Nat) (hf : Fit us) (h63 : zs.length ≤ 9223372036854775807) (h64 : ys.length ≤ 9223372036854775807) (w : World) (hT : TabAt w) (hw : IsWords n₀ w a us) (hz : ZInts n₀ w ag zs) (hy : ZInts n₀ w ah ys) (hg : 0 < n₀) (hn₀ : n₀ ≤ w.heap.size) (hc : codeOf us.length us = 0) (hm : mapCode us zs = 0) (hm2 : mapCode us ys = 0) :
    Calls Tryd.prog 7 #[.agg #[.int .i64 us.length, .slice a us.length cap], .slice ag zs.length cg, .slice ah ys.length ch] w fun e w' => e = .returned (.bool true) ∧ Below w.heap.size w w' := by
  have hTW : ∀ {W}, Below w.heap.size w W → TabAt W := fun hW => hT.below hW (by omega)
  have hwW : ∀ {W}, Below w.heap.size w W → IsWords n₀ W a us := fun hW => hw.below (hW.mono hn₀)
  have hzW : ∀ {W}, Below w.heap.size w W → ZInts n₀ W ag zs := fun hW => hz.below (hW.mono hn₀)
  have hyW : ∀ {W}, Below w.heap.size w W → ZInts n₀ W ah ys := fun hW => hy.below (hW.mono hn₀)
  have hnW : ∀ {W}, Below w.heap.size w W → n₀ ≤ W.heap.size := fun hW => by have := hW.size; omega
  have hord := (code_zero hc).2.2.2.2
  have hl16 : us.length ≤ 16 := by have := code_zero hc; omega
  obtain ⟨hI, hmo⟩ := mapCode_zero hm
  obtain ⟨hI2, hmo2⟩ := mapCode_zero hm2
  have hmap := into_map hI
  have hmap2 := into_map hI2
  have hmo := monoB_true.1 hmo
  have hmo2 := monoB_true.1 hmo2
  have HZ := hide (intoB_true.1 hI).1
  have HY := hide (intoB_true.1 hI2).1
  have hzi : ∀ {W}, Below w.heap.size w W → IsInts n₀ W ag (mapN zs) := fun hW => mapN_ints (intoB_true.1 hI).2 (hzW hW)
  have hyi : ∀ {W}, Below w.heap.size w W → IsInts n₀ W ah (mapN ys) := fun hW => mapN_ints (intoB_true.1 hI2).2 (hyW hW)
  obtain ⟨r0, hb0, hs0⟩ := one_row w 24 (.int .i64 us.length) (.slice a us.length cap) rfl
  have s1 := mapped_any us.length a cap us ag cg zs n₀ hf h63 _ (hwW hb0) (hzW hb0) (hnW hb0)
  have s2 : ∀ W, Below w.heap.size w W → _ := fun W hW => mapped_any us.length a cap us ah ch ys n₀ hf h64 W (hwW hW) (hyW hW) (hnW hW)
  rw [fixCode_map hc, hm] at s1
  rw [fixCode_map hc, hm2] at s2
  have HL := hide (show ∀ (fs gs : List Nat), mapCode us (toZ (compN fs gs)) = 0 → (compN fs gs).length = us.length → ∀ (L : Nat), L = us.length → ∀ W av cv B, Below w.heap.size w W → W.ownsRow B 3 1 (.slice av L cv) L (ivals (compN fs gs)) → Calls Tryd.prog 13 #[.agg #[.int .i64 us.length, .slice a us.length cap], .slice av L cv] W fun e w' => Below W.heap.size W w' ∧ ((endCode us.length us zs ≠ 0 ∧ e = endErr (endCode us.length us zs)) ∨ (endCode us.length us zs = 0 ∧ ∃ b y K, IsBot us b ∧ ComesTo (compN fs gs) b y K ∧ y < us.length ∧ e = .returned (.tuple #[.int .i64 (y : Nat), .int .i64 (K : Nat), .int .i64 0]))) from fun fs gs hm3 hlc L hL W av cv B hW hown => by
    subst hL
    have h := Least_all us.length a cap us av cv (toZ (compN fs gs)) W.heap.size hf (by rw [toZ_len, hlc]; omega) W (hTW hW) ((hwW hW).mono (hnW hW)) (ownsRow_ints hown).z (by have := hnW hW; omega) (Nat.le_refl _)
    rw [toZ_len, hlc, end_same (zs := toZ (compN fs gs)) (ys := zs) hc (hm3.trans hm.symm), mapN_toZ] at h
    refine h.mono ?_
    rintro e w' ⟨hb, hh⟩
    refine ⟨hb, hh.imp id ?_⟩
    rintro ⟨h0, b, y, K, h1, h2, _, h3, he⟩
    exact ⟨h0, b, y, K, h1, h2, h3, he⟩)
  have lzy : (mapN zs).length = us.length := hmap.len
  have lyy : (mapN ys).length = us.length := hmap2.len
  have hcA : ∀ W, Below w.heap.size w W → _ := fun W hW => composed_any ag cg (mapN zs) ah ch (mapN ys) n₀ (by omega) (fun i hi => by rw [lzy]; rw [lyy] at hi; exact hmap2.lt i hi) W (hzi hW) (hyi hW) (hnW hW)
  have hcB : ∀ W, Below w.heap.size w W → _ := fun W hW => composed_any ah ch (mapN ys) ag cg (mapN zs) n₀ (by omega) (fun i hi => by rw [lyy]; rw [lzy] at hi; exact hmap.lt i hi) W (hyi hW) (hzi hW) (hnW hW)
  rw [mapN_len, mapN_len] at hcA hcB
  have hL1 := HL.out (mapN zs) (mapN ys) (map_code (comp_map hmap hmap2) (comp_mono hmo hmap2 hmo2)) (comp_map hmap hmap2).len ys.length HY.out
  have hL2 := HL.out (mapN ys) (mapN zs) (map_code (comp_map hmap2 hmap) (comp_mono hmo2 hmap hmo)) (comp_map hmap2 hmap).len zs.length HZ.out
  unfold endErr at hL1 hL2
  clear HL hc hm hm2 hI hI2 lzy lyy
  generalize endCode us.length us zs = c at *
  have lt0 := r0.lt
  have i0 := r0.cell (i := 0) rfl
  have i1 := r0.cell (i := 1) rfl
  go_enter Tryd.func7, Tryd.ntmps7
  go_wp2_with fail
  with_reducible refine s1.mono ?_
  rintro e w1 ⟨rfl, hb1⟩
  have q0 := row_below r0 hb1 lt0
  have lq0 := q0.lt
  clear i0 i1 s1
  have j0 := q0.cell (i := 0) rfl
  have j1 := q0.cell (i := 1) rfl
  have hB1 : Below w.heap.size w w1 := hb0.trans (hb1.mono (by omega))
  have s2' := s2 w1 hB1
  clear s2
  go_wp2_with fail
  with_reducible refine s2'.mono ?_
  rintro e w2 ⟨rfl, hb2⟩
  clear j0 j1 s2'
  have hB2 : Below w.heap.size w w2 := hB1.trans (hb2.mono hB1.size)
  have q1 := row_below q0 hb2 lq0
  have lq1 := q1.lt
  have j0 := q1.cell (i := 0) rfl
  have j1 := q1.cell (i := 1) rfl
  have k0 := hb2
  clear k0
  by_cases h0 : c = 0
  · have hM1 : ∀ W av cv B, Below w.heap.size w W → W.ownsRow B 3 1 (.slice av ys.length cv) ys.length (ivals (compN (mapN zs) (mapN ys))) → Calls Tryd.prog 13 #[.agg #[.int .i64 us.length, .slice a us.length cap], .slice av ys.length cv] W fun e w' => ∃ b y K, e = .returned (.tuple #[.int .i64 (y : Nat), .int .i64 (K : Nat), .int .i64 0]) ∧ Below W.heap.size W w' ∧ IsBot us b ∧ ComesTo (compN (mapN zs) (mapN ys)) b y K ∧ y < us.length := fun W av cv B h1 h2 => by
      refine (hL1 W av cv B h1 h2).mono ?_
      rintro e w' ⟨hb, hh⟩
      obtain ⟨_, b, y, K, g1, g2, g3, g4⟩ := hh.resolve_left fun h => h.1 h0
      exact ⟨b, y, K, g4, hb, g1, g2, g3⟩
    have hM2 : ∀ W av cv B, Below w.heap.size w W → W.ownsRow B 3 1 (.slice av zs.length cv) zs.length (ivals (compN (mapN ys) (mapN zs))) → Calls Tryd.prog 13 #[.agg #[.int .i64 us.length, .slice a us.length cap], .slice av zs.length cv] W fun e w' => ∃ b y K, e = .returned (.tuple #[.int .i64 (y : Nat), .int .i64 (K : Nat), .int .i64 0]) ∧ Below W.heap.size W w' ∧ IsBot us b ∧ ComesTo (compN (mapN ys) (mapN zs)) b y K ∧ y < us.length := fun W av cv B h1 h2 => by
      refine (hL2 W av cv B h1 h2).mono ?_
      rintro e w' ⟨hb, hh⟩
      obtain ⟨_, b, y, K, g1, g2, g3, g4⟩ := hh.resolve_left fun h => h.1 h0
      exact ⟨b, y, K, g4, hb, g1, g2, g3⟩
    clear hL1 hL2 h0
    have HR := hide (show ∀ b y1 K1 b2 y2 K2, IsBot us b → IsBot us b2 → ComesTo (compN (mapN zs) (mapN ys)) b y1 K1 → ComesTo (compN (mapN ys) (mapN zs)) b2 y2 K2 → y1 < us.length → y2 < us.length → wd (mapN zs) y2 = y1 from fun b y1 K1 b2 y2 K2 g1 g2 g3 g4 g5 g6 => (rolls hord hmap hmo hmap2 hmo2 g1 g2 g3 g4 g5 g6).symm)
    have hlm := hmap.len
    clear hmap hmap2 hmo hmo2 hord
    go_wp2_with fail
    have hBd : Below w2.heap.size w2 w2.drew := (Below.refl _ _).drew
    have hBe := hB2.trans (hBd.mono hB2.size)
    have qd := row_below q1 hBd lq1
    have lqd := qd.lt
    have hsd := hBe.size
    go_region_held3 (fun w' => w'.cell? ⟨w.heap.size, 0, none⟩ = some (.int .i64 us.length) ∧ w'.cell? ⟨w.heap.size, 1, none⟩ = some (.slice a us.length cap)) (first | go_keep | (refine ⟨?_, ?_⟩ <;> assumption))
      (first
        | (go_at_call 20; refine (hcA _ hBe).mono ?_; rintro e w3 ⟨av, cv, rfl, hb3, own3⟩; have hB3 := hBe.trans (hb3.mono hsd); have p0 := row_below qd hb3 lqd; have lp0 := p0.lt; have p00 := p0.cell (i := 0) rfl; have p01 := p0.cell (i := 1) rfl)
        | (go_at_call 13; refine (hM1 _ av cv _ hB3 own3).mono ?_; rintro e w4 ⟨b, y, K, rfl, hb4, hbot, hcy, hy⟩; have hB4 := hB3.trans (hb4.mono hB3.size); have m0 := row_below p0 hb4 lp0; have lm0 := m0.lt; have m00 := m0.cell (i := 0) rfl; have m01 := m0.cell (i := 1) rfl))
    clear p00 p01 j0 j1
    go_wp2_with fail
    have hBd4 : Below w4.heap.size w4 w4.drew := (Below.refl _ _).drew
    have hBe4 := hB4.trans (hBd4.mono hB4.size)
    have qd4 := row_below m0 hBd4 lm0
    have lqd4 := qd4.lt
    have hsd4 := hBe4.size
    go_region_held3 (fun w' => w'.cell? ⟨w.heap.size, 0, none⟩ = some (.int .i64 us.length) ∧ w'.cell? ⟨w.heap.size, 1, none⟩ = some (.slice a us.length cap)) (first | go_keep | (refine ⟨?_, ?_⟩ <;> assumption))
      (first
        | (go_at_call 20; refine (hcB _ hBe4).mono ?_; rintro e w5 ⟨av5, cv5, rfl, hb5, own5⟩; have hB5 := hBe4.trans (hb5.mono hsd4); have p0 := row_below qd4 hb5 lqd4; have lp0 := p0.lt; have p00 := p0.cell (i := 0) rfl; have p01 := p0.cell (i := 1) rfl)
        | (go_at_call 13; refine (hM2 _ av5 cv5 _ hB5 own5).mono ?_; rintro e w6 ⟨b2, z, M, rfl, hb6, hbot2, hcz, hzl⟩; have hB6 := hB5.trans (hb6.mono hB5.size); have m0 := row_below p0 hb6 lp0; have lm0 := m0.lt; have k0 := m0.cell (i := 0) rfl; have k1 := m0.cell (i := 1) rfl))
    have hr := HR.out _ _ _ _ _ _ hbot hbot2 hcy hcz hy hzl
    clear p00 p01 m00 m01 hcy hcz hbot hbot2
    obtain ⟨bf, off, hag, hbf, hcf⟩ := (hzi hB6).at (i := z) (by rw [hlm]; exact hzl)
    subst hag
    have cz := hcf z (by rw [hlm]; exact hzl)
    rw [hr] at cz
    have hbf3 : bf < w6.heap.size := by have := hnW hB6; omega
    have hzz : z < zs.length := by rw [HZ.out]; exact hzl
    have wi := kwithin2 us.length (y : Int) (z : Int) w6
    rw [allInB_true.2 (allIn2.2 ⟨⟨by omega, by omega⟩, ⟨by omega, by omega⟩⟩)] at wi
    have e1 : ((y : Int) == (y : Int)) = true := by simp
    clear hcf hr
    go_wp2_with fail
    with_reducible refine wi.mono ?_
    rintro e w7 ⟨rfl, hww⟩
    have hb7 : Below w6.heap.size w6 w7 := by rw [hww]; exact (Below.refl _ _).alloc (Nat.le_refl _) _
    have cz7 := (hb7.cell (p := ⟨bf, off + z, none⟩) hbf3).trans cz
    clear hww wi k0 k1 cz
    go_wp2_with fail
    go_ret
    exact ⟨rfl, hB6.trans (hb7.mono hB6.size)⟩
  · have hN1 : ∀ W av cv B, Below w.heap.size w W → W.ownsRow B 3 1 (.slice av ys.length cv) ys.length (ivals (compN (mapN zs) (mapN ys))) → Calls Tryd.prog 13 #[.agg #[.int .i64 us.length, .slice a us.length cap], .slice av ys.length cv] W fun e w' => e = .returned (.tuple #[.int .i64 0, .int .i64 0, .int .i64 c]) ∧ Below W.heap.size W w' := fun W av cv B h1 h2 => (hL1 W av cv B h1 h2).mono fun e w' ⟨hb, hh⟩ => ⟨(hh.resolve_right fun h => h0 h.1).2, hb⟩
    have hN2 : ∀ W av cv B, Below w.heap.size w W → W.ownsRow B 3 1 (.slice av zs.length cv) zs.length (ivals (compN (mapN ys) (mapN zs))) → Calls Tryd.prog 13 #[.agg #[.int .i64 us.length, .slice a us.length cap], .slice av zs.length cv] W fun e w' => e = .returned (.tuple #[.int .i64 0, .int .i64 0, .int .i64 c]) ∧ Below W.heap.size W w' := fun W av cv B h1 h2 => (hL2 W av cv B h1 h2).mono fun e w' ⟨hb, hh⟩ => ⟨(hh.resolve_right fun h => h0 h.1).2, hb⟩
    have e1 : (c != 0) = true := by rw [bne_iff_ne]; exact h0
    have e0 : (c == c) = true := by simp
    clear hL1 hL2 h0 hmap hmap2 hmo hmo2 hord
    go_wp2_with fail
    have hBd : Below w2.heap.size w2 w2.drew := (Below.refl _ _).drew
    have hBe := hB2.trans (hBd.mono hB2.size)
    have qd := row_below q1 hBd lq1
    have lqd := qd.lt
    have hsd := hBe.size
    go_region_held3 (fun w' => w'.cell? ⟨w.heap.size, 0, none⟩ = some (.int .i64 us.length) ∧ w'.cell? ⟨w.heap.size, 1, none⟩ = some (.slice a us.length cap)) (first | go_keep | (refine ⟨?_, ?_⟩ <;> assumption))
      (first
        | (go_at_call 20; refine (hcA _ hBe).mono ?_; rintro e w3 ⟨av, cv, rfl, hb3, own3⟩; have hB3 := hBe.trans (hb3.mono hsd); have p0 := row_below qd hb3 lqd; have lp0 := p0.lt; have p00 := p0.cell (i := 0) rfl; have p01 := p0.cell (i := 1) rfl)
        | (go_at_call 13; refine (hN1 _ av cv _ hB3 own3).mono ?_; rintro e w4 ⟨rfl, hb4⟩; have hB4 := hB3.trans (hb4.mono hB3.size); have m0 := row_below p0 hb4 lp0; have lm0 := m0.lt; have m00 := m0.cell (i := 0) rfl; have m01 := m0.cell (i := 1) rfl))
    clear p00 p01 j0 j1
    go_wp2_with fail
    have hBd4 : Below w4.heap.size w4 w4.drew := (Below.refl _ _).drew
    have hBe4 := hB4.trans (hBd4.mono hB4.size)
    have qd4 := row_below m0 hBd4 lm0
    have lqd4 := qd4.lt
    have hsd4 := hBe4.size
    go_region_held3 (fun w' => w'.cell? ⟨w.heap.size, 0, none⟩ = some (.int .i64 us.length) ∧ w'.cell? ⟨w.heap.size, 1, none⟩ = some (.slice a us.length cap)) (first | go_keep | (refine ⟨?_, ?_⟩ <;> assumption))
      (first
        | (go_at_call 20; refine (hcB _ hBe4).mono ?_; rintro e w5 ⟨av5, cv5, rfl, hb5, own5⟩; have hB5 := hBe4.trans (hb5.mono hsd4); have p0 := row_below qd4 hb5 lqd4; have lp0 := p0.lt; have p00 := p0.cell (i := 0) rfl; have p01 := p0.cell (i := 1) rfl)
        | (go_at_call 13; refine (hN2 _ av5 cv5 _ hB5 own5).mono ?_; rintro e w6 ⟨rfl, hb6⟩; have hB6 := hB5.trans (hb6.mono hB5.size); have m0 := row_below p0 hb6 lp0; have lm0 := m0.lt; have k0 := m0.cell (i := 0) rfl; have k1 := m0.cell (i := 1) rfl))
    go_wp2_with fail
    go_ret
    exact ⟨rfl, hB6⟩

/-- **FixedRolls answers true, for every order and any numbers, and writes nothing that was there** -/
theorem frol_any (n : Int) (a : Option Addr) (cap : Nat) (us : List Nat) (ag : Option Addr) (cg : Nat) (zs : List Int) (ah : Option Addr) (ch : Nat) (ys : List Int) (n₀ : Nat) (hf : Fit us) (h63 : zs.length ≤ 9223372036854775807) (h64 : ys.length ≤ 9223372036854775807) (w : World) (hT : TabAt w) (hw : IsWords n₀ w a us) (hz : ZInts n₀ w ag zs) (hy : ZInts n₀ w ah ys) (hg : 0 < n₀) (hn₀ : n₀ ≤ w.heap.size) :
    Calls Tryd.prog 7 #[.agg #[.int .i64 n, .slice a us.length cap], .slice ag zs.length cg, .slice ah ys.length ch] w fun e w' => e = .returned (.bool true) ∧ Below w.heap.size w w' := by
  by_cases hc1 : fixCode n us zs = 0
  · by_cases hc2 : fixCode n us ys = 0
    · by_cases h0 : codeOf n us = 0
      · have en := (code_zero h0).2.2.1.symm
        subst en
        rw [fixCode_map h0] at hc1 hc2
        exact frol_yes a cap us ag cg zs ah ch ys n₀ hf h63 h64 w hT hw hz hy hg hn₀ h0 hc1 hc2
      · rw [fixCode_bad h0] at hc1; exact absurd hc1 h0
    · exact frol_no n a cap us ag cg zs ah ch ys n₀ hf h63 h64 w hT hw hz hy hg hn₀ (.inr hc2)
  · exact frol_no n a cap us ag cg zs ah ch ys n₀ hf h63 h64 w hT hw hz hy hg hn₀ (.inl hc1)
end Go.Proofs.YtemabboecmkoaaaDoor
