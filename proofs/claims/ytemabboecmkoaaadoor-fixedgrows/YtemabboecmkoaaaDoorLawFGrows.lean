/- The walk of the law FixedGrows: it answers true, and writes nothing that was there. -/
import Derived.Test.YtemabboecmkoaaaDoorFixMore
namespace Go.Proofs.YtemabboecmkoaaaDoor
open Go.RowKit Go.Shelf

set_option maxRecDepth 100000 in
set_option maxHeartbeats 2000000 in
theorem fgro_no (n : Int) (a : Option Addr) (cap : Nat) (us : List Nat) (ag : Option Addr) (cg : Nat) (zs : List Int) (ah : Option Addr) (ch : Nat) (ys : List Int) (n₀ : Nat) (hf : Fit us) (h63 : zs.length ≤ 9223372036854775807) (h64 : ys.length ≤ 9223372036854775807) (w : World) (hT : TabAt w) (hw : IsWords n₀ w a us) (hz : ZInts n₀ w ag zs) (hy : ZInts n₀ w ah ys) (hg : 0 < n₀) (hn₀ : n₀ ≤ w.heap.size) (hc : fixCode n us zs ≠ 0 ∨ fixCode n us ys ≠ 0) :
    Calls Tryd.prog 8 #[.agg #[.int .i64 n, .slice a us.length cap], .slice ag zs.length cg, .slice ah ys.length ch] w fun e w' => e = .returned (.bool true) ∧ Below w.heap.size w w' := by
  have hTW : ∀ {W}, Below w.heap.size w W → TabAt W := fun hW => hT.below hW (by omega)
  have hwW : ∀ {W}, Below w.heap.size w W → IsWords n₀ W a us := fun hW => hw.below (hW.mono hn₀)
  have hzW : ∀ {W}, Below w.heap.size w W → ZInts n₀ W ag zs := fun hW => hz.below (hW.mono hn₀)
  have hyW : ∀ {W}, Below w.heap.size w W → ZInts n₀ W ah ys := fun hW => hy.below (hW.mono hn₀)
  have hnW : ∀ {W}, Below w.heap.size w W → n₀ ≤ W.heap.size := fun hW => by have := hW.size; omega
  obtain ⟨r0, hb0, hs0⟩ := one_row w 24 (.int .i64 n) (.slice a us.length cap) rfl
  have s1 := mapped_any n a cap us ag cg zs n₀ hf h63 _ (hwW hb0) (hzW hb0) (hnW hb0)
  have s2 : ∀ W, Below w.heap.size w W → _ := fun W hW => mapped_any n a cap us ah ch ys n₀ hf h64 W (hwW hW) (hyW hW) (hnW hW)
  have s3 : ∀ W, Below w.heap.size w W → _ := fun W hW => FCheck_any n a cap us ag cg zs n₀ hf h63 W (hTW hW) (hwW hW) (hzW hW) hg (hnW hW)
  have s4 : ∀ W, Below w.heap.size w W → _ := fun W hW => FCheck_any n a cap us ah ch ys n₀ hf h64 W (hTW hW) (hwW hW) (hyW hW) hg (hnW hW)
  have lt0 := r0.lt
  have i0 := r0.cell (i := 0) rfl
  have i1 := r0.cell (i := 1) rfl
  by_cases hc1 : fixCode n us zs = 0
  · have hc2 := hc.resolve_left fun h => h hc1
    have e1 : (fixCode n us ys == 0) = false := by rw [beq_eq_false_iff_ne]; exact hc2
    have e2 : (fixCode n us ys != 0) = true := by rw [bne_iff_ne]; exact hc2
    have e3 : (fixCode n us zs == 0) = true := by rw [hc1]; rfl
    rw [e3] at s1
    rw [hc1] at s3
    rw [e1] at s2
    clear hc hc2 hc1 e1 e3
    generalize fixCode n us ys = c at *
    go_enter Tryd.func8, Tryd.ntmps8
    go_wp2_with fail
    with_reducible refine s1.mono ?_
    rintro e w1 ⟨rfl, hb1⟩
    have q0 := row_below r0 hb1 lt0
    have lq0 := q0.lt
    clear i0 i1 s1
    have j0 := q0.cell (i := 0) rfl
    have j1 := q0.cell (i := 1) rfl
    have hB1 : Below w.heap.size w w1 := hb0.trans (hb1.mono (by omega))
    have s2' := s2 w1 hB1
    clear s2
    go_wp2_with fail
    with_reducible refine s2'.mono ?_
    rintro e w2 ⟨rfl, hb2⟩
    clear j0 j1 s2'
    have hB2 : Below w.heap.size w w2 := hB1.trans (hb2.mono hB1.size)
    have q1 := row_below q0 hb2 lq0
    have lq1 := q1.lt
    have j0 := q1.cell (i := 0) rfl
    have j1 := q1.cell (i := 1) rfl
    have s3' := s3 w2 hB2
    clear s3
    go_wp2_with fail
    with_reducible refine s3'.mono ?_
    rintro e w3 ⟨rfl, hb3⟩
    clear j0 j1 s3'
    have hB3 : Below w.heap.size w w3 := hB2.trans (hb3.mono hB2.size)
    have q2 := row_below q1 hb3 lq1
    have j0 := q2.cell (i := 0) rfl
    have j1 := q2.cell (i := 1) rfl
    have s4' := s4 w3 hB3
    clear s4
    go_wp2_with fail
    with_reducible refine s4'.mono ?_
    rintro e w4 ⟨rfl, hb4⟩
    go_wp2_with fail
    go_ret
    exact ⟨rfl, hB3.trans (hb4.mono hB3.size)⟩
  · have e1 : (fixCode n us zs == 0) = false := by rw [beq_eq_false_iff_ne]; exact hc1
    have e2 : (fixCode n us zs != 0) = true := by rw [bne_iff_ne]; exact hc1
    rw [e1] at s1
    clear hc hc1 e1 s2 s4
    generalize fixCode n us zs = c at *
    go_enter Tryd.func8, Tryd.ntmps8
    go_wp2_with fail
    with_reducible refine s1.mono ?_
    rintro e w1 ⟨rfl, hb1⟩
    have q0 := row_below r0 hb1 lt0
    clear i0 i1
    have j0 := q0.cell (i := 0) rfl
    have j1 := q0.cell (i := 1) rfl
    have hB1 : Below w.heap.size w w1 := hb0.trans (hb1.mono (by omega))
    have s3' := s3 w1 hB1
    clear s3
    go_wp2_with fail
    with_reducible refine s3'.mono ?_
    rintro e w3 ⟨rfl, hb3⟩
    go_wp2_with fail
    go_ret
    exact ⟨rfl, hB1.trans (hb3.mono hB1.size)⟩

set_option maxRecDepth 100000 in
set_option maxHeartbeats 4000000 in
theorem fgro_yes (a : Option Addr) (cap : Nat) (us : List Nat) (ag : Option Addr) (cg : Nat) (zs : List Int) (ah : Option Addr) (ch : Nat) (ys : List Int) (n₀ : Nat) (hf : Fit us) (h63 : zs.length ≤ 9223372036854775807) (h64 : ys.length ≤ 9223372036854775807) (w : World) (hT : TabAt w) (hw : IsWords n₀ w a us) (hz : ZInts n₀ w ag zs) (hy : ZInts n₀ w ah ys) (hg : 0 < n₀) (hn₀ : n₀ ≤ w.heap.size) (hc : codeOf us.length us = 0) (hm : mapCode us zs = 0) (hm2 : mapCode us ys = 0) :
    Calls Tryd.prog 8 #[.agg #[.int .i64 us.length, .slice a us.length cap], .slice ag zs.length cg, .slice ah ys.length ch] w fun e w' => e = .returned (.bool true) ∧ Below w.heap.size w w' := by
  have hTW : ∀ {W}, Below w.heap.size w W → TabAt W := fun hW => hT.below hW (by omega)
  have hwW : ∀ {W}, Below w.heap.size w W → IsWords n₀ W a us := fun hW => hw.below (hW.mono hn₀)
  have hzW : ∀ {W}, Below w.heap.size w W → ZInts n₀ W ag zs := fun hW => hz.below (hW.mono hn₀)
  have hyW : ∀ {W}, Below w.heap.size w W → ZInts n₀ W ah ys := fun hW => hy.below (hW.mono hn₀)
  have hnW : ∀ {W}, Below w.heap.size w W → n₀ ≤ W.heap.size := fun hW => by have := hW.size; omega
  have hord := (code_zero hc).2.2.2.2
  have hl16 : us.length ≤ 16 := by have := code_zero hc; omega
  obtain ⟨hI, hmo⟩ := mapCode_zero hm
  obtain ⟨hI2, hmo2⟩ := mapCode_zero hm2
  have hmap := into_map hI
  have hmap2 := into_map hI2
  have hmo := monoB_true.1 hmo
  have hmo2 := monoB_true.1 hmo2
  have HZ := hide (intoB_true.1 hI).1
  have HY := hide (intoB_true.1 hI2).1
  have hzi : ∀ {W}, Below w.heap.size w W → IsInts n₀ W ag (mapN zs) := fun hW => mapN_ints (intoB_true.1 hI).2 (hzW hW)
  have hyi : ∀ {W}, Below w.heap.size w W → IsInts n₀ W ah (mapN ys) := fun hW => mapN_ints (intoB_true.1 hI2).2 (hyW hW)
  obtain ⟨r0, hb0, hs0⟩ := one_row w 24 (.int .i64 us.length) (.slice a us.length cap) rfl
  have s1 := mapped_any us.length a cap us ag cg zs n₀ hf h63 _ (hwW hb0) (hzW hb0) (hnW hb0)
  have s2 : ∀ W, Below w.heap.size w W → _ := fun W hW => mapped_any us.length a cap us ah ch ys n₀ hf h64 W (hwW hW) (hyW hW) (hnW hW)
  rw [fixCode_map hc, hm] at s1
  rw [fixCode_map hc, hm2] at s2
  have s3 : ∀ W, Below w.heap.size w W → _ := fun W hW => Least_all us.length a cap us ag cg zs n₀ hf h63 W (hTW hW) (hwW hW) (hzW hW) hg (hnW hW)
  have s4 : ∀ W, Below w.heap.size w W → _ := fun W hW => Least_all us.length a cap us ah ch ys n₀ hf h64 W (hTW hW) (hwW hW) (hyW hW) hg (hnW hW)
  rw [end_same (zs := ys) (ys := zs) hc (hm2.trans hm.symm)] at s4
  unfold endErr at s3 s4
  clear hc hm hm2 hI hI2
  generalize endCode us.length us zs = c at *
  have lt0 := r0.lt
  have i0 := r0.cell (i := 0) rfl
  have i1 := r0.cell (i := 1) rfl
  go_enter Tryd.func8, Tryd.ntmps8
  go_wp2_with fail
  with_reducible refine s1.mono ?_
  rintro e w1 ⟨rfl, hb1⟩
  have q0 := row_below r0 hb1 lt0
  have lq0 := q0.lt
  clear i0 i1 s1
  have j0 := q0.cell (i := 0) rfl
  have j1 := q0.cell (i := 1) rfl
  have hB1 : Below w.heap.size w w1 := hb0.trans (hb1.mono (by omega))
  have s2' := s2 w1 hB1
  clear s2
  go_wp2_with fail
  with_reducible refine s2'.mono ?_
  rintro e w2 ⟨rfl, hb2⟩
  clear j0 j1 s2'
  have hB2 : Below w.heap.size w w2 := hB1.trans (hb2.mono hB1.size)
  have q1 := row_below q0 hb2 lq0
  have lq1 := q1.lt
  have j0 := q1.cell (i := 0) rfl
  have j1 := q1.cell (i := 1) rfl
  have s3' := s3 w2 hB2
  clear s3
  go_wp2_with fail
  with_reducible refine s3'.mono ?_
  rintro e w3 ⟨hb3, hh3⟩
  clear j0 j1 s3'
  have hB3 : Below w.heap.size w w3 := hB2.trans (hb3.mono hB2.size)
  have q2 := row_below q1 hb3 lq1
  have lq2 := q2.lt
  have j0 := q2.cell (i := 0) rfl
  have j1 := q2.cell (i := 1) rfl
  have s4' := s4 w3 hB3
  clear s4
  by_cases h0 : c = 0
  · rcases hh3 with ⟨hx, _⟩ | ⟨_, b, y, K, hbot, hcy, _, hyl, rfl⟩
    · exact absurd h0 hx
    subst h0
    go_wp2_with fail
    with_reducible refine s4'.mono ?_
    rintro e w4 ⟨hb4, hh4⟩
    clear j0 j1 s4'
    rcases hh4 with ⟨hx, _⟩ | ⟨_, b2, z, M, hbot2, hcz, _, hzl, rfl⟩
    · exact absurd rfl hx
    have hB4 : Below w.heap.size w w4 := hB3.trans (hb4.mono hB3.size)
    have hs4 := hB4.size
    have q3 := row_below q2 hb4 lq2
    have lq3 := q3.lt
    have hgr : (∀ x, x < us.length → hasB (wd us (wd (mapN zs) x)) (wd (mapN ys) x) = true) → hasB (wd us y) z = true := fun h => by
      have h1 := h z hzl
      rw [hcz.stay] at h1
      exact ends_down hord hmap hmo hbot hcy hzl h1
    have ey := hcy.stay
    have ez := hcz.stay
    have HM := hide hmap
    have HM2 := hide hmap2
    clear hmap hmap2 hmo hmo2 hcy hcz hbot hbot2 hord q0 q1 q2
    go_wp2_with fail
    go_loopw [13, 14] (fun al i wr => ∃ (k : Nat) (A : Bool), k ≤ us.length ∧ i = .int .i64 k ∧ al = .bool A ∧ Below w4.heap.size w4 wr ∧ (A = true → ∀ x, x < k → hasB (wd us (wd (mapN zs) x)) (wd (mapN ys) x) = true)) (fun _ i _ => us.length - (intOf i).toNat)
    case atStart => exact ⟨0, true, Nat.zero_le _, rfl, rfl, Below.refl _ _, fun _ x hx => by omega⟩
    case round =>
      obtain ⟨k, A, hk, rfl, rfl, hbr, hall⟩ := hrel
      have qr := row_below q3 hbr lq3
      have hBr := hB4.trans (hbr.mono hs4)
      have hsr := hbr.size
      have r00 := qr.cell (i := 0) rfl
      have r01 := qr.cell (i := 1) rfl
      by_cases hlt : k < us.length
      · obtain ⟨bf, off, hag, hbf, hcf⟩ := (hzi hBr).at (i := k) (by rw [HM.out.len]; exact hlt)
        obtain ⟨bh, offh, hah, hbh, hch⟩ := (hyi hBr).at (i := k) (by rw [HM2.out.len]; exact hlt)
        subst hag
        subst hah
        have ck := hcf k (by rw [HM.out.len]; exact hlt)
        have dk := hch k (by rw [HM2.out.len]; exact hlt)
        have hkz : k < zs.length := by rw [HZ.out]; exact hlt
        have hky : k < ys.length := by rw [HY.out]; exact hlt
        have hfk := HM.out.lt k hlt
        have hgk := HM2.out.lt k hlt
        clear hcf hch
        have c1 : ∀ r, hasB (wd us (wd (mapN zs) k)) (wd (mapN ys) k) = r → ∀ d os, _ := fun r hr d os => kbelow_q us.length a cap us n₀ hf hl16 wr (hwW hBr) (hnW hBr) (wd (mapN zs) k) (wd (mapN ys) k) r hfk hgk hr d os
        cases hu : hasB (wd us (wd (mapN zs) k)) (wd (mapN ys) k)
        all_goals
          first
          | have HU := hide (show ∀ x, x = k → hasB (wd us (wd (mapN zs) x)) (wd (mapN ys) x) = true from fun x e => by rw [e]; exact hu)
          | have HU := hide (show ∀ x, x = k → hasB (wd us (wd (mapN zs) x)) (wd (mapN ys) x) = false from fun x e => by rw [e]; exact hu)
          have c1 := c1 _ hu
          clear hu hfk hgk
          generalize wd (mapN zs) k = fk at *
          generalize wd (mapN ys) k = gk at *
          have k0 := cell_regrown r00
          have k1 := cell_regrown r01
          have k2 := cell_regrown ck
          have k3 := cell_regrown dk
          clear r01 ck dk
          go_wp2_with fail
          refine wp_region_quiet_below (by kernel_rfl) (by kernel_rfl) ?_
          repeat (go_big_quiet_step (with_reducible exact c1 _ _))
          refine wpQuiet_nil ?_
          intro _ hw'
          obtain ⟨⟨dq, osq⟩, hw''⟩ := hw'
          subst hw''
          go_wp2_with fail
          go_roundw
          case rel => first
            | exact ⟨k + 1, false, by omega, by go_num, rfl, hbr.trans ((below_regrown _ dq osq).mono hsr), fun h => by cases h⟩
            | exact ⟨k + 1, A, by omega, by go_num, rfl, hbr.trans ((below_regrown _ dq osq).mono hsr), fun h x hx => by
                by_cases e : x = k
                · exact HU.out x e
                · exact hall h x (by omega)⟩
          case measure => simp [intOf]; omega
      · obtain rfl : k = us.length := by omega
        have HA := hide hall
        clear hall hlt
        obtain ⟨bf, off, hag, hbf, hcf⟩ := (hzi hBr).at (i := y) (by rw [HM.out.len]; exact hyl)
        obtain ⟨bh, offh, hah, hbh, hch⟩ := (hyi hBr).at (i := z) (by rw [HM2.out.len]; exact hzl)
        subst hag
        subst hah
        have cy := hcf y (by rw [HM.out.len]; exact hyl)
        have cz := hch z (by rw [HM2.out.len]; exact hzl)
        rw [ey] at cy
        rw [ez] at cz
        have hbf3 : bf < wr.heap.size := by have := hnW hBr; omega
        have hbh3 : bh < wr.heap.size := by have := hnW hBr; omega
        have hyz : y < zs.length := by rw [HZ.out]; exact hyl
        have hzy : z < ys.length := by rw [HY.out]; exact hzl
        have wi := kwithin2 us.length (y : Int) (z : Int) wr
        rw [allInB_true.2 (allIn2.2 ⟨⟨by omega, by omega⟩, ⟨by omega, by omega⟩⟩)] at wi
        have e1 : ((y : Int) == (y : Int)) = true := by simp
        have e2 : ((z : Int) == (z : Int)) = true := by simp
        clear hcf hch ey ez
        have lqr := qr.lt
        cases A
        all_goals
          go_wp2_with fail
          with_reducible refine wi.mono ?_
          rintro e w5 ⟨rfl, hww⟩
          have hb5 : Below wr.heap.size wr w5 := by rw [hww]; exact (Below.refl _ _).alloc (Nat.le_refl _) _
          clear hww wi r00 r01
          have hB5 := hBr.trans (hb5.mono hBr.size)
          have q4 := row_below qr hb5 lqr
          have k0 := q4.cell (i := 0) rfl
          have k1 := q4.cell (i := 1) rfl
          have cy5 := (hb5.cell (p := ⟨bf, off + y, none⟩) hbf3).trans cy
          have cz5 := (hb5.cell (p := ⟨bh, offh + z, none⟩) hbh3).trans cz
          clear cy cz
        · go_wp2_with fail
          go_ret
          exact ⟨rfl, hB5⟩
        · have sb := kbelow_any us.length a cap us y z n₀ hf hyl (by omega) w5 (hwW hB5) (hnW hB5)
          rw [hgr (HA.out trivial)] at sb
          clear hgr
          go_wp2_with fail
          with_reducible refine sb.mono ?_
          rintro e w6 ⟨rfl, hb6⟩
          go_wp2_with fail
          go_ret
          exact ⟨rfl, hB5.trans (hb6.mono hB5.size)⟩
  · have hh3 := hh3.resolve_right fun h => h0 h.1
    obtain ⟨_, rfl⟩ := hh3
    have e1 : (c != 0) = true := by rw [bne_iff_ne]; exact h0
    have s5 := s4'.mono (R' := fun e w' => e = Ending.returned (.tuple #[.int .i64 0, .int .i64 0, .int .i64 c]) ∧ Below w3.heap.size w3 w') (fun e w' h => ⟨(h.2.resolve_right fun h' => h0 h'.1).2, h.1⟩)
    clear h0 s4' hmap hmo hord
    go_wp2_with fail
    with_reducible refine s5.mono ?_
    rintro e w4 ⟨rfl, hb4⟩
    go_wp2_with fail
    go_ret
    exact ⟨rfl, hB3.trans (hb4.mono hB3.size)⟩

/-- **FixedGrows answers true, for every order and any numbers, and writes nothing that was there** -/
theorem fgro_any (n : Int) (a : Option Addr) (cap : Nat) (us : List Nat) (ag : Option Addr) (cg : Nat) (zs : List Int) (ah : Option Addr) (ch : Nat) (ys : List Int) (n₀ : Nat) (hf : Fit us) (h63 : zs.length ≤ 9223372036854775807) (h64 : ys.length ≤ 9223372036854775807) (w : World) (hT : TabAt w) (hw : IsWords n₀ w a us) (hz : ZInts n₀ w ag zs) (hy : ZInts n₀ w ah ys) (hg : 0 < n₀) (hn₀ : n₀ ≤ w.heap.size) :
    Calls Tryd.prog 8 #[.agg #[.int .i64 n, .slice a us.length cap], .slice ag zs.length cg, .slice ah ys.length ch] w fun e w' => e = .returned (.bool true) ∧ Below w.heap.size w w' := by
  by_cases hc1 : fixCode n us zs = 0
  · by_cases hc2 : fixCode n us ys = 0
    · by_cases h0 : codeOf n us = 0
      · have en := (code_zero h0).2.2.1.symm
        subst en
        rw [fixCode_map h0] at hc1 hc2
        exact fgro_yes a cap us ag cg zs ah ch ys n₀ hf h63 h64 w hT hw hz hy hg hn₀ h0 hc1 hc2
      · rw [fixCode_bad h0] at hc1; exact absurd hc1 h0
    · exact fgro_no n a cap us ag cg zs ah ch ys n₀ hf h63 h64 w hT hw hz hy hg hn₀ (.inr hc2)
  · exact fgro_no n a cap us ag cg zs ah ch ys n₀ hf h63 h64 w hT hw hz hy hg hn₀ (.inl hc1)
end Go.Proofs.YtemabboecmkoaaaDoor
