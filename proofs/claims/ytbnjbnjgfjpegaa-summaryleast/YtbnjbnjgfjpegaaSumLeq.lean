/- The contracts of package summary's Leq, and of the document's SummaryLeq. -/
import Derived.Test.YtbnjbnjgfjpegaaSumCopy
import Derived.Test.YtbnjbnjgfjpegaaSumRe
namespace Go.Proofs.Ytbnjbnjgfjpegaa
open Go.RowKit Go.Shelf

set_option maxRecDepth 100000 in
set_option maxHeartbeats 4000000 in
theorem sleq_any (k1 d1 : Int) (a1 : Option Addr) (cap1 : Nat) (z1 : List Int) (k2 d2 : Int) (a2 : Option Addr) (cap2 : Nat) (z2 : List Int) (n₀ : Nat) (h1 : z1.length ≤ 17592186044416) (h2 : z2.length ≤ 17592186044416) (w : World) (hz1 : ZInts n₀ w a1 z1) (hz2 : ZInts n₀ w a2 z2) (hn₀ : n₀ ≤ w.heap.size) :
    Calls Try.prog 9 #[.agg #[.int .i64 k1, .int .i64 d1, .slice a1 z1.length cap1], .agg #[.int .i64 k2, .int .i64 d2, .slice a2 z2.length cap2]] w fun e w' => e = .returned (.bool (leqM ⟨k1, d1, z1⟩ ⟨k2, d2, z2⟩)) ∧ Below w.heap.size w w' := by
  obtain ⟨r0, r1, hb0, hs0⟩ := sum_rows w (.int .i64 k1) (.int .i64 d1) (.slice a1 z1.length cap1) (.int .i64 k2) (.int .i64 d2) (.slice a2 z2.length cap2) rfl
  obtain ⟨W0, hW0⟩ : ∃ V, (w.alloc (.cells #[.int .i64 k1, .int .i64 d1, .slice a1 z1.length cap1] 32)).alloc (.cells #[.int .i64 k2, .int .i64 d2, .slice a2 z2.length cap2] 32) = V := ⟨_, rfl⟩
  rw [hW0] at r0 r1 hb0 hs0
  have lt0 := r0.lt
  have lt1 := r1.lt
  have hzB : ∀ {W}, Below w.heap.size w W → ZInts n₀ W a1 z1 ∧ ZInts n₀ W a2 z2 ∧ n₀ ≤ W.heap.size := fun hW => ⟨hz1.below (hW.mono hn₀), hz2.below (hW.mono hn₀), by have := hW.size; omega⟩
  have s1 := fun x hx => scheck_re k1 d1 a1 cap1 z1 4 n₀ h1 x hx W0 (hzB hb0).1 (hzB hb0).2.2
  have s2 := fun x hx => scheck_re k2 d2 a2 cap2 z2 4 n₀ h2 x hx W0 (hzB hb0).2.1 (hzB hb0).2.2
  obtain ⟨x0, x1, x2⟩ := r0.re
  obtain ⟨y0, y1, y2⟩ := r1.re
  have HB := hide hb0
  have HS := hide hs0
  clear hb0 hs0
  by_cases hc1 : codeS ⟨k1, d1, z1⟩ 4 = 0
  · have s1' := s1 0 hc1
    clear s1
    by_cases hc2 : codeS ⟨k2, d2, z2⟩ 4 = 0
    · have s2' := s2 0 hc2
      have g1 := good_of (n := 4) hc1
      have g2 := good_of (n := 4) hc2
      have o1 := g1.out4
      have o2 := g2.out4
      have k1a := g1.k1
      have k1b := g1.kn
      have k2a := g2.k1
      have k2b := g2.kn
      dsimp only at o1 o2 k1a k1b k2a k2b
      have m1 := smakes_re k1 d1 a1 cap1 z1 ⟨k1a, by omega⟩ h1 _ o1.2.2.1.symm W0
      have m2 := smakes_re k2 d2 a2 cap2 z2 ⟨k2a, by omega⟩ h2 _ o2.2.2.1.symm W0
      have mW := fun W => smakes_any k1 d1 a1 cap1 z1 ⟨k1a, by omega⟩ h1 W
      rw [o1.2.2.1.symm] at mW
      have hil : ∀ i : Nat, i < (Sm.mk k1 d1 z1).out → (i : Int) < k1 + (z1.length : Int) := fun i hi => by omega
      have hir : (Sm.mk k1 d1 z1).out = (Sm.mk k2 d2 z2).out → ∀ i : Nat, i < (Sm.mk k1 d1 z1).out → (i : Int) < k2 + (z2.length : Int) := fun he i hi => by omega
      have hl1 : z1.length ≤ 4 := by omega
      have hl2 : z2.length ≤ 4 := by omega
      have ho4 : (Sm.mk k1 d1 z1).out ≤ 4 := o1.1
      have Hpre := hide (show (Sm.mk k1 d1 z1).out = (Sm.mk k2 d2 z2).out → preM ⟨k1, d1, z1⟩ ⟨k2, d2, z2⟩ from fun he => ⟨hc1, hc2, he⟩)
      clear s2 o1 o2
      by_cases he : (Sm.mk k1 d1 z1).out = (Sm.mk k2 d2 z2).out
      · have e1 : (((Sm.mk k1 d1 z1).out : Int) != ((Sm.mk k2 d2 z2).out : Int)) = false := by rw [bne_eq_false_iff_eq]; omega
        have hir' := hir he
        clear hir
        have HP := hide (Hpre.out he)
        have HE := hide he
        clear he
        have HO := hide (show ∀ i, i < (Sm.mk k1 d1 z1).out → True from fun _ _ => trivial)
        generalize ho1 : (Sm.mk k1 d1 z1).out = q1 at *
        generalize (Sm.mk k2 d2 z2).out = q2 at *
        have HQ := hide ho1
        clear ho1
        go_enter Try.func9, Try.ntmps9
        go_wp2_with fail
        refine wp_region_quiet_below (by kernel_rfl) (by kernel_rfl) ?_
        repeat (go_big_quiet_step (first | with_reducible exact s1' _ _ | with_reducible exact s2' _ _ | with_reducible exact m1 _ _ | with_reducible exact m2 _ _))
        refine wpQuiet_nil ?_
        intro _ hw'
        obtain ⟨⟨dq, osq⟩, hw''⟩ := hw'
        subst hw''
        clear s1' s2' m1 m2 x0 x1 x2 y0 y1 y2
        obtain ⟨w1, hw1⟩ : ∃ V, Go.Sort.grow (redrawn W0 dq) osq = V := ⟨_, rfl⟩
        have hb1 : Below W0.heap.size W0 w1 := hw1 ▸ below_regrown W0 dq osq
        dsimp only
        rw [hw1]
        clear hw1
        have p0 := row_below r0 hb1 lt0
        have p1 := row_below r1 hb1 lt1
        have hB1 : Below w.heap.size w w1 := HB.out.trans (hb1.mono HB.out.size)
        have l0 := p0.lt
        have l1 := p1.lt
        have x0 := p0.cell (i := 0) rfl
        have x1 := p0.cell (i := 1) rfl
        have x2 := p0.cell (i := 2) rfl
        go_wp2_with fail
        refine (mW _).mono ?_
        rintro e w2 ⟨rfl, hb2⟩
        have p0 := row_below p0 hb2 l0
        have p1 := row_below p1 hb2 l1
        have hB2 : Below w.heap.size w w2 := hB1.trans (hb2.mono hB1.size)
        clear x0 x1 x2 hb1
        go_wp2_with fail
        go_loopw [23] (fun i wr => ∃ j : Nat, j ≤ q1 ∧ i = .int .i64 j ∧ Below w2.heap.size w2 wr ∧ Hid (∀ m, m < j → (Sm.mk k1 d1 z1).at m ≤ (Sm.mk k2 d2 z2).at m ∧ ¬ ((m : Int) < k1 ∧ k2 ≤ (m : Int)))) (fun i _ => q1 - (intOf i).toNat)
        case atStart => exact ⟨0, Nat.zero_le _, rfl, Below.refl _ _, hide fun m hm => by omega⟩
        case round =>
          obtain ⟨j, hj, rfl, hbr, HSo⟩ := hrel
          have hBr : Below w.heap.size w wr := hB2.trans (hbr.mono hB2.size)
          have p0 := row_below p0 hbr p0.lt
          have p1 := row_below p1 hbr p1.lt
          by_cases hlt : j < q1
          · have HFN := hide (fun hh => leqM_no (s := ⟨k1, d1, z1⟩) (r := ⟨k2, d2, z2⟩) (i := j) (by have := HQ.out; omega) hh)
            obtain ⟨x0, x1, x2⟩ := p0.re
            obtain ⟨y0, y1, y2⟩ := p1.re
            have B1 := sbrings_re k1 d1 a1 cap1 z1 j n₀ ⟨k1a, by omega⟩ (hil j hlt) hl1 _ rfl wr (hzB hBr).1 (hzB hBr).2.2
            have B2 := sbrings_re k2 d2 a2 cap2 z2 j n₀ ⟨k2a, by omega⟩ (hir' j hlt) hl2 _ rfl wr (hzB hBr).2.1 (hzB hBr).2.2
            generalize hv1 : (Sm.mk k1 d1 z1).at j = v1 at *
            generalize hv2 : (Sm.mk k2 d2 z2).at j = v2 at *
            have HV := hide (And.intro hv1 hv2)
            clear hv1 hv2
            by_cases c1 : (j : Int) < k1
            · have e2 : decide ((j : Int) < k1) = true := decide_eq_true c1
              by_cases c2 : k2 ≤ (j : Int)
              · have e3 : decide (k2 ≤ (j : Int)) = true := decide_eq_true c2
                have HK := hide (And.intro c1 c2)
                clear c1 c2
                go_wp2_with fail
                refine wp_region_quiet_below (by kernel_rfl) (by kernel_rfl) ?_
                repeat (go_big_quiet_step (first | with_reducible exact B1 _ _ | with_reducible exact B2 _ _))
                refine wpQuiet_nil ?_
                intro _ hw'
                obtain ⟨⟨dq, osq⟩, hw''⟩ := hw'
                subst hw''
                go_wp2_with fail
                go_ret
                exact ⟨ret_bool (HFN.out (.inr HK.out)).symm, hBr.trans ((below_regrown wr dq osq).mono hBr.size)⟩
              · have e3 : decide (k2 ≤ (j : Int)) = false := decide_eq_false c2
                have HK := hide (show ¬ ((j : Int) < k1 ∧ k2 ≤ (j : Int)) from fun h => c2 h.2)
                clear c1 c2
                by_cases c3 : v2 < v1
                · have e4 : decide (v2 < v1) = true := decide_eq_true c3
                  have HU := hide c3
                  clear c3
                  go_wp2_with fail
                  refine wp_region_quiet_below (by kernel_rfl) (by kernel_rfl) ?_
                  repeat (go_big_quiet_step (first | with_reducible exact B1 _ _ | with_reducible exact B2 _ _))
                  refine wpQuiet_nil ?_
                  intro _ hw'
                  obtain ⟨⟨dq, osq⟩, hw''⟩ := hw'
                  subst hw''
                  go_wp2_with fail
                  go_ret
                  exact ⟨ret_bool (HFN.out (.inl HU.out)).symm, hBr.trans ((below_regrown wr dq osq).mono hBr.size)⟩
                · have e4 : decide (v2 < v1) = false := decide_eq_false c3
                  have HU := hide (show v1 ≤ v2 by omega)
                  clear c3
                  go_wp2_with fail
                  refine wp_region_quiet_below (by kernel_rfl) (by kernel_rfl) ?_
                  repeat (go_big_quiet_step (first | with_reducible exact B1 _ _ | with_reducible exact B2 _ _))
                  refine wpQuiet_nil ?_
                  intro _ hw'
                  obtain ⟨⟨dq, osq⟩, hw''⟩ := hw'
                  subst hw''
                  go_wp2_with fail
                  go_roundw
                  case rel => exact ⟨j + 1, by omega, by go_num, hbr.trans ((below_regrown wr dq osq).mono hbr.size), hide fun m hm => by
                    by_cases e : m = j
                    · subst e; rw [HV.out.1, HV.out.2]; exact ⟨HU.out, HK.out⟩
                    · exact HSo.out m (by omega)⟩
                  case measure => simp [intOf]; omega
            · have e2 : decide ((j : Int) < k1) = false := decide_eq_false c1
              have HK := hide (show ¬ ((j : Int) < k1 ∧ k2 ≤ (j : Int)) from fun h => c1 h.1)
              clear c1
              by_cases c3 : v2 < v1
              · have e4 : decide (v2 < v1) = true := decide_eq_true c3
                have HU := hide c3
                clear c3
                go_wp2_with fail
                refine wp_region_quiet_below (by kernel_rfl) (by kernel_rfl) ?_
                repeat (go_big_quiet_step (first | with_reducible exact B1 _ _ | with_reducible exact B2 _ _))
                refine wpQuiet_nil ?_
                intro _ hw'
                obtain ⟨⟨dq, osq⟩, hw''⟩ := hw'
                subst hw''
                go_wp2_with fail
                go_ret
                exact ⟨ret_bool (HFN.out (.inl HU.out)).symm, hBr.trans ((below_regrown wr dq osq).mono hBr.size)⟩
              · have e4 : decide (v2 < v1) = false := decide_eq_false c3
                have HU := hide (show v1 ≤ v2 by omega)
                clear c3
                go_wp2_with fail
                refine wp_region_quiet_below (by kernel_rfl) (by kernel_rfl) ?_
                repeat (go_big_quiet_step (first | with_reducible exact B1 _ _ | with_reducible exact B2 _ _))
                refine wpQuiet_nil ?_
                intro _ hw'
                obtain ⟨⟨dq, osq⟩, hw''⟩ := hw'
                subst hw''
                go_wp2_with fail
                go_roundw
                case rel => exact ⟨j + 1, by omega, by go_num, hbr.trans ((below_regrown wr dq osq).mono hbr.size), hide fun m hm => by
                  by_cases e : m = j
                  · subst e; rw [HV.out.1, HV.out.2]; exact ⟨HU.out, HK.out⟩
                  · exact HSo.out m (by omega)⟩
                case measure => simp [intOf]; omega
          · have HF := hide (leqM_true.2 (show preM ⟨k1, d1, z1⟩ ⟨k2, d2, z2⟩ ∧ LeqM ⟨k1, d1, z1⟩ ⟨k2, d2, z2⟩ from ⟨HP.out, fun i hi => HSo.out i (by have := HQ.out; omega)⟩))
            go_wp2_with fail
            go_ret
            exact ⟨ret_bool HF.out.symm, hBr⟩
      · have e1 : (((Sm.mk k1 d1 z1).out : Int) != ((Sm.mk k2 d2 z2).out : Int)) = true := by rw [bne_iff_ne]; omega
        have HF := hide (leqM_bad (show ¬ preM ⟨k1, d1, z1⟩ ⟨k2, d2, z2⟩ from fun h => he h.2.2))
        clear he
        go_enter Try.func9, Try.ntmps9
        go_wp2_with fail
        refine wp_region_quiet_below (by kernel_rfl) (by kernel_rfl) ?_
        repeat (go_big_quiet_step (first | with_reducible exact s1' _ _ | with_reducible exact s2' _ _ | with_reducible exact m1 _ _ | with_reducible exact m2 _ _))
        refine wpQuiet_nil ?_
        intro _ hw'
        obtain ⟨⟨dq, osq⟩, hw''⟩ := hw'
        subst hw''
        go_wp2_with fail
        go_ret
        exact ⟨ret_bool HF.out.symm, HB.out.trans ((below_regrown W0 dq osq).mono HB.out.size)⟩
    · have s2' := s2 _ rfl
      have e1 : (codeS ⟨k2, d2, z2⟩ 4 != 0) = true := by rw [bne_iff_ne]; exact hc2
      have HF := hide (leqM_bad (show ¬ preM ⟨k1, d1, z1⟩ ⟨k2, d2, z2⟩ from fun h => hc2 h.2.1))
      clear hc2 s2
      generalize codeS ⟨k2, d2, z2⟩ 4 = c at *
      go_enter Try.func9, Try.ntmps9
      go_wp2_with fail
      refine wp_region_quiet_below (by kernel_rfl) (by kernel_rfl) ?_
      repeat (go_big_quiet_step (first | with_reducible exact s1' _ _ | with_reducible exact s2' _ _))
      refine wpQuiet_nil ?_
      intro _ hw'
      obtain ⟨⟨dq, osq⟩, hw''⟩ := hw'
      subst hw''
      go_wp2_with fail
      go_ret
      exact ⟨ret_bool HF.out.symm, HB.out.trans ((below_regrown W0 dq osq).mono HB.out.size)⟩
  · have s1' := s1 _ rfl
    have e1 : (codeS ⟨k1, d1, z1⟩ 4 != 0) = true := by rw [bne_iff_ne]; exact hc1
    have HF := hide (leqM_bad (show ¬ preM ⟨k1, d1, z1⟩ ⟨k2, d2, z2⟩ from fun h => hc1 h.1))
    clear hc1 s1 s2
    generalize codeS ⟨k1, d1, z1⟩ 4 = c at *
    go_enter Try.func9, Try.ntmps9
    go_wp2_with fail
    refine wp_region_quiet_below (by kernel_rfl) (by kernel_rfl) ?_
    repeat (go_big_quiet_step (first | with_reducible exact s1' _ _))
    refine wpQuiet_nil ?_
    intro _ hw'
    obtain ⟨⟨dq, osq⟩, hw''⟩ := hw'
    subst hw''
    go_wp2_with fail
    go_ret
    exact ⟨ret_bool HF.out.symm, HB.out.trans ((below_regrown W0 dq osq).mono HB.out.size)⟩

set_option maxRecDepth 100000 in
set_option maxHeartbeats 4000000 in
theorem rsleq_any (k1 d1 : Int) (a1 : Option Addr) (cap1 : Nat) (z1 : List Int) (k2 d2 : Int) (a2 : Option Addr) (cap2 : Nat) (z2 : List Int) (n₀ : Nat) (h1 : z1.length ≤ 17592186044416) (h2 : z2.length ≤ 17592186044416) (w : World) (hz1 : ZInts n₀ w a1 z1) (hz2 : ZInts n₀ w a2 z2) (hn₀ : n₀ ≤ w.heap.size) :
    Calls Try.prog 15 #[.agg #[.int .i64 k1, .int .i64 d1, .slice a1 z1.length cap1], .agg #[.int .i64 k2, .int .i64 d2, .slice a2 z2.length cap2]] w fun e w' => e = .returned (.bool (leqM ⟨k1, d1, z1⟩ ⟨k2, d2, z2⟩)) ∧ Below w.heap.size w w' := by
  obtain ⟨r0, r1, hb0, hs0⟩ := sum_rows w (.int .i64 k1) (.int .i64 d1) (.slice a1 z1.length cap1) (.int .i64 k2) (.int .i64 d2) (.slice a2 z2.length cap2) rfl
  obtain ⟨W0, hW0⟩ : ∃ V, (w.alloc (.cells #[.int .i64 k1, .int .i64 d1, .slice a1 z1.length cap1] 32)).alloc (.cells #[.int .i64 k2, .int .i64 d2, .slice a2 z2.length cap2] 32) = V := ⟨_, rfl⟩
  rw [hW0] at r0 r1 hb0 hs0
  have lt0 := r0.lt
  have lt1 := r1.lt
  have hzB : ∀ {W}, Below w.heap.size w W → ZInts n₀ W a1 z1 ∧ ZInts n₀ W a2 z2 ∧ n₀ ≤ W.heap.size := fun hW => ⟨hz1.below (hW.mono hn₀), hz2.below (hW.mono hn₀), by have := hW.size; omega⟩
  have s1 := fun x hx => rscheck_re k1 d1 a1 cap1 z1 4 n₀ h1 x hx W0 (hzB hb0).1 (hzB hb0).2.2
  have s2 := fun x hx => rscheck_re k2 d2 a2 cap2 z2 4 n₀ h2 x hx W0 (hzB hb0).2.1 (hzB hb0).2.2
  obtain ⟨x0, x1, x2⟩ := r0.re
  obtain ⟨y0, y1, y2⟩ := r1.re
  have HB := hide hb0
  have HS := hide hs0
  clear hb0 hs0
  by_cases hc1 : codeS ⟨k1, d1, z1⟩ 4 = 0
  · have s1' := s1 0 hc1
    clear s1
    by_cases hc2 : codeS ⟨k2, d2, z2⟩ 4 = 0
    · have s2' := s2 0 hc2
      have g1 := good_of (n := 4) hc1
      have g2 := good_of (n := 4) hc2
      have o1 := g1.out4
      have o2 := g2.out4
      have k1a := g1.k1
      have k1b := g1.kn
      have k2a := g2.k1
      have k2b := g2.kn
      dsimp only at o1 o2 k1a k1b k2a k2b
      have m1 := rsout_re k1 d1 a1 cap1 z1 ⟨k1a, by omega⟩ h1 _ o1.2.2.1.symm W0
      have m2 := rsout_re k2 d2 a2 cap2 z2 ⟨k2a, by omega⟩ h2 _ o2.2.2.1.symm W0
      have mW := fun W => rsout_any k1 d1 a1 cap1 z1 ⟨k1a, by omega⟩ h1 W
      rw [o1.2.2.1.symm] at mW
      have hil : ∀ i : Nat, i < (Sm.mk k1 d1 z1).out → (i : Int) < k1 + (z1.length : Int) := fun i hi => by omega
      have hir : (Sm.mk k1 d1 z1).out = (Sm.mk k2 d2 z2).out → ∀ i : Nat, i < (Sm.mk k1 d1 z1).out → (i : Int) < k2 + (z2.length : Int) := fun he i hi => by omega
      have hl1 : z1.length ≤ 4 := by omega
      have hl2 : z2.length ≤ 4 := by omega
      have ho4 : (Sm.mk k1 d1 z1).out ≤ 4 := o1.1
      have Hpre := hide (show (Sm.mk k1 d1 z1).out = (Sm.mk k2 d2 z2).out → preM ⟨k1, d1, z1⟩ ⟨k2, d2, z2⟩ from fun he => ⟨hc1, hc2, he⟩)
      clear s2 o1 o2
      by_cases he : (Sm.mk k1 d1 z1).out = (Sm.mk k2 d2 z2).out
      · have e1 : (((Sm.mk k1 d1 z1).out : Int) != ((Sm.mk k2 d2 z2).out : Int)) = false := by rw [bne_eq_false_iff_eq]; omega
        have hir' := hir he
        clear hir
        have HP := hide (Hpre.out he)
        have HE := hide he
        clear he
        have HO := hide (show ∀ i, i < (Sm.mk k1 d1 z1).out → True from fun _ _ => trivial)
        generalize ho1 : (Sm.mk k1 d1 z1).out = q1 at *
        generalize (Sm.mk k2 d2 z2).out = q2 at *
        have HQ := hide ho1
        clear ho1
        go_enter Try.func15, Try.ntmps15
        go_wp2_with fail
        refine wp_region_quiet_below (by kernel_rfl) (by kernel_rfl) ?_
        repeat (go_big_quiet_step (first | with_reducible exact s1' _ _ | with_reducible exact s2' _ _ | with_reducible exact m1 _ _ | with_reducible exact m2 _ _))
        refine wpQuiet_nil ?_
        intro _ hw'
        obtain ⟨⟨dq, osq⟩, hw''⟩ := hw'
        subst hw''
        clear s1' s2' m1 m2 x0 x1 x2 y0 y1 y2
        obtain ⟨w1, hw1⟩ : ∃ V, Go.Sort.grow (redrawn W0 dq) osq = V := ⟨_, rfl⟩
        have hb1 : Below W0.heap.size W0 w1 := hw1 ▸ below_regrown W0 dq osq
        dsimp only
        rw [hw1]
        clear hw1
        have p0 := row_below r0 hb1 lt0
        have p1 := row_below r1 hb1 lt1
        have hB1 : Below w.heap.size w w1 := HB.out.trans (hb1.mono HB.out.size)
        have l0 := p0.lt
        have l1 := p1.lt
        have x0 := p0.cell (i := 0) rfl
        have x1 := p0.cell (i := 1) rfl
        have x2 := p0.cell (i := 2) rfl
        go_wp2_with fail
        go_loopw [5] (fun i wr => ∃ j : Nat, j ≤ q1 ∧ i = .int .i64 j ∧ Below w1.heap.size w1 wr ∧ Hid (∀ m, m < j → (Sm.mk k1 d1 z1).at m ≤ (Sm.mk k2 d2 z2).at m ∧ ¬ ((m : Int) < k1 ∧ k2 ≤ (m : Int)))) (fun i _ => q1 - (intOf i).toNat)
        case atStart => exact ⟨0, Nat.zero_le _, rfl, Below.refl _ _, hide fun m hm => by omega⟩
        case round =>
          obtain ⟨j, hj, rfl, hbr, HSo⟩ := hrel
          have hBr : Below w.heap.size w wr := hB1.trans (hbr.mono hB1.size)
          have p0 := row_below p0 hbr p0.lt
          have p1 := row_below p1 hbr p1.lt
          have c0 := p0.cell (i := 0) rfl
          have c1 := p0.cell (i := 1) rfl
          have c2 := p0.cell (i := 2) rfl
          by_cases hlt : j < q1
          · have HFN := hide (fun hh => leqM_no (s := ⟨k1, d1, z1⟩) (r := ⟨k2, d2, z2⟩) (i := j) (by have := HQ.out; omega) hh)
            go_wp2_with fail
            refine (mW _).mono ?_
            rintro e w3 ⟨rfl, hb3⟩
            have hBr3 := hBr.trans (hb3.mono hBr.size)
            have p0 := row_below p0 hb3 p0.lt
            have p1 := row_below p1 hb3 p1.lt
            have hbr := hbr.trans (hb3.mono hbr.size)
            clear c0 c1 c2
            obtain ⟨x0, x1, x2⟩ := p0.re
            obtain ⟨y0, y1, y2⟩ := p1.re
            have B1 := rsplace_re k1 d1 a1 cap1 z1 j n₀ ⟨k1a, by omega⟩ (hil j hlt) hl1 _ rfl w3 (hzB hBr3).1 (hzB hBr3).2.2
            have B2 := rsplace_re k2 d2 a2 cap2 z2 j n₀ ⟨k2a, by omega⟩ (hir' j hlt) hl2 _ rfl w3 (hzB hBr3).2.1 (hzB hBr3).2.2
            generalize hv1 : (Sm.mk k1 d1 z1).at j = v1 at *
            generalize hv2 : (Sm.mk k2 d2 z2).at j = v2 at *
            have HV := hide (And.intro hv1 hv2)
            clear hv1 hv2
            by_cases c3 : v2 < v1
            · have e4 : decide (v2 < v1) = true := decide_eq_true c3
              have HU := hide c3
              clear c3
              go_wp2_with fail
              refine wp_region_quiet_below (by kernel_rfl) (by kernel_rfl) ?_
              repeat (go_big_quiet_step (first | with_reducible exact B1 _ _ | with_reducible exact B2 _ _))
              refine wpQuiet_nil ?_
              intro _ hw'
              obtain ⟨⟨dq, osq⟩, hw''⟩ := hw'
              subst hw''
              go_wp2_with fail
              go_ret
              exact ⟨ret_bool (HFN.out (.inl HU.out)).symm, hBr3.trans ((below_regrown w3 dq osq).mono hBr3.size)⟩
            · have e4 : decide (v2 < v1) = false := decide_eq_false c3
              have HU := hide (show v1 ≤ v2 by omega)
              clear c3
              by_cases c1 : (j : Int) < k1
              · have e2 : decide ((j : Int) < k1) = true := decide_eq_true c1
                by_cases c2 : k2 ≤ (j : Int)
                · have e3 : decide (k2 ≤ (j : Int)) = true := decide_eq_true c2
                  have HK := hide (And.intro c1 c2)
                  clear c1 c2
                  go_wp2_with fail
                  refine wp_region_quiet_below (by kernel_rfl) (by kernel_rfl) ?_
                  repeat (go_big_quiet_step (first | with_reducible exact B1 _ _ | with_reducible exact B2 _ _))
                  refine wpQuiet_nil ?_
                  intro _ hw'
                  obtain ⟨⟨dq, osq⟩, hw''⟩ := hw'
                  subst hw''
                  go_wp2_with fail
                  go_ret
                  exact ⟨ret_bool (HFN.out (.inr HK.out)).symm, hBr3.trans ((below_regrown w3 dq osq).mono hBr3.size)⟩
                · have e3 : decide (k2 ≤ (j : Int)) = false := decide_eq_false c2
                  have HK := hide (show ¬ ((j : Int) < k1 ∧ k2 ≤ (j : Int)) from fun h => c2 h.2)
                  clear c1 c2
                  go_wp2_with fail
                  refine wp_region_quiet_below (by kernel_rfl) (by kernel_rfl) ?_
                  repeat (go_big_quiet_step (first | with_reducible exact B1 _ _ | with_reducible exact B2 _ _))
                  refine wpQuiet_nil ?_
                  intro _ hw'
                  obtain ⟨⟨dq, osq⟩, hw''⟩ := hw'
                  subst hw''
                  go_wp2_with fail
                  go_roundw
                  case rel => exact ⟨j + 1, by omega, by go_num, hbr.trans ((below_regrown w3 dq osq).mono hbr.size), hide fun m hm => by
                    by_cases e : m = j
                    · subst e; rw [HV.out.1, HV.out.2]; exact ⟨HU.out, HK.out⟩
                    · exact HSo.out m (by omega)⟩
                  case measure => simp [intOf]; omega
              · have e2 : decide ((j : Int) < k1) = false := decide_eq_false c1
                have HK := hide (show ¬ ((j : Int) < k1 ∧ k2 ≤ (j : Int)) from fun h => c1 h.1)
                clear c1
                go_wp2_with fail
                refine wp_region_quiet_below (by kernel_rfl) (by kernel_rfl) ?_
                repeat (go_big_quiet_step (first | with_reducible exact B1 _ _ | with_reducible exact B2 _ _))
                refine wpQuiet_nil ?_
                intro _ hw'
                obtain ⟨⟨dq, osq⟩, hw''⟩ := hw'
                subst hw''
                go_wp2_with fail
                go_roundw
                case rel => exact ⟨j + 1, by omega, by go_num, hbr.trans ((below_regrown w3 dq osq).mono hbr.size), hide fun m hm => by
                  by_cases e : m = j
                  · subst e; rw [HV.out.1, HV.out.2]; exact ⟨HU.out, HK.out⟩
                  · exact HSo.out m (by omega)⟩
                case measure => simp [intOf]; omega
          · have HF := hide (leqM_true.2 (show preM ⟨k1, d1, z1⟩ ⟨k2, d2, z2⟩ ∧ LeqM ⟨k1, d1, z1⟩ ⟨k2, d2, z2⟩ from ⟨HP.out, fun i hi => HSo.out i (by have := HQ.out; omega)⟩))
            go_wp2_with fail
            refine (mW _).mono ?_
            rintro e w2 ⟨rfl, hb2⟩
            have hBr := hBr.trans (hb2.mono hBr.size)
            go_wp2_with fail
            go_ret
            exact ⟨ret_bool HF.out.symm, hBr⟩
      · have e1 : (((Sm.mk k1 d1 z1).out : Int) != ((Sm.mk k2 d2 z2).out : Int)) = true := by rw [bne_iff_ne]; omega
        have HF := hide (leqM_bad (show ¬ preM ⟨k1, d1, z1⟩ ⟨k2, d2, z2⟩ from fun h => he h.2.2))
        clear he
        go_enter Try.func15, Try.ntmps15
        go_wp2_with fail
        refine wp_region_quiet_below (by kernel_rfl) (by kernel_rfl) ?_
        repeat (go_big_quiet_step (first | with_reducible exact s1' _ _ | with_reducible exact s2' _ _ | with_reducible exact m1 _ _ | with_reducible exact m2 _ _))
        refine wpQuiet_nil ?_
        intro _ hw'
        obtain ⟨⟨dq, osq⟩, hw''⟩ := hw'
        subst hw''
        go_wp2_with fail
        go_ret
        exact ⟨ret_bool HF.out.symm, HB.out.trans ((below_regrown W0 dq osq).mono HB.out.size)⟩
    · have s2' := s2 _ rfl
      have e1 : (codeS ⟨k2, d2, z2⟩ 4 != 0) = true := by rw [bne_iff_ne]; exact hc2
      have HF := hide (leqM_bad (show ¬ preM ⟨k1, d1, z1⟩ ⟨k2, d2, z2⟩ from fun h => hc2 h.2.1))
      clear hc2 s2
      generalize codeS ⟨k2, d2, z2⟩ 4 = c at *
      go_enter Try.func15, Try.ntmps15
      go_wp2_with fail
      refine wp_region_quiet_below (by kernel_rfl) (by kernel_rfl) ?_
      repeat (go_big_quiet_step (first | with_reducible exact s1' _ _ | with_reducible exact s2' _ _))
      refine wpQuiet_nil ?_
      intro _ hw'
      obtain ⟨⟨dq, osq⟩, hw''⟩ := hw'
      subst hw''
      go_wp2_with fail
      go_ret
      exact ⟨ret_bool HF.out.symm, HB.out.trans ((below_regrown W0 dq osq).mono HB.out.size)⟩
  · have s1' := s1 _ rfl
    have e1 : (codeS ⟨k1, d1, z1⟩ 4 != 0) = true := by rw [bne_iff_ne]; exact hc1
    have HF := hide (leqM_bad (show ¬ preM ⟨k1, d1, z1⟩ ⟨k2, d2, z2⟩ from fun h => hc1 h.1))
    clear hc1 s1 s2
    generalize codeS ⟨k1, d1, z1⟩ 4 = c at *
    go_enter Try.func15, Try.ntmps15
    go_wp2_with fail
    refine wp_region_quiet_below (by kernel_rfl) (by kernel_rfl) ?_
    repeat (go_big_quiet_step (first | with_reducible exact s1' _ _))
    refine wpQuiet_nil ?_
    intro _ hw'
    obtain ⟨⟨dq, osq⟩, hw''⟩ := hw'
    subst hw''
    go_wp2_with fail
    go_ret
    exact ⟨ret_bool HF.out.symm, HB.out.trans ((below_regrown W0 dq osq).mono HB.out.size)⟩
end Go.Proofs.Ytbnjbnjgfjpegaa
