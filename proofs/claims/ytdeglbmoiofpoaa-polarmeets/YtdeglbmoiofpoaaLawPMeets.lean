/- The walk of the law PolarMeets: it answers true, and writes nothing that was there. -/
import Derived.Test.YtdeglbmoiofpoaaMeetPlain
import Derived.Test.YtdeglbmoiofpoaaRefPol
import Derived.Lib.SmallJoins
import Derived.Lib.QuietBelow
import Derived.BigQuiet
namespace Go.Proofs.Ytdeglbmoiofpoaa
open Go.RowKit Go.Shelf

theorem cons_pd {W : World} {B : Nat} {P : List (Nat × Nat)} (h : Cons W B P) {i : Nat} (hi : i < P.length) : W.cell? ⟨B, i * 2, none⟩ = some (.int .u32 (((pd P i).1 : Nat) : Int)) ∧ W.cell? ⟨B, i * 2 + 1, none⟩ = some (.int .u32 (((pd P i).2 : Nat) : Int)) := by
  have e : pd P i = P[i] := by unfold pd; rw [List.getD_eq_getElem?_getD, List.getElem?_eq_getElem hi]; rfl
  rw [e]; exact h i hi
theorem conP_lt {n : Nat} (hn : n ≤ 16) {us : List Nat} (hl : us.length ≤ 16) {i : Nat} (hi : i < (conP n us).length) : (pd (conP n us) i).1 < 4294967296 ∧ (pd (conP n us) i).2 < 4294967296 := by
  have h := (conP_mem hn).1 (pd_mem hi)
  exact ⟨h.1.lt hl, by rw [h.2]; exact upW_lt hn us _⟩
theorem conP_pos {n : Nat} (hn : n ≤ 16) (us : List Nat) : 0 < (conP n us).length := by
  have h : allW us.length ∈ conL n us := (mem_conL hn).2 ((ext_zero.2 rfl).mono (Nat.zero_le n))
  rw [conP_len]
  exact List.length_pos_of_mem h

set_option maxRecDepth 100000 in
set_option maxHeartbeats 4000000 in
theorem lpmeets_any (n : Int) (a : Option Addr) (cap : Nat) (us : List Nat) (n₀ : Nat) (w : World) (hR : Rdy a us n₀ w) :
    Calls Try.prog 4 #[.agg #[.slice a us.length cap, .int .i64 n]] w fun e w' => e = .returned (.bool true) ∧ Below w.heap.size w w' := by
  obtain ⟨r0, hb0, hs0⟩ := one_row w 24 (.slice a us.length cap) (.int .i64 n) rfl
  obtain ⟨W0, hW0⟩ : ∃ V, w.alloc (.cells #[.slice a us.length cap, .int .i64 n] 24) = V := ⟨_, rfl⟩
  rw [hW0] at r0 hb0 hs0
  have R0 := hR.step hb0
  have s1 := Concepts_any n a cap us n₀ W0 R0
  have c0 := r0.cell (i := 0) rfl
  have c1 := r0.cell (i := 1) rfl
  have lt0 := r0.lt
  have HB := hide hb0
  clear hb0 hs0
  go_enter Try.func4, Try.ntmps4
  go_wp2_with fail
  refine s1.mono ?_
  rintro e w1 ⟨hp, hb1⟩
  have R1 := R0.step hb1
  have r1 := row_below r0 hb1 lt0
  have lt1 := r1.lt
  have hB1 := HB.out.trans (hb1.mono HB.out.size)
  clear c0 c1 s1
  rcases hp with ⟨hc, rfl⟩ | ⟨hc, hbig, rfl⟩ | ⟨hc, P, B, cp, hP, hPl, rfl, hcons, hlB⟩
  · have e1 : (codeC n us != 0) = true := by rw [bne_iff_ne]; exact hc
    clear hc
    generalize codeC n us = c at *
    go_wp2_with fail
    go_ret
    exact ⟨rfl, hB1⟩
  · go_wp2_with fail
    go_ret
    exact ⟨rfl, hB1⟩
  · obtain ⟨hl, m, rfl, hm, _⟩ := codeC_zero hc
    rw [Int.toNat_natCast] at hP
    have hpos : 0 < P.length := by rw [hP]; exact conP_pos hm us
    have HPlt := hide (show ∀ i, i < P.length → (pd P i).1 < 4294967296 ∧ (pd P i).2 < 4294967296 from by rw [hP]; exact fun i hi => conP_lt hm hl hi)
    have HR := hide (show ∀ i j, i < P.length → j < P.length → anyP (·.1) P (andW (pd P i).1 (pd P j).1) P.length = true ∧ anyP (·.2) P (andW (pd P i).2 (pd P j).2) P.length = true from by rw [hP]; exact fun i j hi hj => ⟨any_rows hm hi hj, any_cols hm hi hj⟩)
    have HPP := hide hP
    have e0 : ((P.length : Int) == 0) = false := by rw [beq_eq_false_iff_ne]; omega
    clear hP hpos
    go_wp2_with fail
    go_loopw [5] (fun i wr => ∃ k : Nat, k ≤ P.length ∧ i = .int .i64 k ∧ Below w1.heap.size w1 wr) (fun i _ => P.length - (intOf i).toNat)
    case atStart => exact ⟨0, Nat.zero_le _, rfl, Below.refl _ _⟩
    case round =>
      obtain ⟨i, hi, rfl, hbi⟩ := hrel
      by_cases hli : i < P.length
      · obtain ⟨wi, hwi⟩ : ∃ V, V = wr := ⟨_, rfl⟩
        rw [← hwi] at hbi ⊢
        clear hwi wr
        go_wp2_with fail
        go_loopw [6] (fun j wr => ∃ k : Nat, k ≤ i ∧ j = .int .i64 k ∧ Below w1.heap.size w1 wr) (fun j _ => i - (intOf j).toNat)
        case atStart => exact ⟨0, Nat.zero_le _, rfl, hbi⟩
        case round =>
          obtain ⟨j, hj, rfl, hbj⟩ := hrel
          by_cases hlj : j < i
          · obtain ⟨wj, hwj⟩ : ∃ V, V = wr := ⟨_, rfl⟩
            rw [← hwj] at hbj ⊢
            clear hwj wr
            have hjP : j < P.length := by omega
            obtain ⟨hr1, hr2⟩ := HR.out i j hli hjP
            have HR1 := hide hr1
            have HR2 := hide hr2
            have hand1 := bits_and32 (pd P i).1 (pd P j).1 (HPlt.out i hli).1 (HPlt.out j hjP).1
            have hand2 := bits_and32 (pd P i).2 (pd P j).2 (HPlt.out i hli).2 (HPlt.out j hjP).2
            have hci := fun {W} (h : Below w1.heap.size w1 W) => cons_pd (hcons.below h hlB) hli
            have hcj := fun {W} (h : Below w1.heap.size w1 W) => cons_pd (hcons.below h hlB) hjP
            clear hr1 hr2
            generalize andW (pd P i).1 (pd P j).1 = v1 at *
            generalize andW (pd P i).2 (pd P j).2 = v2 at *
            generalize (pd P i).1 = pi1 at *
            generalize (pd P i).2 = pi2 at *
            generalize (pd P j).1 = pj1 at *
            generalize (pd P j).2 = pj2 at *
            go_wp2_with fail
            go_loopw [7, 8, 43] (fun b c x wr => ∃ (k : Nat) (b' c' : Bool), k ≤ P.length ∧ x = .int .i64 k ∧ b = .bool b' ∧ c = .bool c' ∧ Hid (b' = anyP (·.1) P v1 k) ∧ Hid (c' = anyP (·.2) P v2 k) ∧ Below w1.heap.size w1 wr) (fun _ _ x _ => P.length - (intOf x).toNat)
            case atStart => exact ⟨0, false, false, Nat.zero_le _, rfl, rfl, rfl, hide rfl, hide rfl, hbj⟩
            case round =>
              obtain ⟨k, b', c', hk, rfl, rfl, rfl, Hb', Hc', hbk⟩ := hrel
              by_cases hlk : k < P.length
              · obtain ⟨k0, k1⟩ := cons_pd (hcons.below hbk hlB) hlk
                have HN1 := hide (anyP_succ (·.1) P v1 k)
                have HN2 := hide (anyP_succ (·.2) P v2 k)
                rw [← Hb'.out] at HN1
                rw [← Hc'.out] at HN2
                have q1 : ∃ t, (((pd P k).1 : Int) == (v1 : Int)) = t ∧ ((pd P k).1 == v1) = t := ⟨((pd P k).1 == v1), by rw [Bool.eq_iff_iff, beq_iff_eq, beq_iff_eq]; omega, rfl⟩
                have q2 : ∃ t, (((pd P k).2 : Int) == (v2 : Int)) = t ∧ ((pd P k).2 == v2) = t := ⟨((pd P k).2 == v2), by rw [Bool.eq_iff_iff, beq_iff_eq, beq_iff_eq]; omega, rfl⟩
                obtain ⟨t1, ht1, hu1⟩ := q1
                obtain ⟨t2, ht2, hu2⟩ := q2
                rw [hu1] at HN1
                rw [hu2] at HN2
                clear hu1 hu2
                generalize (pd P k).1 = pk1 at *
                generalize (pd P k).2 = pk2 at *
                have hal : Below wr.heap.size wr (wr.alloc (.cells #[.int .u32 (pk1 : Nat), .int .u32 (pk2 : Nat)] 33)) := (Below.refl _ _).alloc (Nat.le_refl _) _
                have rx := Row.new wr 33 [.int .u32 (pk1 : Nat), .int .u32 (pk2 : Nat)]
                go_wp2_with fail
                obtain ⟨wx, hwx⟩ : ∃ V, wr.alloc (.cells #[.int .u32 (pk1 : Nat), .int .u32 (pk2 : Nat)] 33) = V := ⟨_, rfl⟩
                rw [hwx] at hal rx
                try rw [hwx]
                have hbx := hbk.trans (hal.mono hbk.size)
                have x0 := cell_regrown (rx.cell (i := 0) rfl)
                have x1 := cell_regrown (rx.cell (i := 1) rfl)
                have i0 := cell_regrown (hci hbx).1
                have j0 := cell_regrown (hcj hbx).1
                have hbb : b' = false ∨ b' = true := by cases b' <;> simp
                have hcc : c' = false ∨ c' = true := by cases c' <;> simp
                rcases hbb with rfl | rfl
                · rcases hcc with rfl | rfl
                  · skip
                    refine wp_region_quiet_below (by kernel_rfl) (by kernel_rfl) ?_
                    repeat (go_big_quiet_step (fail))
                    refine wpQuiet_nil ?_
                    intro _ hw'
                    obtain ⟨⟨dq1, osq1⟩, hw''⟩ := hw'
                    obtain ⟨wy, hwy⟩ : ∃ V, Go.Sort.grow (redrawn wx dq1) osq1 = V := ⟨_, rfl⟩
                    have hl1 : Below wx.heap.size wx wy := hwy ▸ below_regrown wx dq1 osq1
                    subst hw''
                    dsimp only
                    rw [hwy]
                    clear hwy
                    have ry := row_below rx hl1 rx.lt
                    have hby := hbx.trans (hl1.mono hbx.size)
                    clear x0 x1 i0 j0
                    have y1 := cell_regrown (ry.cell (i := 1) rfl)
                    have i1 := cell_regrown (hci hby).2
                    have j1 := cell_regrown (hcj hby).2
                    go_wp2_with fail
                    refine wp_region_quiet_below (by kernel_rfl) (by kernel_rfl) ?_
                    repeat (go_big_quiet_step (fail))
                    refine wpQuiet_nil ?_
                    intro _ hw'
                    obtain ⟨⟨dq2, osq2⟩, hw''⟩ := hw'
                    obtain ⟨wz, hwz⟩ : ∃ V, Go.Sort.grow (redrawn wy dq2) osq2 = V := ⟨_, rfl⟩
                    have hl2 : Below wy.heap.size wy wz := hwz ▸ below_regrown wy dq2 osq2
                    subst hw''
                    dsimp only
                    rw [hwz]
                    clear hwz
                    clear y1 i1 j1
                    go_wp2_with fail
                    exact ⟨⟨k + 1, t1, t2, by omega, by go_num, rfl, rfl, hide (by rw [HN1.out]; simp), hide (by rw [HN2.out]; simp), hby.trans (hl2.mono hby.size)⟩, by simp [intOf]; omega⟩
                  · skip
                    refine wp_region_quiet_below (by kernel_rfl) (by kernel_rfl) ?_
                    repeat (go_big_quiet_step (fail))
                    refine wpQuiet_nil ?_
                    intro _ hw'
                    obtain ⟨⟨dq1, osq1⟩, hw''⟩ := hw'
                    obtain ⟨wy, hwy⟩ : ∃ V, Go.Sort.grow (redrawn wx dq1) osq1 = V := ⟨_, rfl⟩
                    have hl1 : Below wx.heap.size wx wy := hwy ▸ below_regrown wx dq1 osq1
                    subst hw''
                    dsimp only
                    rw [hwy]
                    clear hwy
                    have ry := row_below rx hl1 rx.lt
                    have hby := hbx.trans (hl1.mono hbx.size)
                    clear x0 x1 i0 j0
                    have y1 := cell_regrown (ry.cell (i := 1) rfl)
                    have i1 := cell_regrown (hci hby).2
                    have j1 := cell_regrown (hcj hby).2
                    go_wp2_with fail
                    refine wp_region_quiet_below (by kernel_rfl) (by kernel_rfl) ?_
                    repeat (go_big_quiet_step (fail))
                    refine wpQuiet_nil ?_
                    intro _ hw'
                    obtain ⟨⟨dq2, osq2⟩, hw''⟩ := hw'
                    obtain ⟨wz, hwz⟩ : ∃ V, Go.Sort.grow (redrawn wy dq2) osq2 = V := ⟨_, rfl⟩
                    have hl2 : Below wy.heap.size wy wz := hwz ▸ below_regrown wy dq2 osq2
                    subst hw''
                    dsimp only
                    rw [hwz]
                    clear hwz
                    clear y1 i1 j1
                    go_wp2_with fail
                    exact ⟨⟨k + 1, t1, true, by omega, by go_num, rfl, rfl, hide (by rw [HN1.out]; simp), hide (by rw [HN2.out]; simp), hby.trans (hl2.mono hby.size)⟩, by simp [intOf]; omega⟩
                · rcases hcc with rfl | rfl
                  · skip
                    refine wp_region_quiet_below (by kernel_rfl) (by kernel_rfl) ?_
                    repeat (go_big_quiet_step (fail))
                    refine wpQuiet_nil ?_
                    intro _ hw'
                    obtain ⟨⟨dq1, osq1⟩, hw''⟩ := hw'
                    obtain ⟨wy, hwy⟩ : ∃ V, Go.Sort.grow (redrawn wx dq1) osq1 = V := ⟨_, rfl⟩
                    have hl1 : Below wx.heap.size wx wy := hwy ▸ below_regrown wx dq1 osq1
                    subst hw''
                    dsimp only
                    rw [hwy]
                    clear hwy
                    have ry := row_below rx hl1 rx.lt
                    have hby := hbx.trans (hl1.mono hbx.size)
                    clear x0 x1 i0 j0
                    have y1 := cell_regrown (ry.cell (i := 1) rfl)
                    have i1 := cell_regrown (hci hby).2
                    have j1 := cell_regrown (hcj hby).2
                    go_wp2_with fail
                    refine wp_region_quiet_below (by kernel_rfl) (by kernel_rfl) ?_
                    repeat (go_big_quiet_step (fail))
                    refine wpQuiet_nil ?_
                    intro _ hw'
                    obtain ⟨⟨dq2, osq2⟩, hw''⟩ := hw'
                    obtain ⟨wz, hwz⟩ : ∃ V, Go.Sort.grow (redrawn wy dq2) osq2 = V := ⟨_, rfl⟩
                    have hl2 : Below wy.heap.size wy wz := hwz ▸ below_regrown wy dq2 osq2
                    subst hw''
                    dsimp only
                    rw [hwz]
                    clear hwz
                    clear y1 i1 j1
                    go_wp2_with fail
                    exact ⟨⟨k + 1, true, t2, by omega, by go_num, rfl, rfl, hide (by rw [HN1.out]; simp), hide (by rw [HN2.out]; simp), hby.trans (hl2.mono hby.size)⟩, by simp [intOf]; omega⟩
                  · skip
                    refine wp_region_quiet_below (by kernel_rfl) (by kernel_rfl) ?_
                    repeat (go_big_quiet_step (fail))
                    refine wpQuiet_nil ?_
                    intro _ hw'
                    obtain ⟨⟨dq1, osq1⟩, hw''⟩ := hw'
                    obtain ⟨wy, hwy⟩ : ∃ V, Go.Sort.grow (redrawn wx dq1) osq1 = V := ⟨_, rfl⟩
                    have hl1 : Below wx.heap.size wx wy := hwy ▸ below_regrown wx dq1 osq1
                    subst hw''
                    dsimp only
                    rw [hwy]
                    clear hwy
                    have ry := row_below rx hl1 rx.lt
                    have hby := hbx.trans (hl1.mono hbx.size)
                    clear x0 x1 i0 j0
                    have y1 := cell_regrown (ry.cell (i := 1) rfl)
                    have i1 := cell_regrown (hci hby).2
                    have j1 := cell_regrown (hcj hby).2
                    go_wp2_with fail
                    refine wp_region_quiet_below (by kernel_rfl) (by kernel_rfl) ?_
                    repeat (go_big_quiet_step (fail))
                    refine wpQuiet_nil ?_
                    intro _ hw'
                    obtain ⟨⟨dq2, osq2⟩, hw''⟩ := hw'
                    obtain ⟨wz, hwz⟩ : ∃ V, Go.Sort.grow (redrawn wy dq2) osq2 = V := ⟨_, rfl⟩
                    have hl2 : Below wy.heap.size wy wz := hwz ▸ below_regrown wy dq2 osq2
                    subst hw''
                    dsimp only
                    rw [hwz]
                    clear hwz
                    clear y1 i1 j1
                    go_wp2_with fail
                    exact ⟨⟨k + 1, true, true, by omega, by go_num, rfl, rfl, hide (by rw [HN1.out]; simp), hide (by rw [HN2.out]; simp), hby.trans (hl2.mono hby.size)⟩, by simp [intOf]; omega⟩
              · obtain rfl : k = P.length := by omega
                obtain rfl : b' = true := Hb'.out.trans HR1.out
                obtain rfl : c' = true := Hc'.out.trans HR2.out
                go_wp2_with fail
                exact ⟨⟨j + 1, by omega, by go_num, hbk⟩, by simp [intOf]; omega⟩
          · go_wp2_with fail
            exact ⟨⟨i + 1, by omega, by go_num, hbj⟩, by simp [intOf]; omega⟩
      · have hBi := hB1.trans (hbi.mono hB1.size)
        have ri := row_below r1 hbi lt1
        have lti := ri.lt
        have Ri := R1.step hbi
        have s2 := RefPCheck_any (m : Int) a cap us n₀ wr Ri
        rw [hc] at s2
        have c0 := ri.cell (i := 0) rfl
        have c1 := ri.cell (i := 1) rfl
        clear hcons HR hc
        go_wp2_with fail
        refine s2.mono ?_
        rintro e w2 ⟨rfl, hb2⟩
        have r2 := row_below ri hb2 lti
        have lt2 := r2.lt
        have hB2 := hBi.trans (hb2.mono hBi.size)
        clear c0 c1 s2
        have c0 := r2.cell (i := 0) rfl
        have c1 := r2.cell (i := 1) rfl
        obtain ⟨z0, hz, hz0, hz1, hz2⟩ := info_parts info_u32
        have hal : Below w2.heap.size w2 (w2.alloc (.cells #[.slice none 0 0, .int .i64 (us.length : Nat)] 24)) := (Below.refl _ _).alloc (Nat.le_refl _) _
        have rt := Row.new w2 24 [.slice none 0 0, .int .i64 (us.length : Nat)]
        go_wp2_with fail
        go_loopw [12] (fun x wr => ∃ (j : Nat) (av : Option Addr) (cv : Nat) (ls : List Nat), j ≤ m ∧ x = .int .i64 j ∧ Hid (ls = (turnC m us).take j) ∧ Below w2.heap.size w2 wr ∧ Row wr w2.heap.size 24 [.slice av ls.length cv, .int .i64 (us.length : Nat)] ∧ wr.ownsRow (w2.heap.size + 1) 31 1 (.slice av ls.length cv) ls.length (wvals ls)) (fun x _ => m - (intOf x).toNat)
        case atStart => exact ⟨0, none, 0, [], Nat.zero_le _, rfl, hide rfl, hal, rt, World.ownsRow_nil ..⟩
        case round =>
          obtain ⟨j, av, cv, ls, hj, rfl, HLs, hbj, rj, hown⟩ := hrel
          have hBj := hB2.trans (hbj.mono hB2.size)
          have r3 := row_below r2 hbj lt2
          clear c0 c1 rt hal
          have c0 := r3.cell (i := 0) rfl
          have c1 := r3.cell (i := 1) rfl
          have hlsl : ls.length ≤ 16 := by rw [HLs.out, List.length_take, turnC_len]; omega
          by_cases hlj : j < m
          · obtain ⟨wj, hwj⟩ : ∃ V, V = wr := ⟨_, rfl⟩
            rw [← hwj] at hbj rj hown hBj r3 c0 c1 ⊢
            clear hwj wr
            have Rj := hR.step hBj
            have HW := hide (show wordOf (fun i => hasB (wd us i) j) us.length = wd (turnC m us) j from word_ext' fun i => by
              rw [hasB_wordOf]
              have h := has_turnC (i := i) hm (us := us) hlj
              rw [Bool.and_eq_true, decide_eq_true_iff]
              exact h.symm)
            have HS := hide (show (turnC m us).take (j + 1) = (turnC m us).take j ++ [wd (turnC m us) j] from by
              rw [List.take_succ_eq_append_getElem (by rw [turnC_len]; exact hlj), wd_get (by rw [turnC_len]; exact hlj)])
            go_wp2_with fail
            go_loopw [13, 14] (fun x i wr => ∃ k : Nat, k ≤ us.length ∧ i = .int .i64 k ∧ wr = wj ∧ x = .int .u32 (wordOf (fun i => hasB (wd us i) j) k : Nat)) (fun _ i _ => us.length - (intOf i).toNat)
            case atStart => exact ⟨0, Nat.zero_le _, rfl, rfl, rfl⟩
            case round =>
              obtain ⟨k, hk, rfl, hwr, rfl⟩ := hrel
              subst hwr
              by_cases hlk : k < us.length
              · obtain ⟨bu, ou, rfl, hbu, hcu⟩ := Rj.wds.at hlk
                have hck := hcu k hlk
                have hst : wordOf (fun i => hasB (wd us i) j) (k + 1) = if hasB (wd us k) j then orW (wordOf (fun i => hasB (wd us i) j) k) (bitW k) else wordOf (fun i => hasB (wd us i) j) k := rfl
                have hwl := wordOf_lt (fun i => hasB (wd us i) j) (k := k) (by omega)
                have Hst := hide hst
                clear hst hcu
                have hbit := Bit_any (wd us k) j (Rj.fit k) (by omega)
                generalize wordOf (fun i => hasB (wd us i) j) k = x at *
                have hbr := bit_raw (i := k) (by omega)
                have hor := bits_or32 x (bitW k) hwl (bitW_lt (by omega))
                have hh : hasB (wd us k) j = false ∨ hasB (wd us k) j = true := by cases hasB (wd us k) j <;> simp
                rcases hh with hh | hh
                · have HT : Hid (wordOf (fun i => hasB (wd us i) j) (k + 1) = x) := by have := Hst.out; rw [hh, if_neg (by simp)] at this; exact this
                  rw [hh] at hbit
                  clear hh
                  go_wp2_with (go_at_call 8; refine (hbit _).mono ?_; rintro e w7 ⟨rfl, hww⟩; rw [hww]; clear hww w7)
                  exact ⟨⟨k + 1, by omega, by go_num, by first | exact trivial | rfl, by rw [HT.out]⟩, by simp [intOf]; omega⟩
                · have HT : Hid (wordOf (fun i => hasB (wd us i) j) (k + 1) = orW x (bitW k)) := by have := Hst.out; rw [hh, if_pos rfl] at this; exact this
                  rw [hh] at hbit
                  clear hh
                  go_wp2_with (go_at_call 8; refine (hbit _).mono ?_; rintro e w7 ⟨rfl, hww⟩; rw [hww]; clear hww w7)
                  exact ⟨⟨k + 1, by omega, by go_num, by first | exact trivial | rfl, by rw [HT.out]⟩, by simp [intOf]; omega⟩
              · obtain rfl : k = us.length := by omega
                rw [HW.out]
                generalize wd (turnC m us) j = v at *
                have t0 := rj.cell (i := 0) rfl
                have lj := rj.lt
                have hle : w2.heap.size + 1 ≤ wr.heap.size := by omega
                go_wp2_with (at_builtin; refine wpList_append_own _ rfl _ _ 22 rfl (w2.heap.size + 1) 31 z0 (.int .u32 0) 1 4 Try.underlying22 hz hz0 hz1 hz2 rfl (by decide) _ _ _ rfl (hown.alloc _) ⟨wr.heap.size, 0, none⟩ 1 1 [.int .u32 (v : Nat)] rfl rfl (cell_one_new _ _ _) (fun u hu => by simp at hu; subst hu; rfl) (by unfold maxLen; omega) (by omega) (by simp; omega) ?_)
                intro v' w5 hown5 hgrow5 _
                obtain ⟨g', cap', rfl⟩ := ownsRow_succ hown5
                have nb : ∀ q, (Value.slice av ls.length cv).ownBlock = some q → w2.heap.size + 1 ≤ q := fun q eq => by
                  apply Nat.le_of_not_lt; intro hql
                  exact ownBlock_ge hown (b := q) hql eq.symm
                have hb5 := (hbj.alloc (by omega) (.cells #[.int .u32 (v : Nat)] 31)).grown hgrow5 (by simp; omega) fun q eq => by have := nb q eq; omega
                have r5 := (rj.alloc (.cells #[.int .u32 (v : Nat)] 31)).kept hgrow5 (fun h => by have := nb _ h.symm; omega)
                have t5 := r5.cell (i := 0) rfl
                have f5 := r5.frozen 0
                have hl1 : (ls ++ [v]).length = ls.length + 1 := by rw [List.length_append]; rfl
                clear t0 c0 c1
                go_wp2_with fail
                refine ⟨⟨j + 1, some ⟨g', 0, none⟩, cap', ls ++ [v], by omega, by go_num, hide (by rw [HS.out, HLs.out]), hb5.setCell (p := ⟨w2.heap.size, 0, none⟩) (Nat.le_refl _) _, by rw [hl1]; exact r5.set 0 _, ?_⟩, by simp [intOf]; omega⟩
                rw [hl1, show wvals (ls ++ [v]) = wvals ls ++ [.int .u32 (v : Nat)] by unfold wvals; simp]
                exact ownsRow_setCell_below hown5 (a := ⟨w2.heap.size, 0, none⟩) (by dsimp only; omega) _
          · obtain rfl : j = m := by omega
            have hls : ls = turnC j us := by rw [HLs.out]; exact List.take_of_length_le (by rw [turnC_len]; exact Nat.le_refl _)
            have hsz := hown
            have t0 := rj.cell (i := 0) rfl
            have t1 := rj.cell (i := 1) rfl
            have hll : ls.length = j := by rw [hls, turnC_len]
            have RT : Rdy av ls wr.heap.size wr := ⟨fun i => by
                by_cases hi : i < j
                · rw [hls, wd_turnC hi]; exact dnW_lt hl _
                · rw [hls]; unfold wd; rw [List.getD_eq_getElem?_getD, List.getElem?_eq_none (by rw [turnC_len]; omega)]; simp, own_words hown, Nat.le_refl _⟩
            have s3 := Concepts_any (us.length : Int) av cv ls wr.heap.size wr RT
            have hcode : codeC (us.length : Int) ls = 0 := by rw [hls]; exact turn_code hm hl
            have hlen : (conP us.length ls).length = P.length := by rw [HPP.out, conP_len, conP_len, hls, turn_len hm hl]
            have HC := hide hcode
            have HLN := hide hlen
            clear hls hcode hlen hll
            go_wp2_with fail
            refine s3.mono ?_
            rintro e w7 ⟨hp, hb7⟩
            have hB7 := hBj.trans (hb7.mono hBj.size)
            rcases hp with ⟨hx, _⟩ | ⟨_, hx, _⟩ | ⟨_, P2, B2, cp2, hP2, _, rfl, _, _⟩
            · exact absurd HC.out hx
            · exfalso
              have h1 := HLN.out
              rw [Int.toNat_natCast] at hx
              rw [conP_len] at h1
              omega
            · have hl2 : P2.length = P.length := by
                rw [hP2, Int.toNat_natCast]; exact HLN.out
              have f9 : ((P2.length : Int) == (P.length : Int)) = true := by rw [beq_iff_eq, hl2]
              clear hP2 hl2
              go_wp2_with fail
              go_ret
              exact ⟨rfl, hB7⟩
end Go.Proofs.Ytdeglbmoiofpoaa
