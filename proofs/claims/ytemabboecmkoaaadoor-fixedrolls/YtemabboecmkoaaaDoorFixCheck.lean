/- What is told of a map: the program's checkMap and the document's FixedCheck. -/
import Derived.Test.YtemabboecmkoaaaDoorFixLow
namespace Go.Proofs.YtemabboecmkoaaaDoor
open Go.RowKit Go.Shelf

set_option maxRecDepth 100000 in
set_option maxHeartbeats 2000000 in
theorem checkMap_any (a : Option Addr) (cap : Nat) (us : List Nat) (ag : Option Addr) (cg : Nat) (zs : List Int) (n₀ : Nat) (hf : Fit us) (hl : us.length ≤ 16) (h63 : zs.length ≤ 9223372036854775807) (w : World) (hw : IsWords n₀ w a us) (hz : ZInts n₀ w ag zs) (hn₀ : n₀ ≤ w.heap.size) :
    Calls Tryd.prog 24 #[.agg #[.int .i64 us.length, .slice a us.length cap], .slice ag zs.length cg] w fun e w' => e = .returned (.int .i64 (mapCode us zs)) ∧ Below w.heap.size w w' := by
  obtain ⟨r0, hb0, hs0⟩ := one_row w 24 (.int .i64 us.length) (.slice a us.length cap) rfl
  have hin := into_any us.length us.length ag cg zs n₀ h63 _ (hz.below (hb0.mono hn₀))
  have q0 := r0.cell (i := 0) rfl
  obtain ⟨W0, hW0⟩ : ∃ W0, W0 = w.alloc (.cells #[.int .i64 us.length, .slice a us.length cap] 24) := ⟨_, rfl⟩
  rw [← hW0] at r0 hb0 hs0
  have lt0 := r0.lt
  have k0 := lt0
  have hwW := hw.below (hb0.mono hn₀)
  have hzW := hz.below (hb0.mono hn₀)
  cases hI : intoB us.length us.length zs with
  | false =>
    rw [hI] at hin
    rw [mapCode_arg hI]
    clear hI
    go_enter Tryd.func24, Tryd.ntmps24
    go_wp2_with (go_at_call 40; refine hin.mono ?_; rintro e w1 ⟨rfl, hww⟩; rw [hww]; clear hww w1)
    go_ret
    exact ⟨rfl, hW0 ▸ hb0⟩
  | true =>
    rw [hI] at hin
    have hmap := into_map hI
    have hzi := (mapN_ints (intoB_true.1 hI).2 hzW)
    have HF := hide (fun h => mapCode_form (us := us) (zs := zs) hI h)
    have HO := hide (fun h => mapCode_ok (us := us) (zs := zs) hI h)
    have hlz : zs.length = us.length := (intoB_true.1 hI).1
    have hlm := hmap.len
    have hml := hmap.lt
    rw [hlz] at hin ⊢
    clear hI hmap hz hw hzW
    generalize mapN zs = fs at *
    go_enter Tryd.func24, Tryd.ntmps24
    go_wp2_with (go_at_call 40; refine hin.mono ?_; rintro e w1 ⟨rfl, hww⟩; rw [hww]; clear hww w1)
    rw [← hW0]
    clear hin k0 q0 hW0
    go_loopw [16] (fun i wr => ∃ x : Nat, x ≤ us.length ∧ i = .int .i64 x ∧ (∀ p, p < x → ∀ q, q < us.length → keepP us fs p q) ∧ Below W0.heap.size W0 wr) (fun i _ => us.length - (intOf i).toNat)
    case atStart => exact ⟨0, Nat.zero_le _, rfl, fun p hp => by omega, Below.refl _ _⟩
    case round =>
      obtain ⟨x, hx', rfl, hrows, hbr⟩ := hrel
      have hbs := hbr.size
      have o0 := (row_below r0 hbr lt0).cell (i := 0) rfl
      by_cases hx : x < us.length
      · go_wp2
        clear o0
        go_loopw [21] (fun i wr => ∃ y : Nat, y ≤ us.length ∧ i = .int .i64 y ∧ (∀ q, q < y → keepP us fs x q) ∧ Below W0.heap.size W0 wr) (fun i _ => us.length - (intOf i).toNat)
        case atStart => exact ⟨0, Nat.zero_le _, rfl, fun q hq => by omega, hbr⟩
        clear hbr hbs
        case round =>
          obtain ⟨y, hy', rfl, hrow, hbr⟩ := hrel
          have hbs := hbr.size
          have z0 := row_below r0 hbr lt0
          have lz0 := z0.lt
          have o0 := z0.cell (i := 0) rfl
          have o1 := z0.cell (i := 1) rfl
          have hWr := hwW.below (hbr.mono (by omega))
          have hZr := hzi.below (hbr.mono (by omega))
          by_cases hy : y < us.length
          · have hfx := hml x hx
            have hfy := hml y hy
            have c2 := of_re ag cg fs n₀ wr hZr (by omega) x _ (by omega) rfl
            have c3 := of_re ag cg fs n₀ wr hZr (by omega) y _ (by omega) rfl
            rw [hlm] at c2 c3
            have c4 := fun r => fbelow_re us.length a cap us n₀ hf hl wr hWr (by omega) (wd fs x) (wd fs y) r hfx hfy
            have HK : keepP us fs x y ↔ (hasB (wd us x) y = true → hasB (wd us (wd fs x)) (wd fs y) = true) := Iff.rfl
            have c1 := fun r => fbelow_re us.length a cap us n₀ hf hl wr hWr (by omega) x y r hx hy
            generalize wd fs x = fx at *
            generalize wd fs y = fy at *
            have g0 := cell_regrown o0
            have g1 := cell_regrown o1
            go_wp2
            cases e1 : hasB (wd us x) y with
            | false =>
              have c1 := c1 false e1
              have HS := hide (HK.2 (fun h => by rw [e1] at h; cases h))
              clear c4 HK e1
              refine wp_region_quiet_below (by kernel_rfl) (by kernel_rfl) ?_
              repeat (go_big_quiet_step (first | with_reducible exact c1 _ _))
              refine wpQuiet_nil ?_
              intro _ hw'
              obtain ⟨⟨dq, osq⟩, hw''⟩ := hw'
              subst hw''
              go_wp2
              go_roundw
              case rel => exact ⟨y + 1, by omega, by go_num, fun q hq => by
                by_cases e : q = y
                · rw [e]; exact HS.out
                · exact hrow q (by omega), hbr.trans ((below_regrown _ dq osq).mono hbr.size)⟩
              case measure => simp [intOf]; omega
            | true =>
              have c1 := c1 true e1
              cases e2 : hasB (wd us fx) fy with
              | true =>
                have c4 := c4 true e2
                have HS := hide (HK.2 (fun _ => e2))
                clear HK e1 e2
                refine wp_region_quiet_below (by kernel_rfl) (by kernel_rfl) ?_
                repeat (go_big_quiet_step (first | with_reducible exact c1 _ _ | with_reducible exact c4 _ _ | with_reducible exact c2 _ _ | with_reducible exact c3 _ _))
                refine wpQuiet_nil ?_
                intro _ hw'
                obtain ⟨⟨dq, osq⟩, hw''⟩ := hw'
                subst hw''
                go_wp2
                go_roundw
                case rel => exact ⟨y + 1, by omega, by go_num, fun q hq => by
                  by_cases e : q = y
                  · rw [e]; exact HS.out
                  · exact hrow q (by omega), hbr.trans ((below_regrown _ dq osq).mono hbr.size)⟩
                case measure => simp [intOf]; omega
              | false =>
                have c4 := c4 false e2
                have HS := hide (show ¬ keepP us fs x y from fun h => by have h' := HK.1 h e1; rw [e2] at h'; cases h')
                clear HK e1 e2
                refine wp_region_quiet_below (by kernel_rfl) (by kernel_rfl) ?_
                repeat (go_big_quiet_step (first | with_reducible exact c1 _ _ | with_reducible exact c4 _ _ | with_reducible exact c2 _ _ | with_reducible exact c3 _ _))
                refine wpQuiet_nil ?_
                intro _ hw'
                obtain ⟨⟨dq, osq⟩, hw''⟩ := hw'
                subst hw''
                go_wp2
                go_ret
                exact ⟨ret_int (HF.out (monoB_false.2 fun hm => HS.out (hm x hx y hy))).symm, hb0.trans ((hbr.trans ((below_regrown _ dq osq).mono hbr.size)).mono (by omega))⟩
          · obtain rfl : y = us.length := by omega
            go_wp2
            go_roundw
            case rel => exact ⟨x + 1, by omega, by go_num, fun p hp => by
              by_cases e : p = x
              · rw [e]; exact hrow
              · exact hrows p (by omega), hbr⟩
            case measure => simp [intOf]; omega
      · obtain rfl : x = us.length := by omega
        go_wp2
        go_ret
        exact ⟨ret_int (HO.out (monoB_true.2 hrows)).symm, hb0.trans (hbr.mono (by omega))⟩

set_option maxRecDepth 100000 in
set_option maxHeartbeats 2000000 in
theorem RefFix_any (a : Option Addr) (cap : Nat) (us : List Nat) (ag : Option Addr) (cg : Nat) (zs : List Int) (n₀ : Nat) (hf : Fit us) (hl : us.length ≤ 16) (h63 : zs.length ≤ 9223372036854775807) (w : World) (hw : IsWords n₀ w a us) (hz : ZInts n₀ w ag zs) (hn₀ : n₀ ≤ w.heap.size) :
    Calls Tryd.prog 22 #[.agg #[.int .i64 us.length, .slice a us.length cap], .slice ag zs.length cg] w fun e w' => e = .returned (.int .i64 (mapCode us zs)) ∧ Below w.heap.size w w' := by
  obtain ⟨r0, hb0, hs0⟩ := one_row w 24 (.int .i64 us.length) (.slice a us.length cap) rfl
  have hin := MapInto_any us.length us.length ag cg zs n₀ h63 _ (hz.below (hb0.mono hn₀))
  have q0 := r0.cell (i := 0) rfl
  obtain ⟨W0, hW0⟩ : ∃ W0, W0 = w.alloc (.cells #[.int .i64 us.length, .slice a us.length cap] 24) := ⟨_, rfl⟩
  rw [← hW0] at r0 hb0 hs0
  have lt0 := r0.lt
  have k0 := lt0
  have hwW := hw.below (hb0.mono hn₀)
  have hzW := hz.below (hb0.mono hn₀)
  cases hI : intoB us.length us.length zs with
  | false =>
    rw [hI] at hin
    rw [mapCode_arg hI]
    clear hI
    go_enter Tryd.func22, Tryd.ntmps22
    go_wp2_with (go_at_call 36; refine hin.mono ?_; rintro e w1 ⟨rfl, hww⟩; rw [hww]; clear hww w1)
    go_ret
    exact ⟨rfl, hW0 ▸ hb0⟩
  | true =>
    rw [hI] at hin
    have hmap := into_map hI
    have hzi := (mapN_ints (intoB_true.1 hI).2 hzW)
    have HF := hide (fun h => mapCode_form (us := us) (zs := zs) hI h)
    have HO := hide (fun h => mapCode_ok (us := us) (zs := zs) hI h)
    have hlz : zs.length = us.length := (intoB_true.1 hI).1
    have hlm := hmap.len
    have hml := hmap.lt
    rw [hlz] at hin ⊢
    clear hI hmap hz hw hzW
    generalize mapN zs = fs at *
    go_enter Tryd.func22, Tryd.ntmps22
    go_wp2_with (go_at_call 36; refine hin.mono ?_; rintro e w1 ⟨rfl, hww⟩; rw [hww]; clear hww w1)
    rw [← hW0]
    clear hin k0 q0 hW0
    go_loopw [5] (fun i wr => ∃ x : Nat, x ≤ us.length ∧ i = .int .i64 x ∧ (∀ p, p < x → ∀ q, q < us.length → keepP us fs p q) ∧ Below W0.heap.size W0 wr) (fun i _ => us.length - (intOf i).toNat)
    case atStart => exact ⟨0, Nat.zero_le _, rfl, fun p hp => by omega, Below.refl _ _⟩
    case round =>
      obtain ⟨x, hx', rfl, hrows, hbr⟩ := hrel
      have hbs := hbr.size
      have o0 := (row_below r0 hbr lt0).cell (i := 0) rfl
      by_cases hx : x < us.length
      · go_wp2
        clear o0
        go_loopw [6] (fun i wr => ∃ y : Nat, y ≤ us.length ∧ i = .int .i64 y ∧ (∀ q, q < y → keepP us fs x q) ∧ Below W0.heap.size W0 wr) (fun i _ => us.length - (intOf i).toNat)
        case atStart => exact ⟨0, Nat.zero_le _, rfl, fun q hq => by omega, hbr⟩
        clear hbr hbs
        case round =>
          obtain ⟨y, hy', rfl, hrow, hbr⟩ := hrel
          have hbs := hbr.size
          have z0 := row_below r0 hbr lt0
          have lz0 := z0.lt
          have o0 := z0.cell (i := 0) rfl
          have o1 := z0.cell (i := 1) rfl
          have hWr := hwW.below (hbr.mono (by omega))
          have hZr := hzi.below (hbr.mono (by omega))
          by_cases hy : y < us.length
          · have hfx := hml x hx
            have hfy := hml y hy
            obtain ⟨b, off, rfl, hb, hcc⟩ := hZr.at (i := x) (by omega)
            have hcx := hcc x (by omega)
            have hcy := hcc y (by omega)
            have gx := cell_regrown hcx
            have gy := cell_regrown hcy
            clear hcc
            have c4 := fun r => rbelow_re us.length a cap us n₀ hf hl wr hWr (by omega) (wd fs x) (wd fs y) r hfx hfy
            have HK : keepP us fs x y ↔ (hasB (wd us x) y = true → hasB (wd us (wd fs x)) (wd fs y) = true) := Iff.rfl
            have c1 := fun r => rbelow_re us.length a cap us n₀ hf hl wr hWr (by omega) x y r hx hy
            generalize wd fs x = fx at *
            generalize wd fs y = fy at *
            have g0 := cell_regrown o0
            have g1 := cell_regrown o1
            go_wp2
            cases e1 : hasB (wd us x) y with
            | false =>
              have c1 := c1 false e1
              have HS := hide (HK.2 (fun h => by rw [e1] at h; cases h))
              clear c4 HK e1
              refine wp_region_quiet_below (by kernel_rfl) (by kernel_rfl) ?_
              repeat (go_big_quiet_step (first | with_reducible exact c1 _ _))
              refine wpQuiet_nil ?_
              intro _ hw'
              obtain ⟨⟨dq, osq⟩, hw''⟩ := hw'
              subst hw''
              go_wp2
              go_roundw
              case rel => exact ⟨y + 1, by omega, by go_num, fun q hq => by
                by_cases e : q = y
                · rw [e]; exact HS.out
                · exact hrow q (by omega), hbr.trans ((below_regrown _ dq osq).mono hbr.size)⟩
              case measure => simp [intOf]; omega
            | true =>
              have c1 := c1 true e1
              cases e2 : hasB (wd us fx) fy with
              | true =>
                have c4 := c4 true e2
                have HS := hide (HK.2 (fun _ => e2))
                clear HK e1 e2
                refine wp_region_quiet_below (by kernel_rfl) (by kernel_rfl) ?_
                repeat (go_big_quiet_step (first | with_reducible exact c1 _ _ | with_reducible exact c4 _ _))
                refine wpQuiet_nil ?_
                intro _ hw'
                obtain ⟨⟨dq, osq⟩, hw''⟩ := hw'
                subst hw''
                go_wp2
                go_roundw
                case rel => exact ⟨y + 1, by omega, by go_num, fun q hq => by
                  by_cases e : q = y
                  · rw [e]; exact HS.out
                  · exact hrow q (by omega), hbr.trans ((below_regrown _ dq osq).mono hbr.size)⟩
                case measure => simp [intOf]; omega
              | false =>
                have c4 := c4 false e2
                have HS := hide (show ¬ keepP us fs x y from fun h => by have h' := HK.1 h e1; rw [e2] at h'; cases h')
                clear HK e1 e2
                refine wp_region_quiet_below (by kernel_rfl) (by kernel_rfl) ?_
                repeat (go_big_quiet_step (first | with_reducible exact c1 _ _ | with_reducible exact c4 _ _))
                refine wpQuiet_nil ?_
                intro _ hw'
                obtain ⟨⟨dq, osq⟩, hw''⟩ := hw'
                subst hw''
                go_wp2
                go_ret
                exact ⟨ret_int (HF.out (monoB_false.2 fun hm => HS.out (hm x hx y hy))).symm, hb0.trans ((hbr.trans ((below_regrown _ dq osq).mono hbr.size)).mono (by omega))⟩
          · obtain rfl : y = us.length := by omega
            go_wp2
            go_roundw
            case rel => exact ⟨x + 1, by omega, by go_num, fun p hp => by
              by_cases e : p = x
              · rw [e]; exact hrow
              · exact hrows p (by omega), hbr⟩
            case measure => simp [intOf]; omega
      · obtain rfl : x = us.length := by omega
        go_wp2
        go_ret
        exact ⟨ret_int (HO.out (monoB_true.2 hrows)).symm, hb0.trans (hbr.mono (by omega))⟩
end Go.Proofs.YtemabboecmkoaaaDoor
