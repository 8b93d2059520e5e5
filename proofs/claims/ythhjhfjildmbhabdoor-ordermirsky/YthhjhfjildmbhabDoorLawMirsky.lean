/- The walk of the law OrderMirsky: it answers true, and writes nothing that was there. -/
import Derived.Test.YthhjhfjildmbhabDoorChain
import Derived.Test.YthhjhfjildmbhabDoorSound
import Derived.Test.YthhjhfjildmbhabDoorMirskyPlain
import Derived.Lib.QuietBelow
import Derived.BigQuiet
namespace Go.Proofs.YthhjhfjildmbhabDoor
open Go.RowKit Go.Shelf

set_option maxRecDepth 100000 in
set_option maxHeartbeats 1000000 in
theorem mirsky_bad (n : Int) (a : Option Addr) (cap : Nat) (us : List Nat) (a' : Option Addr) (cap' : Nat) (zs : List Int) (n₀ : Nat) (hf : Fit us) (w : World) (hT : TabAt w) (hw : IsWords n₀ w a us) (hg : 0 < n₀) (hn₀ : n₀ ≤ w.heap.size) (hc : codeOf n us ≠ 0) :
    Calls Tryd.prog 5 #[.agg #[.int .i64 n, .slice a us.length cap], .slice a' zs.length cap'] w fun e w' => e = .returned (.bool true) ∧ Below w.heap.size w w' := by
  obtain ⟨r0, hb0, hs0⟩ := one_row w 24 (.int .i64 n) (.slice a us.length cap) rfl
  have hT1 := hT.below hb0 (by omega)
  have hw1 := hw.below (hb0.mono hn₀)
  have hso := sound_any n a cap us n₀ hf _ hw1 (by omega)
  have h1 : (codeOf n us == 0) = false := by rw [beq_eq_false_iff_ne]; exact hc
  have h2 : (codeOf n us != 0) = true := by rw [bne_iff_ne]; exact hc
  rw [h1] at hso
  have c00 := r0.cell (i := 0) rfl
  have c01 := r0.cell (i := 1) rfl
  go_enter Tryd.func5, Tryd.ntmps5
  go_wp2_with fail
  refine hso.mono ?_
  rintro e w1 ⟨rfl, hb1⟩
  have q0 := row_below r0 hb1 r0.lt
  have hs1 := hb1.size
  have hre := refused_any n a cap us n₀ hf w1 (hT1.below hb1 (by omega)) (hw1.below (hb1.mono (by omega))) hg (by omega)
  rw [h2] at hre
  have d00 := q0.cell (i := 0) rfl
  have d01 := q0.cell (i := 1) rfl
  have HB := hide (hb0.trans (hb1.mono (by omega)))
  clear hso c00 c01 hb0 hb1 h1 h2 hc
  go_wp2_with (go_at_call 10; refine hre.mono ?_; rintro e w2 ⟨rfl, hb2⟩)
  go_ret
  exact ⟨rfl, HB.out.trans (hb2.mono (by have := HB.out.size; omega))⟩

set_option maxRecDepth 100000 in
set_option maxHeartbeats 1000000 in
theorem mirsky_ok (n : Int) (a : Option Addr) (cap : Nat) (us : List Nat) (a' : Option Addr) (cap' : Nat) (zs : List Int) (n₀ : Nat) (hf : Fit us) (h63 : zs.length ≤ 9223372036854775807) (w : World) (hT : TabAt w) (hw : IsWords n₀ w a us) (hz : ZInts n₀ w a' zs) (hg : 0 < n₀) (hn₀ : n₀ ≤ w.heap.size) (hc : codeOf n us = 0) :
    Calls Tryd.prog 5 #[.agg #[.int .i64 n, .slice a us.length cap], .slice a' zs.length cap'] w fun e w' => e = .returned (.bool true) ∧ Below w.heap.size w w' := by
  obtain ⟨_, h16, hlen, hin, hord⟩ := code_zero hc
  have hl16 : us.length ≤ 16 := by omega
  obtain ⟨r0, hb0, hs0⟩ := one_row w 24 (.int .i64 n) (.slice a us.length cap) rfl
  have hT0 := hT.below hb0 (by omega)
  have hw0 := hw.below (hb0.mono hn₀)
  have hso := sound_any n a cap us n₀ hf _ hw0 (by omega)
  have h1 : (codeOf n us == 0) = true := by rw [beq_iff_eq]; exact hc
  rw [h1] at hso
  have c00 := r0.cell (i := 0) rfl
  have c01 := r0.cell (i := 1) rfl
  have Hc := hide hc
  have Hlen := hide hlen
  clear hc h1 hlen
  go_enter Tryd.func5, Tryd.ntmps5
  go_wp2_with fail
  refine hso.mono ?_
  rintro e w1 ⟨rfl, hb1⟩
  have q1 := row_below r0 hb1 r0.lt
  have hB1 : Below w.heap.size w w1 := hb0.trans (hb1.mono (by omega))
  have hz1 : w.heap.size < w1.heap.size := q1.lt
  have d00 := q1.cell (i := 0) rfl
  have d01 := q1.cell (i := 1) rfl
  clear hso c00 c01 r0 hb0 hb1 hs0 hT0 hw0
  go_wp2_with fail
  refine (Heights_ok n a cap us n₀ hf w1 (hT.below hB1 (by omega)) (hw.below (hB1.mono hn₀)) hg (by omega) Hc.out).mono ?_
  rintro e w2 ⟨B, hs, rfl, hb2, hBle, rH, hhl, hsm, hht⟩
  have hs2 := hb2.size
  have hB2 : Below w.heap.size w w2 := hB1.trans (hb2.mono (by omega))
  have q2 := row_below q1 hb2 hz1
  have e00 := q2.cell (i := 0) rfl
  have e01 := q2.cell (i := 1) rfl
  have ltH := rH.lt
  clear d00 d01
  go_wp2_with fail
  refine (Chain_ok n a cap us n₀ hf w2 (hT.below hB2 (by omega)) (hw.below (hB2.mono hn₀)) hg (by omega) Hc.out).mono ?_
  rintro e w3 ⟨av, cv, gs, M, rfl, hb3, hown, hgt, htop, hMl⟩
  have hs3 := hb3.size
  have hB3 : Below w.heap.size w w3 := hB2.trans (hb3.mono (by omega))
  have q3 := row_below q2 hb3 (by omega)
  have rH3 := row_below rH hb3 ltH
  have f00 := q3.cell (i := 0) rfl
  have f01 := q3.cell (i := 1) rfl
  have hlen := Hlen.out
  subst hlen
  have hne : ((us.length : Int) != (us.length : Int)) = false := by simp
  have hlc : (toZ (chainF us (wd gs) M M)).length = M := by rw [toZ_len, chainF_len]
  have hch := chained_z a cap us av cv (toZ (chainF us (wd gs) M M)) w3.heap.size hf hl16 (by omega) w3 ((hw.below (hB3.mono hn₀)).mono (by omega)) (ownsRow_ints hown).z (Nat.le_refl _)
  rw [chainZB_true.2 (chain_isChain hgt htop), hlc] at hch
  clear e00 e01
  go_wp2_with (go_at_call 18; refine hch.mono ?_; rintro e w4 ⟨rfl, hb4⟩)
  have hs4 := hb4.size
  have hB4 : Below w.heap.size w w4 := hB3.trans (hb4.mono (by omega))
  have q4 := row_below q3 hb4 (by omega)
  have rH4 := row_below rH3 hb4 (by omega)
  have iC4 := (ownsRow_ints hown).below hb4
  have hdu := fun i (hi : i < us.length) => down_up hht hgt htop _ i hi rfl
  clear hch f00 f01 hne q1 q2 q3 rH rH3 hown
  go_loopw [9] (fun i wr => ∃ k : Nat, k ≤ us.length ∧ i = .int .i64 k ∧ Below w4.heap.size w4 wr) (fun i _ => us.length - (intOf i).toNat)
  case atStart => exact ⟨0, Nat.zero_le _, rfl, Below.refl _ _⟩
  case round =>
    obtain ⟨k, hk, rfl, hbr⟩ := hrel
    have qr := row_below q4 hbr q4.lt
    have r00 := qr.cell (i := 0) rfl
    have r01 := qr.cell (i := 1) rfl
    have rHr := row_below rH4 hbr rH4.lt
    by_cases hlt : k < us.length
    · have cK := rHr.cell (i := k) (ivals_at (by rw [hhl]; exact hlt))
      have hduk := hdu k hlt
      have hn0 : decide (((wd hs k : Nat) : Int) < 0) = false := by simp
      have hn1 : decide (((M : Nat) : Int) ≤ ((wd hs k : Nat) : Int)) = false := by simp; omega
      go_wp2
      go_loopw [10] (fun j wr => ∃ j' : Nat, j' ≤ us.length ∧ j = .int .i64 j' ∧ Below w4.heap.size w4 wr) (fun j _ => us.length - (intOf j).toNat)
      case atStart => exact ⟨0, Nat.zero_le _, rfl, hbr⟩
      case round =>
        clear hbr qr r00 r01 rHr cK hn0 hn1
        obtain ⟨j, hj, rfl, hbr⟩ := hrel
        have qr := row_below q4 hbr q4.lt
        have r00 := qr.cell (i := 0) rfl
        have r01 := qr.cell (i := 1) rfl
        have rHr := row_below rH4 hbr rH4.lt
        have hrs := hbr.size
        by_cases hlj : j < us.length
        · have cK := rHr.cell (i := k) (ivals_at (by rw [hhl]; exact hlt))
          have cJ := rHr.cell (i := j) (ivals_at (by rw [hhl]; exact hlj))
          have cU : ∀ d os, Calls Tryd.prog 19 #[.agg #[.int .i64 us.length, .slice a us.length cap], .int .i64 (k : Nat), .int .i64 (j : Nat)] (Go.Sort.grow (redrawn wr d) os) fun e w'' => e = .returned (.bool (underB us k j)) ∧ ∃ p : Regrown, w'' = Go.Sort.grow (redrawn wr p.d) p.os := fun d os => Calls.regrown_of
            (kunder_any us.length a cap us k j n₀ hf hlt (by omega) (Go.Sort.grow (redrawn wr d) os) ((hw.below ((hB4.trans (hbr.mono (by omega))).mono hn₀)).below ((below_regrown wr d os).mono (by omega))) (by have := (below_regrown wr d os).size; omega))
          have k0 := cell_regrown r00
          have k1 := cell_regrown r01
          have k2 := cell_regrown cK
          have k3 := cell_regrown cJ
          have hstep := fun hu => (hht j hlj).1 k hlt hu
          cases hu : underB us k j with
          | true =>
            rw [hu] at cU
            have h2 := hstep hu
            have hge : decide (wd hs j ≤ wd hs k) = false := by simp; omega
            clear hu hstep r01 cK cJ h2
            go_wp2
            refine wp_region_quiet_below (by kernel_rfl) (by kernel_rfl) ?_
            repeat (go_big_quiet_step (exact cU _ _))
            refine wpQuiet_nil ?_
            intro _ hw'
            obtain ⟨⟨dq, osq⟩, hw''⟩ := hw'
            subst hw''
            go_wp2
            go_roundw
            case rel => exact ⟨j + 1, by omega, by go_num, hbr.trans ((below_regrown _ dq osq).mono hrs)⟩
            case measure => simp [intOf]; omega
          | false =>
            rw [hu] at cU
            clear hu hstep r01 cK cJ
            go_wp2
            refine wp_region_quiet_below (by kernel_rfl) (by kernel_rfl) ?_
            repeat (go_big_quiet_step (exact cU _ _))
            refine wpQuiet_nil ?_
            intro _ hw'
            obtain ⟨⟨dq, osq⟩, hw''⟩ := hw'
            subst hw''
            go_wp2
            go_roundw
            case rel => exact ⟨j + 1, by omega, by go_num, hbr.trans ((below_regrown _ dq osq).mono hrs)⟩
            case measure => simp [intOf]; omega
        · go_wp2
          exact ⟨⟨k + 1, by omega, by go_num, hbr⟩, by simp [intOf]; omega⟩
    · go_wp2
      have hcz := chained_z a cap us a' cap' zs n₀ hf hl16 h63 wr (hw.below ((hB4.trans (hbr.mono (by omega))).mono hn₀)) (hz.below ((hB4.trans (hbr.mono (by omega))).mono hn₀)) (by have := hbr.size; omega)
      go_loop [11] (fun i => ∃ t : Nat, t ≤ M ∧ i = .int .i64 t) (fun i => M - (intOf i).toNat)
      case atStart => exact ⟨0, Nat.zero_le _, rfl⟩
      case round =>
        obtain ⟨t, ht, rfl⟩ := hrel
        by_cases hlt' : t < M
        · obtain ⟨b, off, rfl, hbb, hcc⟩ := (iC4.below (hbr.mono hs4)).at (i := t) (by rw [chainF_len]; exact hlt')
          have cT := hcc t (by rw [chainF_len]; exact hlt')
          have hct := (chain_at hgt htop M (Nat.le_refl _) t hlt').1
          have hth := chain_height hht hgt htop t hlt'
          have cH := rHr.cell (ivals_at (by rw [hhl]; exact hct))
          rw [hth] at cH
          generalize wd (chainF us (wd gs) M M) t = c at *
          have hne : ((t : Int) != (t : Int)) = false := by simp
          clear hcc hth hcz r00 r01
          go_wp2
          go_round
          case rel => exact ⟨t + 1, by omega, by go_num⟩
          case measure => simp [intOf]; omega
        · cases hcb : chainZB us zs with
          | false =>
            rw [hcb] at hcz
            clear hcb
            go_wp2_with (go_at_call 18; refine hcz.mono ?_; rintro e w5 ⟨rfl, hb5⟩)
            go_ret
            exact ⟨rfl, (hB4.trans (hbr.mono (by omega))).trans (hb5.mono (by have := hbr.size; omega))⟩
          | true =>
            rw [hcb] at hcz
            have hsh := chain_short hht hgt htop (chainZB_true.1 hcb)
            have HS := hide hsh
            clear hcb hsh
            go_wp2_with (go_at_call 18; refine hcz.mono ?_; rintro e w5 ⟨rfl, hb5⟩)
            go_ret
            exact ⟨ret_bool (decide_eq_true HS.out), (hB4.trans (hbr.mono (by omega))).trans (hb5.mono (by have := hbr.size; omega))⟩

/-- **OrderMirsky answers true, for every order and every list, and writes nothing that was there** -/
theorem mirsky_any (n : Int) (a : Option Addr) (cap : Nat) (us : List Nat) (a' : Option Addr) (cap' : Nat) (zs : List Int) (n₀ : Nat) (hf : Fit us) (h63 : zs.length ≤ 9223372036854775807) (w : World) (hT : TabAt w) (hw : IsWords n₀ w a us) (hz : ZInts n₀ w a' zs) (hg : 0 < n₀) (hn₀ : n₀ ≤ w.heap.size) :
    Calls Tryd.prog 5 #[.agg #[.int .i64 n, .slice a us.length cap], .slice a' zs.length cap'] w fun e w' => e = .returned (.bool true) ∧ Below w.heap.size w w' := by
  by_cases hc : codeOf n us = 0
  · exact mirsky_ok n a cap us a' cap' zs n₀ hf h63 w hT hw hz hg hn₀ hc
  · exact mirsky_bad n a cap us a' cap' zs n₀ hf w hT hw hg hn₀ hc
end Go.Proofs.YthhjhfjildmbhabDoor
