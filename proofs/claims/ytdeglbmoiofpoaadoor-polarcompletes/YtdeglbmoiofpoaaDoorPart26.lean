/- The contracts of package times' Leq, of the document's TimesLeq, TimesPair and TimesSame. The walk of the law PolarCompletes: it answers true, and writes nothing that was there. -/
import Derived.Test.YtdeglbmoiofpoaaDoorPart25
import Derived.Test.YtdeglbmoiofpoaaDoorPart23
import Derived.Test.YtdeglbmoiofpoaaDoorPart16
import Derived.Test.YtdeglbmoiofpoaaDoorPart24
namespace Go.Proofs.YtdeglbmoiofpoaaDoor
open Go.RowKit Go.Shelf

set_option maxRecDepth 100000 in
set_option maxHeartbeats 1000000 in
theorem rtsame_any (a : Option Addr) (ca : Nat) (zs : List Int) (b : Option Addr) (cb : Nat) (ys : List Int) (n₀ : Nat) (h63 : zs.length ≤ 9223372036854775807) (w : World) (hz : ZInts n₀ w a zs) (hy : ZInts n₀ w b ys) (hn₀ : n₀ ≤ w.heap.size) :
    Calls Tryd.prog 11 #[.slice a zs.length ca, .slice b ys.length cb] w fun e w' => e = .returned (.bool (sameB zs ys)) ∧ Below w.heap.size w w' := by
  by_cases hl : zs.length = ys.length
  · have d0 : ((zs.length : Int) != (ys.length : Int)) = false := by rw [bne_eq_false_iff_eq]; omega
    have HL := hide hl
    clear hl
    go_enter Tryd.func11, Tryd.ntmps11
    go_wp2_with fail
    go_loopw [5] (fun i wr => ∃ k : Nat, k ≤ zs.length ∧ i = .int .i64 k ∧ Below w.heap.size w wr ∧ ∀ j, j < k → zd zs j = zd ys j) (fun i _ => zs.length - (intOf i).toNat)
    case atStart => exact ⟨0, Nat.zero_le _, rfl, Below.refl _ _, fun j hj => by omega⟩
    case round =>
      obtain ⟨k, hk, rfl, hbr, hsofar⟩ := hrel
      have HS := hide hsofar
      clear hsofar
      by_cases hlt : k < zs.length
      · have hlt2 : k < ys.length := by have := HL.out; omega
        obtain ⟨bz, oz, rfl, hbz, hcz⟩ := (hz.below (hbr.mono hn₀)).at hlt
        obtain ⟨bb, oy, rfl, hby, hcy⟩ := (hy.below (hbr.mono hn₀)).at hlt2
        have ck := cell_regrown (hcz k hlt)
        have dk := cell_regrown (hcy k hlt2)
        have hsr := hbr.size
        clear hcz hcy
        by_cases hu : zd zs k = zd ys k
        · have HU := hide hu
          have e1 : (zd zs k != zd ys k) = false := by rw [bne_eq_false_iff_eq]; exact hu
          clear hu
          go_wp2
          refine wp_region_quiet_below (by kernel_rfl) (by kernel_rfl) ?_
          repeat (go_big_quiet_step (fail))
          refine wpQuiet_nil ?_
          intro _ hw'
          obtain ⟨⟨dq, osq⟩, hw''⟩ := hw'
          subst hw''
          go_wp2
          go_roundw
          case rel => exact ⟨k + 1, by omega, by go_num, hbr.trans ((below_regrown _ dq osq).mono hsr), fun j hj => by
            by_cases e : j = k
            · rw [e]; exact HU.out
            · exact HS.out j (by omega)⟩
          case measure => simp [intOf]; omega
        · have HF := hide (sameB_false.2 (show zs ≠ ys from fun e => hu (by rw [e])))
          have e1 : (zd zs k != zd ys k) = true := by rw [bne_iff_ne]; exact hu
          clear hu
          go_wp2
          refine wp_region_quiet_below (by kernel_rfl) (by kernel_rfl) ?_
          repeat (go_big_quiet_step (fail))
          refine wpQuiet_nil ?_
          intro _ hw'
          obtain ⟨⟨dq, osq⟩, hw''⟩ := hw'
          subst hw''
          go_wp2
          go_ret
          exact ⟨ret_bool HF.out.symm, hbr.trans ((below_regrown _ dq osq).mono hsr)⟩
      · have HF := hide (sameB_true.2 (zd_ext HL.out fun i hi => HS.out i (by omega)))
        go_wp2
        go_ret
        exact ⟨ret_bool HF.out.symm, hbr⟩
  · have HF := hide (sameB_false.2 (show zs ≠ ys from fun e => hl (by rw [e])))
    have d0 : ((zs.length : Int) != (ys.length : Int)) = true := by rw [bne_iff_ne]; omega
    clear hl
    go_enter Tryd.func11, Tryd.ntmps11
    go_wp2_with fail
    go_ret
    exact ⟨ret_bool HF.out.symm, Below.refl _ _⟩
end Go.Proofs.YtdeglbmoiofpoaaDoor

namespace Go.Proofs.YtdeglbmoiofpoaaDoor
open Go.RowKit Go.Shelf

theorem no_wordsC (n : Nat) (w : World) : IsWords n w none [] := .inl rfl
theorem no_zC (n : Nat) (w : World) : ZInts n w none [] := .inl rfl
theorem sameO_self (l : List Nat) : sameO l l = true := sameO_true rfl fun _ _ => rfl

set_option maxRecDepth 100000 in
set_option maxHeartbeats 1000000 in
theorem lpcom_bad (n : Int) (a : Option Addr) (cap : Nat) (us : List Nat) (n₀ : Nat) (hf : Fit us) (w : World) (hT : TabAt w) (hw : IsWords n₀ w a us) (hg : 0 < n₀) (hn₀ : n₀ ≤ w.heap.size) (hc : codeOf n us ≠ 0) :
    Calls Tryd.prog 3 #[.agg #[.int .i64 n, .slice a us.length cap]] w fun e w' => e = .returned (.bool true) ∧ Below w.heap.size w w' := by
  obtain ⟨r0, hb0, hs0⟩ := one_row w 24 (.int .i64 n) (.slice a us.length cap) rfl
  have hw0 := hw.below (hb0.mono hn₀)
  have d1 := Com_bad n a cap us n₀ hf _ (hT.below hb0 (by omega)) hw0 hg (by omega) hc
  have d3 := fun W (hW : IsWords n₀ W a us) (hle : n₀ ≤ W.heap.size) => OrderCheck_any n a cap us n₀ hf W hW hle
  have d4 := fun W : World => Orders_any 0 0 none none 0 0 [] [] W.heap.size (by simp) W (no_wordsC _ _) (no_wordsC _ _) (Nat.le_refl _)
  rw [show (((0 : Int) == 0) && sameO [] []) = true from by rw [sameO_self]; rfl] at d4
  generalize codeOf n us = c at *
  have hne : (c != 0) = true := by rw [bne_iff_ne]; exact hc
  have Hb := hide hb0
  clear hb0 hc
  go_enter Tryd.func3, Tryd.ntmps3
  go_wp2_with fail
  refine d1.mono ?_
  rintro e w1 ⟨rfl, hb1⟩
  have hs1 := hb1.size
  have hw1 := hw0.below (hb1.mono (by omega))
  have q0 := row_below r0 hb1 r0.lt
  obtain ⟨rp, hb2, hs2⟩ := one_row w1 24 (.int .i64 0) (.slice none 0 0) rfl
  have hw2 := hw1.below (hb2.mono (by omega))
  have q1 := row_below q0 hb2 q0.lt
  have j0 := q1.cell (i := 0) rfl
  have j1 := q1.cell (i := 1) rfl
  go_wp2_with fail
  refine (d3 _ hw2 (by omega)).mono ?_
  rintro e w3 ⟨rfl, hb3⟩
  have hs3 := hb3.size
  have p0 := row_below rp hb3 rp.lt
  have k0 := p0.cell (i := 0) rfl
  have k1 := p0.cell (i := 1) rfl
  have x4 := d4 w3
  clear j0 j1 d1 d3 d4
  go_wp2_with (go_at_call 9; refine x4.mono ?_; rintro e w4 ⟨rfl, hb4⟩)
  go_ret
  exact ⟨ret_bool (by simp), (((Hb.out.trans (hb1.mono (by omega))).trans (hb2.mono (by omega))).trans (hb3.mono (by omega))).trans (hb4.mono (by omega))⟩

set_option maxRecDepth 100000 in
set_option maxHeartbeats 2000000 in
theorem lpcom_ok (a : Option Addr) (cap : Nat) (us : List Nat) (n₀ : Nat) (hf : Fit us) (w : World) (hT : TabAt w) (hw : IsWords n₀ w a us) (hg : 0 < n₀) (hn₀ : n₀ ≤ w.heap.size) (hc : codeOf us.length us = 0) :
    Calls Tryd.prog 3 #[.agg #[.int .i64 us.length, .slice a us.length cap]] w fun e w' => e = .returned (.bool true) ∧ Below w.heap.size w w' := by
  obtain ⟨r0, hb0, hs0⟩ := one_row w 24 (.int .i64 us.length) (.slice a us.length cap) rfl
  have hl16 : us.length ≤ 16 := by have := code_zero hc; omega
  have hw0 := hw.below (hb0.mono hn₀)
  have d1 := Com_ok a cap us n₀ hf _ (hT.below hb0 (by omega)) hw0 hg (by omega) hc
  have d3 := fun W (hW : IsWords n₀ W a us) (hle : n₀ ≤ W.heap.size) => OrderCheck_any us.length a cap us n₀ hf W hW hle
  have d4 := fun W : World => Orders_any 0 0 none none 0 0 [] [] W.heap.size (by simp) W (no_wordsC _ _) (no_wordsC _ _) (Nat.le_refl _)
  rw [show (((0 : Int) == 0) && sameO [] []) = true from by rw [sameO_self]; rfl] at d4
  have d6 := fun W : World => rtsame_any none 0 [] none 0 [] W.heap.size (by simp) W (no_zC _ _) (no_zC _ _) (Nat.le_refl _)
  rw [show sameB [] [] = true from sameB_true.2 rfl] at d6
  rw [hc] at d3
  have Hb := hide hb0
  clear hb0 hc
  go_enter Tryd.func3, Tryd.ntmps3
  go_wp2_with fail
  refine d1.mono ?_
  rintro e w1 ⟨hb1, hAns⟩
  have hs1 := hb1.size
  have hw1 := hw0.below (hb1.mono (by omega))
  have q0 := row_below r0 hb1 r0.lt
  rcases hAns with ⟨hbig, rfl⟩ | ⟨hsm, g, h, f, rfl, hg1, hh1, rG, rH, hff⟩
  · obtain ⟨f, hff⟩ := col_places hl16
    have HG := hide hbig
    clear hbig
    obtain ⟨rp, hb2, hs2⟩ := one_row w1 24 (.int .i64 0) (.slice none 0 0) rfl
    have hw2 := hw1.below (hb2.mono (by omega))
    have q1 := row_below q0 hb2 q0.lt
    have j0 := q1.cell (i := 0) rfl
    have j1 := q1.cell (i := 1) rfl
    go_wp2_with fail
    refine (d3 _ hw2 (by omega)).mono ?_
    rintro e w3 ⟨rfl, hb3⟩
    have hs3 := hb3.size
    have hw3 := hw2.below (hb3.mono (by omega))
    have q2 := row_below q1 hb3 q1.lt
    have p0 := row_below rp hb3 rp.lt
    have d5 := RefCom_any a cap us n₀ hf w3 hw3 (by omega) hl16 f hff
    clear j0 j1
    have j0 := q2.cell (i := 0) rfl
    have j1 := q2.cell (i := 1) rfl
    clear d1 d3
    go_wp2_with fail
    refine d5.mono ?_
    rintro e w4 ⟨hb4, hA⟩
    have hs4 := hb4.size
    rcases hA with ⟨_, rfl⟩ | ⟨hx, _⟩
    · obtain ⟨rq, hb5, hs5⟩ := one_row w4 24 (.int .i64 0) (.slice none 0 0) rfl
      have p1 := row_below (row_below p0 hb4 p0.lt) hb5 (by have := p0.lt; omega)
      have k0 := p1.cell (i := 0) rfl
      have k1 := p1.cell (i := 1) rfl
      have i0 := rq.cell (i := 0) rfl
      have i1 := rq.cell (i := 1) rfl
      clear j0 j1 d5
      go_wp2_with fail
      refine (d4 _).mono ?_
      rintro e w6 ⟨rfl, hb6⟩
      have hs6 := hb6.size
      go_wp2_with fail
      refine (d6 _).mono ?_
      rintro e w7 ⟨rfl, hb7⟩
      go_wp2_with fail
      go_ret
      exact ⟨rfl, ((((((Hb.out.trans (hb1.mono (by omega))).trans (hb2.mono (by omega))).trans (hb3.mono (by omega))).trans (hb4.mono (by omega))).trans (hb5.mono (by omega))).trans (hb6.mono (by omega))).trans (hb7.mono (by omega))⟩
    · have := HG.out; omega
  · have HS := hide hsm
    clear hsm
    have lG := rG.lt
    have lH := rH.lt
    obtain ⟨L, hL⟩ : ∃ L, L = conL us.length us := ⟨_, rfl⟩
    have d5 := fun W hW hle => RefCom_any a cap us n₀ hf W hW hle hl16 f hff
    have HS' := hide (show (conL us.length us).length ≤ 16 from HS.out)
    unfold RefComAns at d5
    rw [← hL] at rG d5 HS' ⊢
    clear hff hL HS
    obtain ⟨N, hN⟩ : ∃ N, N = L.length := ⟨_, rfl⟩
    rw [← hN] at d5 HS' ⊢
    have HN := hide hN
    have hil : (inclL L).length = N := by rw [inclL_len, hN]
    have HIL := hide hil
    clear hN hil
    obtain ⟨rp, hb2, hs2⟩ := one_row w1 24 (.int .i64 N) (.slice (some ⟨g, 0, none⟩) N N) rfl
    have hw2 := hw1.below (hb2.mono (by omega))
    have q1 := row_below q0 hb2 q0.lt
    have j0 := q1.cell (i := 0) rfl
    have j1 := q1.cell (i := 1) rfl
    go_wp2_with fail
    refine (d3 _ hw2 (by omega)).mono ?_
    rintro e w3 ⟨rfl, hb3⟩
    have hs3 := hb3.size
    have hw3 := hw2.below (hb3.mono (by omega))
    have q2 := row_below q1 hb3 q1.lt
    have p0 := row_below rp hb3 rp.lt
    have x5 := d5 w3 hw3 (by omega)
    have hb13 := hb2.trans (hb3.mono (by omega))
    have rG3 := row_below rG hb13 lG
    have rH3 := row_below rH hb13 lH
    clear j0 j1
    have j0 := q2.cell (i := 0) rfl
    have j1 := q2.cell (i := 1) rfl
    clear d1 d3 d5 d4 d6 hb13
    go_wp2_with fail
    refine x5.mono ?_
    rintro e w4 ⟨hb4, hA⟩
    have hs4 := hb4.size
    rcases hA with ⟨hx, _⟩ | ⟨_, v, av, cv, rfl, hoI, hoZ⟩
    · have := HS'.out; omega
    · obtain ⟨aI, cI, rfl, hwI⟩ := ownsRow_words hoI
      have hzZ := ownsRow_z hoZ
      obtain ⟨rq, hb5, hs5⟩ := one_row w4 24 (.int .i64 N) (.slice aI N cI) rfl
      have hb45 := hb4.trans (hb5.mono hs4)
      have p1 := row_below p0 hb45 p0.lt
      have k0 := p1.cell (i := 0) rfl
      have k1 := p1.cell (i := 1) rfl
      have i0 := rq.cell (i := 0) rfl
      have i1 := rq.cell (i := 1) rfl
      have rG5 := row_below rG3 hb45 rG3.lt
      have rH5 := row_below rH3 hb45 rH3.lt
      have lG5 := rG5.lt
      have lH5 := rH5.lt
      have x6 := Orders_any N N (some ⟨g, 0, none⟩) aI N cI (inclL L) (inclL L) _ (by rw [HIL.out]; have := HS'.out; omega) _ (rG5.words lG5) ((hwI.below hb5).mono (by omega)) (Nat.le_refl _)
      rw [show (((N : Int) == (N : Int)) && sameO (inclL L) (inclL L)) = true from by rw [sameO_self]; simp] at x6
      have x7 := fun W (hW : Below w4.heap.size w4 W) => rtsame_any (some ⟨h, 0, none⟩) us.length (atL f us.length) av cv (atL f us.length) w4.heap.size (by rw [atL_len]; omega) W (Row.z (row_below (row_below rH3 hb4 rH3.lt) hW (by have := rH3.lt; omega)) (by have := rH3.lt; omega)) (hzZ.below hW) hW.size
      rw [show sameB (atL f us.length) (atL f us.length) = true from sameB_true.2 rfl] at x7
      rw [atL_len] at x7
      rw [HIL.out] at x6 ⊢
      clear j0 j1 x5 rG rH rG3 rH3 rG5 rH5 hoI hoZ hwI hzZ rq p0 p1
      go_wp2_with fail
      refine x6.mono ?_
      rintro e w6 ⟨rfl, hb6⟩
      have hs6 := hb6.size
      have y7 := x7 w6 (hb5.trans (hb6.mono (by omega)))
      go_wp2_with fail
      refine y7.mono ?_
      rintro e w7 ⟨rfl, hb7⟩
      go_wp2_with fail
      go_ret
      exact ⟨rfl, ((((((Hb.out.trans (hb1.mono (by omega))).trans (hb2.mono (by omega))).trans (hb3.mono (by omega))).trans (hb4.mono (by omega))).trans (hb5.mono (by omega))).trans (hb6.mono (by omega))).trans (hb7.mono (by omega))⟩

theorem lpcom_any (n : Int) (a : Option Addr) (cap : Nat) (us : List Nat) (n₀ : Nat) (hf : Fit us) (w : World) (hT : TabAt w) (hw : IsWords n₀ w a us) (hg : 0 < n₀) (hn₀ : n₀ ≤ w.heap.size) :
    Calls Tryd.prog 3 #[.agg #[.int .i64 n, .slice a us.length cap]] w fun e w' => e = .returned (.bool true) ∧ Below w.heap.size w w' := by
  by_cases hc : codeOf n us = 0
  · obtain ⟨_, _, hlen, _, _⟩ := code_zero hc
    subst hlen
    exact lpcom_ok a cap us n₀ hf w hT hw hg hn₀ hc
  · exact lpcom_bad n a cap us n₀ hf w hT hw hg hn₀ hc
end Go.Proofs.YtdeglbmoiofpoaaDoor
