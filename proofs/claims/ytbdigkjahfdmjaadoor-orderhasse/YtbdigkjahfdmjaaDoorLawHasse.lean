/- The walk of the law OrderHasse: it answers true, and writes nothing that was there. -/
import Derived.Test.YtbdigkjahfdmjaaDoorHassePlain
import Derived.Test.YtbdigkjahfdmjaaDoorCovers
import Derived.Test.YtbdigkjahfdmjaaDoorRefused
import Derived.Test.YtbdigkjahfdmjaaDoorSame
namespace Go.Proofs.YtbdigkjahfdmjaaDoor
open Go.RowKit Go.Shelf

/-- Of at pairs within an order: an order comes -/
theorem Of_in (us : List Nat) (a : Option Addr) (cap : Nat) (l : List (Nat × Nat)) (nx up : List Nat) (n₀ : Nat) (hl : us.length ≤ 16) (ho : IsOrd us) (hcv : AllCov us l) (h256 : l.length ≤ 256) (hN : NxTo (toP l) us.length (toP l).length nx) (hul : up.length = us.length) (hup : ∀ i, i < us.length → ∀ z, hasB (wd up i) z = true ↔ Reach nx i z) (w : World) (hT : TabAt w) (hw : IsPairs n₀ w a l) (hg : 0 < n₀) (hn₀ : n₀ ≤ w.heap.size) :
    Calls Tryd.prog 9 #[.int .i64 us.length, .slice a l.length cap] w fun e w' => ∃ B, w.heap.size ≤ B ∧ e = .returned (.tuple #[.agg #[.int .i64 us.length, .slice (some ⟨B, 0, none⟩) us.length us.length], .int .i64 0]) ∧ Row w' B 36 (wvals up) ∧ Below w.heap.size w w' := by
  have hof := Of_any us.length a cap (toP l) n₀ w hT hw.z hg hn₀
  rw [toP_len] at hof
  refine hof.mono ?_
  have hpi := hcv.pairs
  have hle := toP_len l
  rintro e w' ⟨⟨h, _⟩ | ⟨_, ⟨k, hk, hnk⟩, _⟩ | ⟨_, _, nx', up', hN', hul', _, hup', hcase⟩, hb⟩
  · exfalso; unfold OfLarge at h; omega
  · exact absurd (hpi k hk).1 (by simpa using hnk)
  · have hN'' : NxTo (toP l) us.length (toP l).length nx' := by simpa using hN'
    have e1 := NxTo.unique hN'' hN
    subst e1
    have e2 := up_unique (by simpa using hul') hul (by simpa using hup') hup
    subst e2
    rcases hcase with ⟨h, _⟩ | ⟨_, B, hB, rfl, rU⟩
    · exact absurd (up_ord ho hN hpi hul hup) (isOrdB_false.1 h)
    · exact ⟨B, hB, by simp, rU, hb⟩

set_option maxRecDepth 100000 in
set_option maxHeartbeats 1000000 in
theorem hasse_bad (n : Int) (a : Option Addr) (cap : Nat) (us : List Nat) (n₀ : Nat) (hf : Fit us) (w : World) (hT : TabAt w) (hw : IsWords n₀ w a us) (hg : 0 < n₀) (hn₀ : n₀ ≤ w.heap.size) (hc : codeOf n us ≠ 0) :
    Calls Tryd.prog 5 #[.agg #[.int .i64 n, .slice a us.length cap]] w fun e w' => e = .returned (.bool true) ∧ Below w.heap.size w w' := by
  obtain ⟨r0, hb0, hs0⟩ := one_row w 25 (.int .i64 n) (.slice a us.length cap) rfl
  have hso := sound_any n a cap us n₀ hf _ (hw.below (hb0.mono hn₀)) (by omega)
  have hre : ∀ W, Below w.heap.size w W → Calls Tryd.prog 13 #[.agg #[.int .i64 n, .slice a us.length cap]] W fun e w' => e = .returned (.bool (codeOf n us != 0)) ∧ Below W.heap.size W w' := fun W hW => refused_any n a cap us n₀ hf W (hT.below hW (by omega)) (hw.below (hW.mono hn₀)) hg (by have := hW.size; omega)
  generalize codeOf n us = c at *
  rw [show (c == 0) = false by rw [beq_eq_false_iff_ne]; exact hc] at hso
  rw [show (c != 0) = true by rw [bne_iff_ne]; exact hc] at hre
  have lt0 := r0.lt
  go_enter Tryd.func5, Tryd.ntmps5
  go_wp2_with (first
    | (go_at_call 12; refine hso.mono ?_; rintro e w1 ⟨rfl, hb1⟩; have q0 := row_below r0 hb1 lt0; have j0 := q0.cell (i := 0) rfl; have j1 := q0.cell (i := 1) rfl; have hB1 : Below w.heap.size w w1 := hb0.trans (hb1.mono (by omega)); have s1 := hre w1 hB1)
    | (go_at_call 13; refine s1.mono ?_; rintro e w2 ⟨rfl, hb2⟩))
  go_ret
  exact ⟨rfl, hB1.trans (hb2.mono hB1.size)⟩

set_option maxRecDepth 100000 in
set_option maxHeartbeats 2000000 in
theorem hasse_ok (a : Option Addr) (cap : Nat) (us : List Nat) (n₀ : Nat) (hf : Fit us) (w : World) (hT : TabAt w) (hw : IsWords n₀ w a us) (hg : 0 < n₀) (hn₀ : n₀ ≤ w.heap.size) (hc : codeOf us.length us = 0) :
    Calls Tryd.prog 5 #[.agg #[.int .i64 us.length, .slice a us.length cap]] w fun e w' => e = .returned (.bool true) ∧ Below w.heap.size w w' := by
  obtain ⟨_, h16, _, hin, hord⟩ := code_zero hc
  have hl16 : us.length ≤ 16 := by omega
  obtain ⟨i0, hi, hz0, hz1, hz2⟩ := info_parts info_pair
  obtain ⟨r0, hb0, hs0⟩ := one_row w 25 (.int .i64 us.length) (.slice a us.length cap) rfl
  have hso := sound_any us.length a cap us n₀ hf _ (hw.below (hb0.mono hn₀)) (by omega)
  rw [hc, show ((0 : Int) == 0) = true by decide] at hso
  have hcv : ∀ W, Below w.heap.size w W → Calls Tryd.prog 16 #[.agg #[.int .i64 us.length, .slice a us.length cap]] W fun e w' => ∃ av cv, e = .returned (.tuple #[.slice av (coverL us us.length).length cv, .int .i64 0]) ∧ Below W.heap.size W w' ∧ IsPairs w'.heap.size w' av (coverL us us.length) := fun W hW =>
    (Covers_ok us.length a cap us n₀ hf W (hT.below hW (by omega)) (hw.below (hW.mono hn₀)) hg (by have := hW.size; omega) hc).mono (by
      rintro e w' ⟨av, cv, rfl, hb, hown⟩
      exact ⟨av, cv, rfl, hb, ownsRow_pairs hown⟩)
  have hAC := allCov_coverL us
  have hL256 := coverL_256 hl16
  have hpi : ∀ l, AllCov us l → ∀ k, k < (toP l).length → PairIn us.length (zp (toP l) k) := fun l hl k hk => (hl.pairs k hk).1
  have hex : ∀ l, AllCov us l → ∃ nx up, NxTo (toP l) us.length (toP l).length nx ∧ up.length = us.length ∧ Fit up ∧ ∀ i, i < us.length → ∀ z, hasB (wd up i) z = true ↔ Reach nx i z := fun l hl => by
    obtain ⟨nx, hN⟩ := nxTo_ex (ps := toP l) (n := us.length) hl16 (hpi l hl)
    obtain ⟨up, h1, h2, h3⟩ := reach_ex (nx := nx) (n := us.length) hl16 (fun i z h hr => reach_in hN (hpi l hl) h hr)
    exact ⟨nx, up, hN, h1, h2, h3⟩
  have hofL : ∀ (W : World) (av : Option Addr) (cv : Nat) (m₀ : Nat), Below w.heap.size w W → IsPairs m₀ W av (coverL us us.length) → n₀ ≤ m₀ → m₀ ≤ W.heap.size → Calls Tryd.prog 9 #[.int .i64 us.length, .slice av (coverL us us.length).length cv] W fun e w' => ∃ B, W.heap.size ≤ B ∧ e = .returned (.tuple #[.agg #[.int .i64 us.length, .slice (some ⟨B, 0, none⟩) us.length us.length], .int .i64 0]) ∧ Row w' B 36 (wvals us) ∧ Below W.heap.size W w' := fun W av cv m₀ hW hP hm hm' => by
    obtain ⟨nx, up, hN, h1, h2, h3⟩ := hex _ hAC
    have e := hasse_up hf hin hord hN h1 h3
    rw [e] at h1 h3
    exact Of_in us av cv _ nx us m₀ hl16 hord hAC hL256 hN h1 h3 W (hT.below hW (by omega)) hP (by omega) hm'
  have hofS : ∀ (i : Nat) (W : World) (av : Option Addr) (cv : Nat) (m₀ : Nat), i < (coverL us us.length).length → Below w.heap.size w W → IsPairs m₀ W av (lessTo (coverL us us.length) i (coverL us us.length).length) → n₀ ≤ m₀ → m₀ ≤ W.heap.size → Calls Tryd.prog 9 #[.int .i64 us.length, .slice av (lessTo (coverL us us.length) i (coverL us us.length).length).length cv] W fun e w' => ∃ up B, up.length = us.length ∧ sameB up us = false ∧ W.heap.size ≤ B ∧ e = .returned (.tuple #[.agg #[.int .i64 us.length, .slice (some ⟨B, 0, none⟩) us.length us.length], .int .i64 0]) ∧ Row w' B 36 (wvals up) ∧ Below W.heap.size W w' := fun i W av cv m₀ hiL hW hP hm hm' => by
    have hAL := allCov_less hAC i (Nat.le_refl (coverL us us.length).length)
    obtain ⟨nx, up, hN, h1, h2, h3⟩ := hex _ hAL
    refine (Of_in us av cv _ nx up m₀ hl16 hord hAL (Nat.le_trans (lessTo_len _ _ _) hL256) hN h1 h3 W (hT.below hW (by omega)) hP (by omega) hm').mono ?_
    rintro e w' ⟨B, hB, he, hr, hb⟩
    exact ⟨up, B, h1, by unfold sameB; rw [decide_eq_false_iff_not]; exact hasse_less hord hiL hN h3, hB, he, hr, hb⟩
  generalize hLe : coverL us us.length = L at *
  have lt0 := r0.lt
  have hnn : ((us.length : Int) == (us.length : Int)) = true := by simp
  clear hc hex hpi
  go_enter Tryd.func5, Tryd.ntmps5
  go_wp2_with (first
    | (go_at_call 12; refine hso.mono ?_; rintro e w1 ⟨rfl, hb1⟩; have q0 := row_below r0 hb1 lt0; have j0 := q0.cell (i := 0) rfl; have j1 := q0.cell (i := 1) rfl; have hB1 : Below w.heap.size w w1 := hb0.trans (hb1.mono (by omega)); have s1 := hcv w1 hB1; clear hso hcv)
    | (go_at_call 16; refine s1.mono ?_; rintro e w2 ⟨av, cv, rfl, hb2, hP2⟩; clear s1; have lq0 := q0.lt; have p0 := row_below q0 hb2 lq0; have lp0 := p0.lt; have j0 := p0.cell (i := 0) rfl; have j1 := p0.cell (i := 1) rfl; have hB2 : Below w.heap.size w w2 := hB1.trans (hb2.mono hB1.size); have hs2 := hB2.size; have s2 := hofL w2 av cv w2.heap.size hB2 hP2 (by omega) (Nat.le_refl _); clear hofL)
    | (go_at_call 9; refine s2.mono ?_; rintro e w3 ⟨B, hBge, rfl, rU, hb3⟩; clear s2; have hs3 := hb3.size; have x0 := row_below p0 hb3 lp0; have lx0 := x0.lt; have j0 := x0.cell (i := 0) rfl; have j1 := x0.cell (i := 1) rfl; have hB3 : Below w.heap.size w w3 := hB2.trans (hb3.mono hB2.size); have hA3 : Below w3.heap.size w3 (w3.alloc (.cells #[.int .i64 us.length, .slice (some ⟨B, 0, none⟩) us.length us.length] 25)) := (Below.refl _ _).alloc (Nat.le_refl _) _; have hwA := (hw.below (hB3.mono hn₀)).below (hA3.mono (by omega)); have s3 := Orders_any us.length us.length (some ⟨B, 0, none⟩) a us.length cap us us w3.heap.size (by omega) (w3.alloc (.cells #[.int .i64 us.length, .slice (some ⟨B, 0, none⟩) us.length us.length] 25)) ((rU.words rU.lt).below hA3) (IsWords.mono (show n₀ ≤ w3.heap.size by omega) hwA) (by simp); rw [show (((us.length : Int) == (us.length : Int)) && sameB us us) = true by simp [sameB]] at s3)
    | (go_at_call 11; refine s3.mono ?_; rintro e w4 ⟨rfl, hb4⟩; clear s3))
  have hs4 := hb4.size
  have hB4 : Below w.heap.size w w4 := (hB3.trans (hA3.mono hB3.size)).trans (hb4.mono (by simp; omega))
  have z0 := row_below (row_below x0 hA3 lx0) hb4 (by simp; omega)
  have zP := row_below (Row.new w3 25 [.int .i64 us.length, .slice (some ⟨B, 0, none⟩) us.length us.length]) hb4 (by simp)
  have lzP := zP.lt
  have hP4 : IsPairs w2.heap.size w4 av L := ((hP2.below hb3).below (hA3.mono hs3)).below (hb4.mono (by simp; omega))
  have hw4 : IsWords n₀ w4 a us := hw.below (hB4.mono hn₀)
  have lz0 : w.heap.size < w3.heap.size := lx0
  have h23 : w2.heap.size ≤ w3.heap.size := hs3
  have hn2 : n₀ ≤ w2.heap.size := by omega
  clear hb4 hA3 x0 lx0 p0 lp0 q0 lq0 j0 j1 r0 hb0 hs0 lt0 hb1 hb2 hb3 hB1 hP2 rU hs3 hwA hB3
  go_loopw [6] (fun i wr => ∃ (t B' : Nat), t ≤ L.length ∧ i = .int .i64 t ∧ Below w3.heap.size w4 wr ∧ Row wr w3.heap.size 25 [.int .i64 us.length, .slice (some ⟨B', 0, none⟩) us.length us.length]) (fun i _ => L.length - (intOf i).toNat)
  case atStart => exact ⟨0, B, Nat.zero_le _, rfl, Below.refl _ _, zP⟩
  case round =>
    obtain ⟨t, B', ht, rfl, hbr, rP⟩ := hrel
    by_cases hlt : t < L.length
    · go_wp2
      go_loopw [7, 8] (fun ls j wr => ∃ (q : Nat) (av2 : Option Addr) (cv2 : Nat), q ≤ L.length ∧ j = .int .i64 q ∧ ls = .slice av2 (lessTo L t q).length cv2 ∧ Below w3.heap.size w4 wr ∧ Row wr w3.heap.size 25 [.int .i64 us.length, .slice (some ⟨B', 0, none⟩) us.length us.length] ∧ wr.ownsRow (w3.heap.size + 1) 33 2 (.slice av2 (lessTo L t q).length cv2) (lessTo L t q).length (pvals (lessTo L t q))) (fun _ j _ => L.length - (intOf j).toNat)
      case atStart => exact ⟨0, none, 0, Nat.zero_le _, rfl, rfl, hbr, rP, World.ownsRow_nil ..⟩
      case round =>
        clear hbr rP
        obtain ⟨q, av2, cv2, hq, rfl, rfl, hbr, rP, hown⟩ := hrel
        have lP := rP.lt
        by_cases hlq : q < L.length
        · by_cases e : q = t
          · have hne : ((q : Int) != (t : Int)) = false := by rw [bne_eq_false_iff_eq]; omega
            have hstep : lessTo L t (q + 1) = lessTo L t q := by show lessTo L t q ++ (if q = t then [] else [L.getD q (0, 0)]) = _; rw [if_pos e]; simp
            have HS := hide hstep
            clear e hstep
            go_wp2
            exact ⟨⟨q + 1, av2, cv2, by omega, by go_num, by rw [HS.out], hbr, rP, by rw [HS.out]; exact hown⟩, by simp [intOf]; omega⟩
          · have hne : ((q : Int) != (t : Int)) = true := by rw [bne_iff_ne]; omega
            obtain ⟨b, rfl, hbb, hca, hcb⟩ := (hP4.below (hbr.mono h23)).at hlq
            obtain ⟨x, y, exy⟩ : ∃ x y, L[q] = (x, y) := ⟨L[q].1, L[q].2, rfl⟩
            rw [exy] at hca hcb
            have hbw : b < wr.heap.size := by have := hbr.size; omega
            have hstep : lessTo L t (q + 1) = lessTo L t q ++ [(x, y)] := by
              show lessTo L t q ++ (if q = t then [] else [L.getD q (0, 0)]) = _
              rw [if_neg e, List.getD_eq_getElem?_getD, List.getElem?_eq_getElem hlq, exy]
              rfl
            have hlen := lessTo_len L t q
            have HS := hide hstep
            clear e hstep exy
            generalize lessTo L t q = S at *
            go_wp2_with (at_builtin; refine wpList_append_own _ rfl _ _ 22 rfl (w3.heap.size + 1) 33 i0 (.agg #[.int .i64 0, .int .i64 0]) 2 16 Tryd.underlying22 hi hz0 hz1 hz2 rfl (by decide) _ _ _ rfl (hown.alloc _) ⟨wr.heap.size, 0, none⟩ 1 1 [.int .i64 (x : Nat), .int .i64 (y : Nat)] rfl rfl (cell_two_new _ _ _ _) (fun x hx => by simp at hx; rcases hx with rfl | rfl <;> rfl) (by unfold maxLen; omega) (by omega) (by simp; omega) ?_; intro v' w5 hown' hgrow3 _; obtain ⟨g', cap', rfl⟩ := ownsRow_succ hown')
            have hne5 := ownBlock_ge hown (b := w3.heap.size) (by omega)
            have rP5 := (rP.alloc (.cells #[.int .i64 (x : Nat), .int .i64 (y : Nat)] 33)).kept hgrow3 hne5
            have hB5 : Below w3.heap.size w4 w5 := (hbr.alloc (by omega) (.cells #[.int .i64 (x : Nat), .int .i64 (y : Nat)] 33)).grown hgrow3 (by simp; omega) fun j ej => by
              apply Nat.le_of_not_lt; intro hjl
              exact ownBlock_ge hown (b := j) (by omega) ej.symm
            refine ⟨⟨q + 1, some ⟨g', 0, none⟩, cap', by omega, by go_num, by rw [HS.out]; simp, hB5, rP5, ?_⟩, by simp [intOf]; omega⟩
            rw [HS.out, pvals_snoc, List.length_append]
            exact hown'
        · obtain rfl : q = L.length := by omega
          have y0 := row_below z0 hbr lz0
          have c00 := y0.cell (i := 0) rfl
          have hsr := hbr.size
          have hBr : Below w.heap.size w wr := hB4.trans (hbr.mono (by omega))
          have hPr := ownsRow_pairs hown
          have s5 := hofS t wr av2 cv2 wr.heap.size hlt hBr hPr (by omega) (Nat.le_refl _)
          generalize lessTo L t L.length = S at *
          go_wp2_with (first
            | (go_at_call 9; refine s5.mono ?_; rintro e w5 ⟨up, B2, hul2, hsame, hBge2, rfl, rU5, hb5⟩; clear s5; have hs5 := hb5.size; have rP5 := row_below rP hb5 lP; have lP5 := rP5.lt; have m0 := rP5.cell (i := 0) rfl; have m1 := rP5.cell (i := 1) rfl; have fm0 := rP5.frozen 0; have fm1 := rP5.frozen 1; have y5 := row_below y0 hb5 (by omega); have c00 := y5.cell (i := 0) rfl; have c01 := y5.cell (i := 1) rfl; have hB6 : Below w3.heap.size w4 ((w5.setCell ⟨w3.heap.size, 0, none⟩ (.int .i64 us.length)).setCell ⟨w3.heap.size, 1, none⟩ (.slice (some ⟨B2, 0, none⟩) us.length us.length)) := ((hbr.trans (hb5.mono (by omega))).setCell (p := ⟨w3.heap.size, 0, none⟩) (Nat.le_refl _) _).setCell (p := ⟨w3.heap.size, 1, none⟩) (Nat.le_refl _) _; have rU6 := (rU5.other (show B2 ≠ w3.heap.size by omega) 0 (.int .i64 us.length)).other (show B2 ≠ w3.heap.size by omega) 1 (.slice (some ⟨B2, 0, none⟩) us.length us.length); have s6 := Orders_any us.length us.length (some ⟨B2, 0, none⟩) a us.length cap up us w5.heap.size (by omega) ((w5.setCell ⟨w3.heap.size, 0, none⟩ (.int .i64 us.length)).setCell ⟨w3.heap.size, 1, none⟩ (.slice (some ⟨B2, 0, none⟩) us.length us.length)) (rU6.words rU5.lt) (IsWords.mono (show n₀ ≤ w5.heap.size by omega) (hw4.below (hB6.mono (by omega)))) (by simp); rw [hsame, hul2, show (((us.length : Int) == (us.length : Int)) && false) = false by simp] at s6)
            | (go_at_call 11; refine s6.mono ?_; rintro e w7 ⟨rfl, hb7⟩; clear s6))
          have rP6 := (rP5.set 0 (.int .i64 us.length)).set 1 (.slice (some ⟨B2, 0, none⟩) us.length us.length)
          exact ⟨⟨t + 1, B2, by omega, by go_num, hB6.trans (hb7.mono (by simp; omega)), row_below rP6 hb7 (by simp; omega)⟩, by simp [intOf]; omega⟩
    · go_wp2
      go_ret
      exact ⟨rfl, hB4.trans (hbr.mono (by omega))⟩

/-- **OrderHasse answers true, for every order, and writes nothing that was there** -/
theorem hasse_any (n : Int) (a : Option Addr) (cap : Nat) (us : List Nat) (n₀ : Nat) (hf : Fit us) (w : World) (hT : TabAt w) (hw : IsWords n₀ w a us) (hg : 0 < n₀) (hn₀ : n₀ ≤ w.heap.size) :
    Calls Tryd.prog 5 #[.agg #[.int .i64 n, .slice a us.length cap]] w fun e w' => e = .returned (.bool true) ∧ Below w.heap.size w w' := by
  by_cases hc : codeOf n us = 0
  · have en := (code_zero hc).2.2.1.symm
    subst en
    exact hasse_ok a cap us n₀ hf w hT hw hg hn₀ hc
  · exact hasse_bad n a cap us n₀ hf w hT hw hg hn₀ hc
end Go.Proofs.YtbdigkjahfdmjaaDoor
