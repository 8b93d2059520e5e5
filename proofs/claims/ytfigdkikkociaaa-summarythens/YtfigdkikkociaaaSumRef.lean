/- The contracts of the document's SummarySame and SummaryApply. -/
import Derived.Test.YtfigdkikkociaaaSumApply
namespace Go.Proofs.Ytfigdkikkociaaa
open Go.RowKit Go.Shelf

/-- are two summaries the same? -/
def sameM (s r : Sm) : Bool := (s.k == r.k && s.d == r.d) && sameB s.z r.z
theorem sameM_true {s r : Sm} : sameM s r = true ↔ s = r := by
  unfold sameM
  rw [Bool.and_eq_true, Bool.and_eq_true, beq_iff_eq, beq_iff_eq, sameB_true]
  constructor
  · rintro ⟨⟨h1, h2⟩, h3⟩; exact Sm.ext' h1 h2 h3
  · rintro rfl; exact ⟨⟨rfl, rfl⟩, rfl⟩
theorem sameM_false {s r : Sm} : sameM s r = false ↔ s ≠ r := by rw [Ne, ← sameM_true, Bool.not_eq_true]

set_option maxRecDepth 100000 in
set_option maxHeartbeats 1000000 in
theorem rssame_any (k1 d1 : Int) (a1 : Option Addr) (cap1 : Nat) (z1 : List Int) (k2 d2 : Int) (a2 : Option Addr) (cap2 : Nat) (z2 : List Int) (n₀ : Nat) (h1 : z1.length ≤ 17592186044416) (w : World) (hz1 : ZInts n₀ w a1 z1) (hz2 : ZInts n₀ w a2 z2) (hn₀ : n₀ ≤ w.heap.size) :
    Calls Try.prog 16 #[.agg #[.int .i64 k1, .int .i64 d1, .slice a1 z1.length cap1], .agg #[.int .i64 k2, .int .i64 d2, .slice a2 z2.length cap2]] w fun e w' => e = .returned (.bool (sameM ⟨k1, d1, z1⟩ ⟨k2, d2, z2⟩)) ∧ Below w.heap.size w w' := by
  obtain ⟨r0, r1, hb0, hs0⟩ := sum_rows w (.int .i64 k1) (.int .i64 d1) (.slice a1 z1.length cap1) (.int .i64 k2) (.int .i64 d2) (.slice a2 z2.length cap2) rfl
  obtain ⟨W0, hW0⟩ : ∃ V, (w.alloc (.cells #[.int .i64 k1, .int .i64 d1, .slice a1 z1.length cap1] 24)).alloc (.cells #[.int .i64 k2, .int .i64 d2, .slice a2 z2.length cap2] 24) = V := ⟨_, rfl⟩
  rw [hW0] at r0 r1 hb0 hs0
  have hs := rtsame_any a1 cap1 z1 a2 cap2 z2 n₀ (by omega) W0 (hz1.below (hb0.mono hn₀)) (hz2.below (hb0.mono hn₀)) (by omega)
  have b0 := r0.cell (i := 0) rfl
  have b1 := r0.cell (i := 1) rfl
  have b2 := r0.cell (i := 2) rfl
  have c0 := r1.cell (i := 0) rfl
  have c1 := r1.cell (i := 1) rfl
  have c2 := r1.cell (i := 2) rfl
  have HB := hide hb0
  clear hb0 hs0
  have hd : sameM ⟨k1, d1, z1⟩ ⟨k2, d2, z2⟩ = ((k1 == k2 && d1 == d2) && sameB z1 z2) := rfl
  rw [hd]
  cases e1 : (k1 == k2) with
  | false =>
    go_enter Try.func16, Try.ntmps16
    go_wp2_with fail
    go_ret
    exact ⟨rfl, HB.out⟩
  | true =>
    cases e2 : (d1 == d2) with
    | false =>
      go_enter Try.func16, Try.ntmps16
      go_wp2_with fail
      go_ret
      exact ⟨rfl, HB.out⟩
    | true =>
      go_enter Try.func16, Try.ntmps16
      go_wp2_with fail
      refine hs.mono ?_
      rintro e w1 ⟨rfl, hb1⟩
      go_wp2_with fail
      go_ret
      exact ⟨rfl, HB.out.trans (hb1.mono HB.out.size)⟩

/-- what is too great is the last number that is kept -/
theorem over_of {s : Sm} {t : List Int} (ht : codeT t = 0) (g : Good s t.length) {j : Nat} (hj : j < s.out) (h : 1048576 < zd (makeS s t) j) : overS s t = true := by
  rw [zd_makeS hj] at h
  have ha := g.at0 hj
  have hk := g.kn
  rw [overS_true]
  by_cases c : (j : Int) < s.k
  · rw [if_pos c] at h
    have hz := zd_time ht (i := j) (by omega)
    by_cases c2 : (j : Int) + 1 = s.k
    · rw [Sm.at_add c2] at h
      rw [show s.k.toNat - 1 = j by omega]; omega
    · rw [Sm.at_keep (by omega)] at h; omega
  · rw [if_neg c] at h; omega
theorem over_no {s : Sm} {t : List Int} (g : Good s t.length) (h : ∀ j, j < s.out → zd (makeS s t) j ≤ 1048576) : overS s t = false := by
  have hk := g.k1
  have h1 := h (s.k.toNat - 1) (by unfold Sm.out; omega)
  rw [zd_makeS (by unfold Sm.out; omega), if_pos (by omega), Sm.at_add (by omega)] at h1
  rw [overS_false]; omega
theorem take_snoc_z {l : List Int} {j : Nat} (h : j < l.length) : l.take (j + 1) = l.take j ++ [zd l j] := by
  rw [List.take_succ_eq_append_getElem h]
  congr 2
  unfold zd
  rw [List.getD_eq_getElem?_getD, List.getElem?_eq_getElem h]; rfl

set_option maxRecDepth 100000 in
set_option maxHeartbeats 4000000 in
theorem rsapply_any (k d : Int) (a : Option Addr) (cap : Nat) (zs : List Int) (a1 : Option Addr) (cap1 : Nat) (z1 : List Int) (n₀ : Nat) (h47 : zs.length ≤ 17592186044416) (h63 : z1.length ≤ 9223372036854775807) (w : World) (hz : ZInts n₀ w a zs) (hz1 : ZInts n₀ w a1 z1) (hn₀ : n₀ ≤ w.heap.size) :
    Calls Try.prog 10 #[.agg #[.int .i64 k, .int .i64 d, .slice a zs.length cap], .slice a1 z1.length cap1] w fun e w' => ApplyPost ⟨k, d, zs⟩ z1 w.heap.size e w' ∧ Below w.heap.size w w' := by
  obtain ⟨i0, hi, hz0, hz1', hz2⟩ := int_info
  obtain ⟨r0, hb0, hs0⟩ := sum_row w (.int .i64 k) (.int .i64 d) (.slice a zs.length cap) rfl
  obtain ⟨W0, hW0⟩ : ∃ V, w.alloc (.cells #[.int .i64 k, .int .i64 d, .slice a zs.length cap] 24) = V := ⟨_, rfl⟩
  rw [hW0] at r0 hb0 hs0
  have hzB : ∀ {W}, Below w.heap.size w W → ZInts n₀ W a zs ∧ ZInts n₀ W a1 z1 ∧ n₀ ≤ W.heap.size := fun hW => ⟨hz.below (hW.mono hn₀), hz1.below (hW.mono hn₀), by have := hW.size; omega⟩
  have s1 := rtcheck_any a1 cap1 z1 n₀ h63 W0 (hzB hb0).2.1
  have s2 : ∀ W, Below w.heap.size w W → _ := fun W hW => rscheck_any k d a cap zs (z1.length : Int) n₀ h47 W (hzB hW).1 (hzB hW).2.2
  have c0 := r0.cell (i := 0) rfl
  have c1 := r0.cell (i := 1) rfl
  have c2 := r0.cell (i := 2) rfl
  have lt0 := r0.lt
  have HB := hide hb0
  have HS := hide hs0
  clear hb0 hs0
  unfold ApplyPost listErr
  by_cases ht : codeT z1 = 0
  · by_cases hc : codeS ⟨k, d, zs⟩ (z1.length : Int) = 0
    · have g := good_of hc
      have H1 := hide ht
      have H2 := hide hc
      rw [ht] at s1
      rw [hc] at s2
      have gk := g.k1
      have gn := g.kn
      have go := g.o4
      have gl := g.n4
      dsimp only at gk gn go
      have hk4 : 1 ≤ k ∧ k ≤ 4 := ⟨gk, by omega⟩
      have hmo := fun W => rsout_any k d a cap zs hk4 h47 W
      have hkl : k + (zs.length : Int) = ((Sm.mk k d zs).out : Int) := g.out4.2.2.1.symm
      rw [hkl] at hmo
      have ho4 := g.out4.1
      have s3 : ∀ W j, Below w.heap.size w W → j < (Sm.mk k d zs).out → _ := fun W j hW hj => rsplace_any k d a cap zs j n₀ hk4 (by omega) (by omega) W (hzB hW).1 (hzB hW).2.2
      have hat : ∀ j, j < (Sm.mk k d zs).out → 0 ≤ (Sm.mk k d zs).at j ∧ (Sm.mk k d zs).at j ≤ 1048576 := fun j hj => g.at0 hj
      have HG := hide g
      have s2' := s2 W0 HB.out
      clear ht hc g s2 hkl
      go_enter Try.func10, Try.ntmps10
      go_wp2_with (go_at_call 27; refine s1.mono ?_; rintro e w' ⟨rfl, rfl⟩)
      go_wp2_with fail
      refine s2'.mono ?_
      rintro e w1 ⟨rfl, hb1⟩
      have p0 := row_below r0 hb1 lt0
      have hB1 : Below w.heap.size w w1 := HB.out.trans (hb1.mono HB.out.size)
      have l0 := p0.lt
      have hs1 := hB1.size
      clear c0 c1 c2 s1 s2'
      go_wp2_with fail
      go_loopw [6, 7] (fun ls i wr => ∃ (j : Nat) (av : Option Addr) (cv : Nat), j ≤ (Sm.mk k d zs).out ∧ i = .int .i64 j ∧ ls = .slice av j cv ∧ Below w1.heap.size w1 wr ∧ wr.ownsRow w1.heap.size 3 1 (.slice av j cv) j (zvals ((makeS ⟨k, d, zs⟩ z1).take j)) ∧ Hid (∀ m, m < j → zd (makeS ⟨k, d, zs⟩ z1) m ≤ 1048576)) (fun _ i _ => (Sm.mk k d zs).out - (intOf i).toNat)
      case atStart => exact ⟨0, none, 0, Nat.zero_le _, rfl, rfl, Below.refl _ _, World.ownsRow_nil .., hide fun m hm => by omega⟩
      case round =>
        obtain ⟨j, av, cv, hj, rfl, rfl, hbr, hown, HSo⟩ := hrel
        have hBr : Below w.heap.size w wr := hB1.trans (hbr.mono hB1.size)
        have p1 := row_below p0 hbr l0
        have c0 := p1.cell (i := 0) rfl
        have c1 := p1.cell (i := 1) rfl
        have c2 := p1.cell (i := 2) rfl
        have l1 := p1.lt
        by_cases hlt : j < (Sm.mk k d zs).out
        · have hmk := zd_makeS (s := ⟨k, d, zs⟩) (t := z1) hlt
          have HSn := hide (take_snoc_z (l := makeS ⟨k, d, zs⟩ z1) (j := j) (by rw [makeS_len]; exact hlt))
          have HOv := hide (fun h => over_of H1.out HG.out hlt h)
          have hv := hat j hlt
          have s3' := fun W hW => s3 W j hW
          go_wp2_with fail
          refine (hmo _).mono ?_
          rintro e w2 ⟨rfl, hb2⟩
          have hB2 := hBr.trans (hb2.mono hBr.size)
          have p2 := row_below p1 hb2 l1
          have l2 := p2.lt
          have d0 := p2.cell (i := 0) rfl
          have d1' := p2.cell (i := 1) rfl
          have d2' := p2.cell (i := 2) rfl
          have hown := ownsRow_below hown hb2
          have s4 := s3' w2 hB2 hlt
          clear c0 c1 c2 s3'
          go_wp2_with fail
          refine s4.mono ?_
          rintro e w3 ⟨rfl, hb3⟩
          have hB3 := hB2.trans (hb3.mono hB2.size)
          have hbr3 := (hbr.trans (hb2.mono hbr.size)).trans (hb3.mono (hbr.trans (hb2.mono hbr.size)).size)
          have p3 := row_below p2 hb3 l2
          have d0 := p3.cell (i := 0) rfl
          have hown := ownsRow_below hown hb3
          have hbsz := hbr3.size
          clear s4 d1' d2'
          generalize (Sm.mk k d zs).at j = v at *
          generalize ho : (Sm.mk k d zs).out = O at *
          by_cases c : (j : Int) < k
          · have e1 : decide ((j : Int) < k) = true := decide_eq_true c
            rw [if_pos c] at hmk
            obtain ⟨b, off, rfl, hb, hcc⟩ := (hzB hB3).2.1.at (i := j) (by omega)
            have hck := hcc j (by omega)
            have hjl : j < z1.length := by omega
            have hu := zd_time H1.out hjl
            clear hcc c
            generalize zd z1 j = u at *
            have HM := hide (hmk.trans (show _ = v + u by rfl))
            clear hmk
            by_cases ov : 1048576 < v + u
            · have HC := hide (codeA_over H1.out H2.out (HOv.out (by rw [HM.out]; exact ov)))
              have e2 : decide (1048576 < v + u) = true := decide_eq_true ov
              clear ov
              go_wp2
              go_ret2
              exact ⟨.inl ⟨by rw [HC.out]; decide, by rw [HC.out]; rfl⟩, hB3⟩
            · have e2 : decide (1048576 < v + u) = false := decide_eq_false ov
              have hov : v + u ≤ 1048576 := by omega
              clear ov
              go_wp2_with (at_builtin; refine wpList_append_own _ rfl _ _ 22 rfl w1.heap.size 3 i0 (.int .i64 0) 1 8 Try.underlying22 hi hz0 hz1' hz2 rfl (by decide) _ _ _ rfl (hown.alloc _) ⟨w3.heap.size, 0, none⟩ 1 1 [.int .i64 (v + u)] rfl rfl (cell_one_new _ _ _) (fun u hu => by simp at hu; subst hu; rfl) (by unfold maxLen; omega) (by omega) (by simp; omega) ?_; intro v' w4 hown4 hgrow4 _; obtain ⟨g', cap', rfl⟩ := ownsRow_succ hown4)
              have hB4 : Below w1.heap.size w1 w4 := (hbr3.alloc hbsz (.cells #[.int .i64 (v + u)] 3)).grown hgrow4 (by simp; omega) fun q eq => by
                apply Nat.le_of_not_lt; intro hql
                exact ownBlock_ge hown (b := q) hql eq.symm
              refine ⟨⟨j + 1, some ⟨g', 0, none⟩, cap', by omega, by go_num, rfl, hB4, ?_, hide fun m hm => ?_⟩, by simp [intOf]; omega⟩
              · rw [HSn.out, HM.out, zvals_snoc]
                exact hown4
              · by_cases e : m = j
                · subst e; rw [HM.out]; omega
                · exact HSo.out m (by omega)
          · have e1 : decide ((j : Int) < k) = false := decide_eq_false c
            rw [if_neg c] at hmk
            clear c
            have HM := hide (hmk.trans (show _ = v by omega))
            clear hmk
            by_cases ov : 1048576 < v
            · have HC := hide (codeA_over H1.out H2.out (HOv.out (by rw [HM.out]; exact ov)))
              have e2 : decide (1048576 < v) = true := decide_eq_true ov
              clear ov
              go_wp2
              go_ret2
              exact ⟨.inl ⟨by rw [HC.out]; decide, by rw [HC.out]; rfl⟩, hB3⟩
            · have e2 : decide (1048576 < v) = false := decide_eq_false ov
              have hov : v ≤ 1048576 := by omega
              clear ov
              go_wp2_with (at_builtin; refine wpList_append_own _ rfl _ _ 22 rfl w1.heap.size 3 i0 (.int .i64 0) 1 8 Try.underlying22 hi hz0 hz1' hz2 rfl (by decide) _ _ _ rfl (hown.alloc _) ⟨w3.heap.size, 0, none⟩ 1 1 [.int .i64 (v)] rfl rfl (cell_one_new _ _ _) (fun u hu => by simp at hu; subst hu; rfl) (by unfold maxLen; omega) (by omega) (by simp; omega) ?_; intro v' w4 hown4 hgrow4 _; obtain ⟨g', cap', rfl⟩ := ownsRow_succ hown4)
              have hB4 : Below w1.heap.size w1 w4 := (hbr3.alloc hbsz (.cells #[.int .i64 (v)] 3)).grown hgrow4 (by simp; omega) fun q eq => by
                apply Nat.le_of_not_lt; intro hql
                exact ownBlock_ge hown (b := q) hql eq.symm
              refine ⟨⟨j + 1, some ⟨g', 0, none⟩, cap', by omega, by go_num, rfl, hB4, ?_, hide fun m hm => ?_⟩, by simp [intOf]; omega⟩
              · rw [HSn.out, HM.out, zvals_snoc]
                exact hown4
              · by_cases e : m = j
                · subst e; rw [HM.out]; omega
                · exact HSo.out m (by omega)
        · obtain rfl : j = (Sm.mk k d zs).out := by omega
          have hfull : (makeS ⟨k, d, zs⟩ z1).take (Sm.mk k d zs).out = makeS ⟨k, d, zs⟩ z1 := by rw [← makeS_len ⟨k, d, zs⟩ z1, List.take_length]
          rw [hfull] at hown
          have HC := hide (codeA_ok H1.out H2.out (over_no HG.out (fun m hm => HSo.out m hm)))
          have HL := hide (makeS_len ⟨k, d, zs⟩ z1)
          clear hfull
          go_wp2_with fail
          refine (hmo _).mono ?_
          rintro e w2 ⟨rfl, hb2⟩
          have hown := ownsRow_below hown hb2
          go_wp2_with fail
          go_ret2
          refine ⟨.inr ⟨HC.out, _, av, cv, rfl, by rw [HL.out]; rfl, ?_⟩, hBr.trans (hb2.mono hBr.size)⟩
          rw [HL.out]
          exact Go.Joins.ownsRow_le hown hs1
    · have HC := hide (codeA_s ht hc)
      have HN := hide hc
      rw [ht] at s1
      have e1 : (codeS ⟨k, d, zs⟩ (z1.length : Int) != 0) = true := by rw [bne_iff_ne]; exact hc
      clear ht hc
      generalize codeS ⟨k, d, zs⟩ (z1.length : Int) = c at *
      have s2' := s2 W0 HB.out
      go_enter Try.func10, Try.ntmps10
      go_wp2_with (go_at_call 27; refine s1.mono ?_; rintro e w' ⟨rfl, rfl⟩)
      go_wp2_with fail
      refine s2'.mono ?_
      rintro e w1 ⟨rfl, hb1⟩
      have hB1 : Below w.heap.size w w1 := HB.out.trans (hb1.mono HB.out.size)
      have p0 := row_below r0 hb1 lt0
      have x0 := p0.cell (i := 0) rfl
      have x1 := p0.cell (i := 1) rfl
      have x2 := p0.cell (i := 2) rfl
      have s3 := s2 w1 hB1
      clear c0 c1 c2 s2 s2'
      go_wp2_with fail
      refine s3.mono ?_
      rintro e w2 ⟨rfl, hb2⟩
      go_wp2
      go_ret2
      exact ⟨.inl ⟨by rw [HC.out]; exact HN.out, by rw [HC.out]; rfl⟩, hB1.trans (hb2.mono hB1.size)⟩
  · have HC := hide (codeA_t (s := ⟨k, d, zs⟩) ht)
    have HN := hide ht
    have e1 : (codeT z1 != 0) = true := by rw [bne_iff_ne]; exact ht
    clear ht
    generalize codeT z1 = c at *
    go_enter Try.func10, Try.ntmps10
    go_wp2_with (go_at_call 27; refine s1.mono ?_; rintro e w' ⟨rfl, rfl⟩)
    go_ret2
    exact ⟨.inl ⟨by rw [HC.out]; exact HN.out, by rw [HC.out]; rfl⟩, HB.out⟩
end Go.Proofs.Ytfigdkikkociaaa
