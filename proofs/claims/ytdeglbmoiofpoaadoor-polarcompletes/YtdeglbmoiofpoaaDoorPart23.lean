/- The contract of the document's PolarComplete, where the order may be. The contract of the document's Words: are two lists of words the same? -/
import Derived.Test.YtdeglbmoiofpoaaDoorPart12
import Derived.Test.YtdeglbmoiofpoaaDoorPart19
import Derived.Test.YtdeglbmoiofpoaaDoorPart21
import Derived.Test.YtdeglbmoiofpoaaDoorPart22
import Derived.Test.YtdeglbmoiofpoaaDoorPart15
import Derived.Test.YtdeglbmoiofpoaaDoorPart11
namespace Go.Proofs.YtdeglbmoiofpoaaDoor
open Go.RowKit Go.Shelf

theorem wvals_one (l : List Nat) (x : Nat) : wvals (l ++ [x]) = wvals l ++ [.int .u32 (x : Int)] := by unfold wvals; simp
/-- below an element is what its column has -/
theorem down_dn {us : List Nat} {x : Nat} (hx : x < us.length) (hl : us.length ≤ 16) : wordOf (fun i => someB us (bitW x) i us.length) us.length = dnW us (bitW x) := by
  rw [some_down (fun j hj => by rw [hasB_bitW, decide_eq_true_iff] at hj; omega)]
  refine word_ext' fun i => ?_
  rw [mem_down, mem_dn (bitW_lt (by omega))]
  refine and_congr_right fun _ => ?_
  constructor
  · rintro ⟨j, h1, h2⟩ k hk
    rw [hasB_bitW, decide_eq_true_iff] at h2 hk
    subst h2; subst hk; exact h1
  · intro h
    exact ⟨x, h x (by rw [hasB_bitW]; simp), by rw [hasB_bitW]; simp⟩
/-- where the first x elements stand -/
def atL (f : Nat → Nat) (x : Nat) : List Int := (List.range x).map fun j => ((f j : Nat) : Int)
/-- .. and the next one, looked for among the first i -/
def atTo (f : Nat → Nat) (x i : Nat) : List Int := atL f x ++ if f x < i then [((f x : Nat) : Int)] else []
theorem atL_len (f : Nat → Nat) (x : Nat) : (atL f x).length = x := by unfold atL; simp
theorem atL_succ (f : Nat → Nat) (x : Nat) : atL f (x + 1) = atL f x ++ [((f x : Nat) : Int)] := by unfold atL; rw [List.range_succ]; simp
theorem atTo_zero (f : Nat → Nat) (x : Nat) : atTo f x 0 = atL f x := by unfold atTo; simp
theorem atTo_done (f : Nat → Nat) {x N : Nat} (h : f x < N) : atTo f x N = atL f (x + 1) := by unfold atTo; rw [if_pos h, atL_succ]
theorem atTo_yes (f : Nat → Nat) {x i : Nat} (h : i = f x) : atTo f x (i + 1) = atTo f x i ++ [(i : Int)] := by
  unfold atTo; rw [if_pos (by omega), if_neg (by omega), List.append_nil, h]
theorem atTo_no (f : Nat → Nat) {x i : Nat} (h : i ≠ f x) : atTo f x (i + 1) = atTo f x i := by
  unfold atTo
  by_cases h1 : f x < i
  · rw [if_pos (by omega), if_pos h1]
  · rw [if_neg (by omega), if_neg h1]
theorem atTo_len (f : Nat → Nat) (x i : Nat) : (atTo f x i).length ≤ x + 1 := by
  unfold atTo; rw [List.length_append, atL_len]; split <;> simp
theorem take_one {l : List Nat} {k : Nat} (h : k < l.length) : l.take (k + 1) = l.take k ++ [wd l k] := by
  rw [List.take_add_one, List.getElem?_eq_getElem h, wd_get h]; rfl

/-- what the document's PolarComplete answers, where the order may be -/
def RefComAns (us : List Nat) (f : Nat → Nat) (w : World) (e : Ending) (w' : World) : Prop :=
  Below w.heap.size w w' ∧ ((16 < (conL us.length us).length ∧ e = .returned (.tuple #[.agg #[.int .i64 0, .slice none 0 0], .slice none 0 0, .int .i64 1])) ∨ ((conL us.length us).length ≤ 16 ∧ ∃ v av cv, e = .returned (.tuple #[.agg #[.int .i64 ((conL us.length us).length : Nat), v], .slice av us.length cv, .int .i64 0]) ∧ w'.ownsRow w.heap.size 65 1 v (conL us.length us).length (wvals (inclL (conL us.length us))) ∧ w'.ownsRow w.heap.size 3 1 (.slice av us.length cv) us.length (zvals (atL f us.length))))

set_option maxRecDepth 100000 in
set_option maxHeartbeats 4000000 in
theorem RefCom_any (a : Option Addr) (cap : Nat) (us : List Nat) (n₀ : Nat) (hf : Fit us) (w : World) (hw : IsWords n₀ w a us) (hn₀ : n₀ ≤ w.heap.size) (hl16 : us.length ≤ 16) (f : Nat → Nat) (hff : ∀ j, j < us.length → f j < (conL us.length us).length ∧ wd (conL us.length us) (f j) = dnW us (bitW j)) :
    Calls Tryd.prog 10 #[.agg #[.int .i64 us.length, .slice a us.length cap]] w (RefComAns us f w) := by
  obtain ⟨iu, hiu, hu0, hu1, hu2⟩ := info_parts info_u32
  obtain ⟨ii, hii, hi0, hi1, hi2⟩ := info_parts info_int
  obtain ⟨r0, r1, hb0, hs0⟩ := two_rows w 24 (.int .i64 us.length) (.slice a us.length cap) (.int .i64 0) (.slice none 0 0) rfl
  have hw0 := hw.below (hb0.mono hn₀)
  have hR0 : Rdy a us n₀ _ := ⟨hf, hw0, by omega⟩
  have hcon := RefCon_any us.length hl16 a cap us hl16 16 (by omega) n₀ _ hR0
  have c0 := r0.cell (i := 0) rfl
  have c1 := r0.cell (i := 1) rfl
  have HF := hide hff
  have Hb := hide hb0
  clear hR0 hff hw hb0
  go_enter Tryd.func10, Tryd.ntmps10
  go_wp2_with (go_at_call 40; refine hcon.mono ?_)
  rintro e w3 ⟨Q, av, cv, rfl, hQ, hQl, hown, hb3⟩
  have hs3 := hb3.size
  rw [hs0] at hs3
  have HB3 := hide (Hb.out.trans (hb3.mono (by omega)))
  have s0 := row_below r0 hb3 r0.lt
  have s1 := row_below r1 hb3 r1.lt
  have hw3 := hw0.below (hb3.mono (by omega))
  have l0 := s0.lt
  have l1 := s1.lt
  clear hcon hb3 r0 r1 hw0 c0 c1 Hb
  by_cases h16 : 16 < Q.length
  · have HX := hide (show 16 < (conL us.length us).length by
      rcases hQ with rfl | ⟨_, h⟩
      · rw [conP_len] at h16; exact h16
      · exact h)
    have k0 := s1.cell (i := 0) rfl
    have k1 := s1.cell (i := 1) rfl
    have f0 := s1.frozen 0
    have f1 := s1.frozen 1
    clear hQ hown
    go_wp2_with fail
    have q2 := (s1.set 0 (.int .i64 0)).set 1 (.slice none 0 0)
    have e0 := q2.cell (i := 0) (v := .int .i64 0) rfl
    have e1 := q2.cell (i := 1) (v := .slice none 0 0) rfl
    refine bodyPost_ret (v := .tuple #[.agg #[.int .i64 0, .slice none 0 0], .slice none 0 0, .int .i64 1]) (by simp [results, Tryd.results10, go_sem, e0, e1]) rfl ⟨?_, .inl ⟨HX.out, rfl⟩⟩
    exact (HB3.out.setCell (p := ⟨w.heap.size + 1, 0, none⟩) (by simp) _).setCell (p := ⟨w.heap.size + 1, 1, none⟩) (by simp) _
  · have hQe : Q = conP us.length us := hQ.resolve_right (fun h => h16 h.1)
    have hQn : Q.length = (conL us.length us).length := by rw [hQe, conP_len]
    have HQ := hide (show rowsP Q = conL us.length us by rw [hQe, rowsP_con])
    have HQn := hide hQn
    have hoc := ownsRow_cons hown
    have HLT := hide (show ∀ i, i < Q.length → wd (rowsP Q) i < 4294967296 from fun i hi => by
      rw [HQ.out]
      exact Ext.lt hl16 ((mem_conL hl16).1 (wd_mem (by omega))))
    have HNE := hide (show ∀ i j, i < Q.length → j < Q.length → wd (rowsP Q) i = wd (rowsP Q) j → i = j from fun i j hi hj h => by
      rw [HQ.out] at h
      exact wd_injC (nodup_of_rising (rising_conL _ _)) (by omega) (by omega) h)
    have HTK := hide (show ∀ k, k < Q.length → (rowsP Q).take (k + 1) = (rowsP Q).take k ++ [wd (rowsP Q) k] from fun k hk => take_one (by rw [rowsP_len]; exact hk))
    clear hQ hQe hQn hown
    go_wp2_with fail
    go_loopw [6, 25] (fun ls x wr => ∃ (k : Nat) (L : List Nat) (bv : Option Addr) (dv : Nat), k ≤ Q.length ∧ x = .int .i64 k ∧ ls = .slice bv L.length dv ∧ Hid (L = (rowsP Q).take k) ∧ Hid (L.length = k) ∧ Below w3.heap.size w3 wr ∧ wr.ownsRow w3.heap.size 65 1 (.slice bv L.length dv) L.length (wvals L)) (fun _ x _ => Q.length - (intOf x).toNat)
    case atStart => exact ⟨0, [], none, 0, Nat.zero_le _, rfl, rfl, hide rfl, hide rfl, Below.refl _ _, World.ownsRow_nil ..⟩
    case round =>
      obtain ⟨k, L, bv, dv, hk, rfl, rfl, HL, HLl, hbr, hown⟩ := hrel
      by_cases hlt : k < Q.length
      · obtain ⟨B, rfl, hcs, hBl⟩ := hoc.resolve_left (fun e => by rw [e] at hlt; simp at hlt)
        have hcr := (hcs.below hbr hBl) k hlt
        obtain ⟨cx, cy⟩ := hcr
        rw [← rowsP_at hlt] at cx
        have lx := HLT.out k hlt
        have HT := hide (HTK.out k hlt)
        generalize wd (rowsP Q) k = x at *
        generalize Q[k].2 = y at *
        have hbsz := hbr.size
        have hLl : L.length ≤ 16 := by rw [HLl.out]; omega
        go_wp2_with (at_builtin; refine wpList_append_own _ rfl _ _ 22 rfl w3.heap.size 65 iu (.int .u32 0) 1 4 Tryd.underlying22 hiu hu0 hu1 hu2 rfl (by decide) _ _ _ rfl ((hown.alloc _).alloc _) ⟨wr.heap.size + 1, 0, none⟩ 1 1 [.int .u32 (x : Nat)] rfl rfl (by have h := cell_one_new (wr.alloc (.cells #[.int .u32 (x : Nat), .int .u32 (y : Nat)] 67)) (.int .u32 (x : Nat)) 65; rw [World.size_alloc] at h; exact h) (fun u hu => by simp at hu; subst hu; rfl) (by unfold maxLen; omega) (by omega) (by simp; omega) ?_)
        intro v' w5 hown5 hgrow5 _
        obtain ⟨g', cap', rfl⟩ := ownsRow_succ hown5
        have hB5 : Below w3.heap.size w3 w5 := ((hbr.alloc hbsz (.cells #[.int .u32 (x : Nat), .int .u32 (y : Nat)] 67)).alloc (by simp; omega) (.cells #[.int .u32 (x : Nat)] 65)).grown hgrow5 (by simp; omega) fun q eq => by
          apply Nat.le_of_not_lt; intro hql
          exact ownBlock_ge hown (b := q) hql eq.symm
        have hl1 : (L ++ [x]).length = L.length + 1 := by rw [List.length_append]; rfl
        go_wp2_with fail
        refine ⟨⟨k + 1, L ++ [x], some ⟨g', 0, none⟩, cap', by omega, by go_num, by rw [hl1], hide (by rw [HT.out, HL.out]), hide (by rw [hl1, HLl.out]), hB5, ?_⟩, by simp [intOf]; omega⟩
        rw [hl1, wvals_one]
        exact hown5
      · obtain rfl : k = Q.length := by omega
        have hLr : L = rowsP Q := by rw [HL.out, ← rowsP_len, List.take_length]
        have hLN : L.length = (conL us.length us).length := by rw [hLr, HQ.out]
        have hl17 : L.length ≤ 16 := by rw [HLl.out]; omega
        have HLN := hide hLN
        have HLc := hide (show L = conL us.length us by rw [hLr, HQ.out])
        have HEq := hide (show ∀ x, x < us.length → ∀ i, i < L.length → (wd L i = dnW us (bitW x) ↔ i = f x) from fun x hx i hi => by
          have h := HF.out x hx
          rw [← HLc.out] at h
          constructor
          · intro e
            refine wd_injC (nodup_of_rising ?_) hi h.1 (by rw [e, h.2])
            rw [HLc.out]; exact rising_conL _ _
          · rintro rfl; exact h.2)
        have HFl := hide (show ∀ x, x < us.length → f x < L.length from fun x hx => by rw [HLN.out]; exact (HF.out x hx).1)
        have HLlt := hide (show ∀ i, wd L i < 4294967296 from fun i => by
          by_cases h : i < L.length
          · rw [hLr] at h ⊢
            exact HLT.out i (by rw [rowsP_len] at h; exact h)
          · unfold wd; rw [List.getD_eq_getElem?_getD, List.getElem?_eq_none (by omega)]; decide)
        have t0 := row_below s0 hbr l0
        have t1 := row_below s1 hbr l1
        have hbsz := hbr.size
        have HB5 := hide (HB3.out.trans (hbr.mono (by omega)))
        have hw5 := hw3.below (hbr.mono (by omega))
        have hwL := own_words hown
        clear hLr hLN hbr hown hw3 s0 s1 hoc HTK HNE HLT HL HLl
        obtain ⟨w5, h5⟩ : ∃ V, V = wr := ⟨_, rfl⟩
        rw [← h5] at t0 t1 HB5 hw5 hwL hbsz ⊢
        clear h5 wr
        have m0 := t0.lt
        have m1 := t1.lt
        go_wp2_with fail
        go_loopw [9, 10] (fun ls x W => ∃ (j : Nat) (zs : List Int) (bw : Option Addr) (dw : Nat), j ≤ us.length ∧ x = .int .i64 j ∧ ls = .slice bw zs.length dw ∧ Hid (zs = atL f j) ∧ Below w5.heap.size w5 W ∧ W.ownsRow w5.heap.size 3 1 (.slice bw zs.length dw) zs.length (zvals zs)) (fun _ x _ => us.length - (intOf x).toNat)
        case atStart => exact ⟨0, [], none, 0, Nat.zero_le _, rfl, rfl, hide rfl, Below.refl _ _, World.ownsRow_nil ..⟩
        case round =>
          obtain ⟨j, zs, bw, dw, hj, rfl, rfl, HZ, hbW, hown⟩ := hrel
          obtain ⟨W, hW⟩ : ∃ V, V = wr := ⟨_, rfl⟩
          rw [← hW] at hbW hown ⊢
          clear hW wr
          have v0 := row_below t0 hbW m0
          have v1 := row_below t1 hbW m1
          have y0 := v0.cell (i := 0) rfl
          have y1 := v0.cell (i := 1) rfl
          have hWs := hbW.size
          by_cases hlj : j < us.length
          · have hdd := DownsDown_any a cap us (bitW j) (bitW_lt (by omega)) n₀ hf hl16 W (hw5.below (hbW.mono (by omega))) (by omega)
            rw [down_dn hlj hl16] at hdd
            have hbrw := bit_raw (i := j) (by omega)
            have HE := hide (HEq.out j hlj)
            have HFj := hide (HFl.out j hlj)
            generalize hd : dnW us (bitW j) = d at *
            clear hd
            go_wp2_with (go_at_call 41; refine hdd.mono ?_)
            rintro e W2 ⟨rfl, hb2⟩
            have hB2 := hbW.trans (hb2.mono hWs)
            have hown2 := ownsRow_below hown hb2
            clear hdd hb2 hown hbW v0 v1 y0 y1 hWs hbrw
            go_wp2_with fail
            go_loopw [9, 12] (fun ls x W => ∃ (i : Nat) (ys : List Int) (bx : Option Addr) (dx : Nat), i ≤ L.length ∧ x = .int .i64 i ∧ ls = .slice bx ys.length dx ∧ Hid (ys = atTo f j i) ∧ Below w5.heap.size w5 W ∧ W.ownsRow w5.heap.size 3 1 (.slice bx ys.length dx) ys.length (zvals ys)) (fun _ x _ => L.length - (intOf x).toNat)
            case atStart => exact ⟨0, zs, bw, dw, Nat.zero_le _, rfl, rfl, hide (by rw [atTo_zero]; exact HZ.out), hB2, hown2⟩
            case round =>
              clear hB2 hown2 HZ
              obtain ⟨i, ys, bx, dx, hi, rfl, rfl, HY, hb3, hown3⟩ := hrel
              have hbz := hb3.size
              by_cases hli : i < L.length
              · obtain ⟨b, off, rfl, hb, hc⟩ := (hwL.below hb3).at (i := i) hli
                have hck := hc i hli
                have hlx := HLlt.out i
                have HI := hide (HE.out i hli)
                have hyl : ys.length ≤ us.length + 1 := by rw [HY.out]; have := atTo_len f j i; omega
                clear hc
                by_cases he : wd L i = d
                · have HS := hide (atTo_yes f (x := j) (HI.out.1 he))
                  have e1 : (((wd L i : Nat) : Int) == ((d : Nat) : Int)) = true := by rw [beq_iff_eq, he]
                  clear he
                  generalize wd L i = xi at *
                  go_wp2_with (at_builtin; refine wpList_append_own _ rfl _ _ 25 rfl w5.heap.size 3 ii (.int .i64 0) 1 8 Tryd.underlying25 hii hi0 hi1 hi2 rfl (by decide) _ _ _ rfl (hown3.alloc _) ⟨wr.heap.size, 0, none⟩ 1 1 [.int .i64 (i : Nat)] rfl rfl (cell_one_new _ _ _) (fun u hu => by simp at hu; subst hu; rfl) (by unfold maxLen; omega) (by omega) (by simp; omega) ?_)
                  intro v' w6 hown6 hgrow6 _
                  obtain ⟨g', cap', rfl⟩ := ownsRow_succ hown6
                  have hB6 : Below w5.heap.size w5 w6 := (hb3.alloc hbz (.cells #[.int .i64 (i : Nat)] 3)).grown hgrow6 (by simp; omega) fun q eq => by
                    apply Nat.le_of_not_lt; intro hql
                    exact ownBlock_ge hown3 (b := q) hql eq.symm
                  have hl1 : (ys ++ [((i : Nat) : Int)]).length = ys.length + 1 := by rw [List.length_append]; rfl
                  go_wp2_with fail
                  refine ⟨⟨i + 1, ys ++ [((i : Nat) : Int)], some ⟨g', 0, none⟩, cap', by omega, by go_num, by rw [hl1], hide (by rw [HS.out, HY.out]), hB6, ?_⟩, by simp [intOf]; omega⟩
                  rw [hl1, zvals_snoc]
                  exact hown6
                · have HS := hide (atTo_no f (x := j) (fun h => he (HI.out.2 h)))
                  have e1 : (((wd L i : Nat) : Int) == ((d : Nat) : Int)) = false := by rw [beq_eq_false_iff_ne]; omega
                  clear he
                  generalize wd L i = xi at *
                  go_wp2_with fail
                  exact ⟨⟨i + 1, ys, bx, dx, by omega, by go_num, rfl, hide (by rw [HS.out]; exact HY.out), hb3, hown3⟩, by simp [intOf]; omega⟩
              · obtain rfl : i = L.length := by omega
                have HS := hide (show ys = atL f (j + 1) by rw [HY.out, atTo_done f HFj.out])
                clear HY
                go_wp2_with fail
                exact ⟨⟨j + 1, ys, bx, dx, by omega, by go_num, rfl, HS, hb3, hown3⟩, by simp [intOf]; omega⟩
          · obtain rfl : j = us.length := by omega
            have HS := hide (show zs = atL f us.length from HZ.out)
            have HSl := hide (show zs.length = us.length by rw [HS.out, atL_len])
            have hri := RefIncl_any bv dv L w5.heap.size HLlt.out hl17 W (hwL.below hbW) hWs
            clear HZ
            go_wp2_with (go_at_call 42; refine hri.mono ?_)
            rintro e W3 ⟨v, rfl, hb3, hownI⟩
            obtain ⟨gI, capI, rfl, _⟩ := ownsRow_words hownI
            have z1 := row_below v1 hb3 v1.lt
            have hownZ := ownsRow_below hown hb3
            have k0 := z1.cell (i := 0) rfl
            have k1 := z1.cell (i := 1) rfl
            have f0 := z1.frozen 0
            have f1 := z1.frozen 1
            clear hri
            go_wp2_with fail
            have q2 := (z1.set 0 (.int .i64 (L.length : Nat))).set 1 (.slice gI (inclL L).length capI)
            have e0 := q2.cell (i := 0) (v := .int .i64 (L.length : Nat)) rfl
            have e1 := q2.cell (i := 1) (v := .slice gI (inclL L).length capI) rfl
            refine bodyPost_ret (v := .tuple #[.agg #[.int .i64 (L.length : Nat), .slice gI (inclL L).length capI], .slice bw zs.length dw, .int .i64 0]) (by simp [results, Tryd.results10, go_sem, e0, e1]) rfl ⟨?_, .inr ⟨by rw [← HLN.out]; exact hl17, .slice gI (inclL L).length capI, bw, dw, by rw [← HLN.out, HSl.out], ?_, ?_⟩⟩
            · exact ((HB5.out.trans ((hbW.trans (hb3.mono hWs)).mono (by omega))).setCell (p := ⟨w.heap.size + 1, 0, none⟩) (by simp) _).setCell (p := ⟨w.heap.size + 1, 1, none⟩) (by simp) _
            · rw [← HLc.out]
              exact ownsRow_base (ownsRow_setAt (ownsRow_setAt hownI (by omega) _ _) (by omega) _ _) (by omega)
            · rw [← HS.out, ← HSl.out]
              exact ownsRow_base (ownsRow_setAt (ownsRow_setAt hownZ (by omega) _ _) (by omega) _ _) (by omega)
end Go.Proofs.YtdeglbmoiofpoaaDoor

namespace Go.Proofs.YtdeglbmoiofpoaaDoor
open Go.RowKit Go.Shelf

def sameO (us vs : List Nat) : Bool := decide (us = vs)
theorem sameO_true {us vs : List Nat} (hl : us.length = vs.length) (h : ∀ i, i < us.length → wd us i = wd vs i) : sameO us vs = true := by
  unfold sameO; rw [decide_eq_true_iff]
  apply List.ext_getElem hl
  intro i h1 h2
  have := h i h1
  unfold wd at this
  simpa [List.getD_eq_getElem?_getD, List.getElem?_eq_getElem h1, List.getElem?_eq_getElem h2] using this
theorem sameO_false {us vs : List Nat} (h : us ≠ vs) : sameO us vs = false := by unfold sameO; exact decide_eq_false h

set_option maxHeartbeats 400000 in
theorem Words_len (a b : Option Addr) (ca cb : Nat) (us vs : List Nat) (hne : us.length ≠ vs.length) (w : World) :
    Calls Tryd.prog 39 #[.slice a us.length ca, .slice b vs.length cb] w fun e w' => e = .returned (.bool (sameO us vs)) ∧ w' = w := by
  have hd : ((us.length : Int) != (vs.length : Int)) = true := by rw [bne_iff_ne]; omega
  have Hs := hide (sameO_false (us := us) (vs := vs) (fun e => hne (by rw [e])))
  go_enter Tryd.func39, Tryd.ntmps39
  go_wp2
  go_ret
  exact ⟨ret_bool Hs.out.symm, rfl⟩

set_option maxHeartbeats 400000 in
theorem Words_loop (a b : Option Addr) (ca cb : Nat) (us vs : List Nat) (n₀ : Nat) (hl : vs.length = us.length) (h40 : us.length ≤ 1099511627776) (w : World) (hu : IsWords n₀ w a us) (hv : IsWords n₀ w b vs) :
    Calls Tryd.prog 39 #[.slice a us.length ca, .slice b vs.length cb] w fun e w' => e = .returned (.bool (sameO us vs)) ∧ ∃ m, w' = w.drewN m := by
  have HL := hide hl
  rw [hl]
  clear hl
  go_enter Tryd.func39, Tryd.ntmps39
  go_wp2
  go_loopw [5] (fun i wr => ∃ (k m : Nat), k ≤ us.length ∧ i = .int .i64 k ∧ (∀ j, j < k → wd us j = wd vs j) ∧ wr = w.drewN m) (fun i _ => us.length - (intOf i).toNat)
  case atStart => exact ⟨0, 0, Nat.zero_le _, rfl, fun j h1 => by omega, rfl⟩
  case round =>
    obtain ⟨k, m, hk, rfl, hall, rfl⟩ := hrel
    by_cases hlt : k < us.length
    · obtain ⟨b1, o1, rfl, hb1, hc1⟩ := hu.at hlt
      obtain ⟨b2, o2, rfl, hb2, hc2⟩ := hv.at (show k < vs.length by rw [HL.out]; exact hlt)
      have c1 := hc1 k hlt
      have c2 := hc2 k (show k < vs.length by rw [HL.out]; exact hlt)
      clear hc1 hc2
      by_cases he : wd us k = wd vs k
      · have hd : (((wd us k : Nat) : Int) != ((wd vs k : Nat) : Int)) = false := by rw [bne_eq_false_iff_eq]; omega
        have He := hide he; clear he
        go_wp2
        go_quiet (fail)
        go_wp2
        refine ⟨⟨k + 1, m + nq, by omega, by go_num, fun j h1 => ?_, by simp [World.drewN]⟩, by simp [intOf]; omega⟩
        by_cases e : j = k
        · rw [e]; exact He.out
        · exact hall j (by omega)
      · have hd : (((wd us k : Nat) : Int) != ((wd vs k : Nat) : Int)) = true := by rw [bne_iff_ne]; omega
        have He := hide he; clear he
        go_wp2
        go_quiet (fail)
        go_wp2
        go_ret
        exact ⟨ret_bool (sameO_false (fun e => He.out (by rw [e]))).symm, m + nq, by simp [World.drewN, Nat.add_assoc]⟩
    · go_wp2
      go_ret
      exact ⟨ret_bool (sameO_true HL.out.symm fun i hi => hall i (by omega)).symm, m, rfl⟩

theorem Words_any (a b : Option Addr) (ca cb : Nat) (us vs : List Nat) (n₀ : Nat) (h40 : us.length ≤ 1099511627776) (w : World) (hu : IsWords n₀ w a us) (hv : IsWords n₀ w b vs) :
    Calls Tryd.prog 39 #[.slice a us.length ca, .slice b vs.length cb] w fun e w' => e = .returned (.bool (sameO us vs)) ∧ Below w.heap.size w w' := by
  by_cases hl : vs.length = us.length
  · refine (Words_loop a b ca cb us vs n₀ hl h40 w hu hv).mono ?_
    rintro e w' ⟨rfl, m, rfl⟩
    exact ⟨rfl, below_drewN (Below.refl _ _) m⟩
  · refine (Words_len a b ca cb us vs (fun e => hl e.symm) w).mono ?_
    rintro e w' ⟨rfl, rfl⟩
    exact ⟨rfl, Below.refl _ _⟩
end Go.Proofs.YtdeglbmoiofpoaaDoor
