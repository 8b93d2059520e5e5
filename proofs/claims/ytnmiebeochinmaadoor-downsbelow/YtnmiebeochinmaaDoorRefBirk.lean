/- The contract of the document's DownsBirkhoff. -/
import Derived.Test.YtnmiebeochinmaaDoorBirkhoff
import Derived.Test.YtnmiebeochinmaaDoorRefDual
namespace Go.Proofs.YtnmiebeochinmaaDoor
open Go.RowKit Go.Shelf

set_option maxRecDepth 100000 in
set_option maxHeartbeats 2000000 in
theorem RefBirk_any (a : Option Addr) (cap : Nat) (us : List Nat) (n₀ : Nat) (hf : Fit us) (hl16 : us.length ≤ 16) (w : World) (hw : IsWords n₀ w a us) (hn₀ : n₀ ≤ w.heap.size) :
    Calls Tryd.prog 18 #[.agg #[.int .i64 us.length, .slice a us.length cap]] w fun e w' => ∃ av cv, e = .returned (.slice av us.length cv) ∧ Below w.heap.size w w' ∧ IsWords w'.heap.size w' av (birkL us (lowIrr us) us.length) := by
  obtain ⟨i0, hi, hz0, hz1, hz2⟩ := info_parts info_u32
  obtain ⟨r0, hb0, hs0⟩ := one_row w 24 (.int .i64 us.length) (.slice a us.length cap) rfl
  have s1 := RefIrr_any a cap us n₀ hf hl16 _ (hw.below (hb0.mono hn₀)) (by omega)
  have hll : (lowIrr us).length ≤ 16 := by
    unfold lowIrr
    have := List.length_filter_le (fun x => decide (lowCnt us x = 1)) (List.range us.length)
    simp at this
    omega
  have hlow : ∀ i, i < (lowIrr us).length → wd (lowIrr us) i < us.length := fun i hi => by
    have hm : wd (lowIrr us) i ∈ lowIrr us := by
      unfold wd
      rw [List.getD_eq_getElem?_getD, List.getElem?_eq_getElem hi]
      exact List.getElem_mem hi
    unfold lowIrr at hm
    rw [List.mem_filter, List.mem_range] at hm
    exact hm.1
  have lt0 := r0.lt
  generalize lowIrr us = S at *
  go_enter Tryd.func18, Tryd.ntmps18
  go_wp2_with (go_at_call 29; refine s1.mono ?_; rintro e w1 ⟨a1, c1, a2, c2, rfl, hb1, i1, i2⟩; clear s1)
  have q0 := row_below r0 hb1 lt0
  have lq0 := q0.lt
  have hs1 := hb1.size
  have hB1 : Below w.heap.size w w1 := hb0.trans (hb1.mono (by omega))
  have hwV := hw.below (hB1.mono hn₀)
  clear r0 hb0 i2
  go_loopw [5, 6] (fun v i wr => ∃ (x : Nat) (av : Option Addr) (cv : Nat), x ≤ us.length ∧ i = .int .i64 x ∧ v = .slice av x cv ∧ Below w1.heap.size w1 wr ∧ wr.ownsRow w1.heap.size 25 1 (.slice av x cv) x (wvals (birkL us S x))) (fun _ i _ => us.length - (intOf i).toNat)
  case atStart => exact ⟨0, none, 0, Nat.zero_le _, rfl, rfl, Below.refl _ _, World.ownsRow_nil ..⟩
  case round =>
    obtain ⟨x, av, cv, hx', rfl, rfl, hbr, hown⟩ := hrel
    have q1 := row_below q0 hbr lq0
    have j0 := q1.cell (i := 0) rfl
    have hbs := hbr.size
    by_cases hx : x < us.length
    · go_wp2
      go_loopw [7, 23] (fun v i wr => ∃ (k : Nat), k ≤ S.length ∧ i = .int .i64 k ∧ v = .int .u32 (belowOf us S x k : Nat) ∧ Below w1.heap.size w1 wr ∧ wr.ownsRow w1.heap.size 25 1 (.slice av x cv) x (wvals (birkL us S x))) (fun _ i _ => S.length - (intOf i).toNat)
      case atStart => exact ⟨0, Nat.zero_le _, rfl, rfl, hbr, hown⟩
      case round =>
        clear hbr hown q1 j0 hbs
        obtain ⟨k, hk, rfl, rfl, hbr, hown⟩ := hrel
        have q1 := row_below q0 hbr lq0
        have j0 := q1.cell (i := 0) rfl
        have j1 := q1.cell (i := 1) rfl
        have hbs := hbr.size
        have hl4 := belowOf_lt us S (fun i hi => by have := hlow i hi; omega) x k hk
        by_cases hlt : k < S.length
        · obtain ⟨b, off, rfl, hbb, hcc⟩ := (i1.below hbr).at hlt
          have hck := hcc k hlt
          have hjn := hlow k hlt
          have hstep : belowOf us S x (k + 1) = if hasB (wd us (wd S k)) x then orW (belowOf us S x k) (bitW (wd S k)) else belowOf us S x k := rfl
          generalize belowOf us S x k = acc at *
          generalize wd S k = j at *
          have hbel := Below_any us.length a cap us j x n₀ hf hjn (by omega) wr (hwV.below (hbr.mono (by omega))) (by omega)
          have hbr2 := bit_raw (i := j) (by omega)
          have hor := bits_or32 acc (bitW j) hl4 (bitW_lt (by omega))
          clear hcc
          cases hb : hasB (wd us j) x with
          | true =>
            rw [hb] at hbel
            rw [hb, if_pos rfl] at hstep
            have HS := hide hstep
            clear hb hstep
            go_wp2_with (go_at_call 23; refine hbel.mono ?_; rintro e w3 ⟨rfl, hb3⟩)
            exact ⟨⟨k + 1, by omega, by go_num, by rw [HS.out], hbr.trans (hb3.mono hbs), ownsRow_below hown hb3⟩, by simp [intOf]; omega⟩
          | false =>
            rw [hb] at hbel
            rw [hb, if_neg (by simp)] at hstep
            have HS := hide hstep
            clear hb hstep
            go_wp2_with (go_at_call 23; refine hbel.mono ?_; rintro e w3 ⟨rfl, hb3⟩)
            exact ⟨⟨k + 1, by omega, by go_num, by rw [HS.out], hbr.trans (hb3.mono hbs), ownsRow_below hown hb3⟩, by simp [intOf]; omega⟩
        · obtain rfl : k = S.length := by omega
          have HB := hide (birkL_succ us S x)
          generalize belowOf us S x S.length = acc at *
          go_wp2_with (at_builtin; refine wpList_append_own _ rfl _ _ 22 rfl w1.heap.size 25 i0 (.int .u32 0) 1 4 Tryd.underlying22 hi hz0 hz1 hz2 rfl (by decide) _ _ _ rfl (hown.alloc _) ⟨wr.heap.size, 0, none⟩ 1 1 [.int .u32 (acc : Nat)] rfl rfl (cell_one_new _ _ _) (fun u hu => by simp at hu; subst hu; rfl) (by unfold maxLen; omega) (by omega) (by simp; omega) ?_; intro v' w3 hown' hgrow3 _; obtain ⟨g', cap', rfl⟩ := ownsRow_succ hown')
          have hB3 : Below w1.heap.size w1 w3 := (hbr.alloc hbs (.cells #[.int .u32 (acc : Nat)] 25)).grown hgrow3 (by simp; omega) fun j ej => by
            apply Nat.le_of_not_lt; intro hjl
            exact ownBlock_ge hown (b := j) (by omega) ej.symm
          have hx2 : wvals (birkL us S x) ++ [.int .u32 (acc : Nat)] = wvals (birkL us S (x + 1)) := by rw [HB.out]; simp [wvals]
          have hown2 : w3.ownsRow w1.heap.size 25 1 (.slice (some ⟨g', 0, none⟩) (x + 1) cap') (x + 1) (wvals (birkL us S (x + 1))) := by rw [← hx2]; exact hown'
          exact ⟨⟨x + 1, some ⟨g', 0, none⟩, cap', by omega, by go_num, rfl, hB3, hown2⟩, by simp [intOf]; omega⟩
    · obtain rfl : x = us.length := by omega
      go_wp2
      go_ret
      obtain ⟨av2, cv2, ew, hwC⟩ := ownsRow_words hown
      rw [birkL_len] at ew
      cases ew
      exact ⟨_, _, rfl, hB1.trans (hbr.mono hB1.size), hwC⟩
end Go.Proofs.YtnmiebeochinmaaDoor
