/- The contracts of the program's ones and Irreducible. The contracts of the program's Birkhoff and of the document's DownsBirkhoff: for each element the irreducible ones below it. -/
import Derived.Test.YtdomcjfgmnpbmaaDoorPart27
import Derived.Test.YtdomcjfgmnpbmaaDoorPart24
import Derived.Test.YtdomcjfgmnpbmaaDoorPart28
import Derived.Test.YtdomcjfgmnpbmaaDoorPart12
namespace Go.Proofs.YtdomcjfgmnpbmaaDoor
open Go.RowKit Go.Shelf

set_option maxRecDepth 100000 in
set_option maxHeartbeats 1000000 in
theorem ones_any (a : Option Addr) (cap : Nat) (l : List Nat) (n₀ : Nat) (hl : l.length ≤ 16) (w : World) (hw : IsInts n₀ w a l) (hn₀ : n₀ ≤ w.heap.size) :
    Calls Tryd.prog 46 #[.slice a l.length cap] w fun e w' => ∃ av cv, e = .returned (.slice av (onesTo l l.length).length cv) ∧ Below w.heap.size w w' ∧ w'.ownsRow w.heap.size 3 1 (.slice av (onesTo l l.length).length cv) (onesTo l l.length).length (ivals (onesTo l l.length)) := by
  obtain ⟨i0, hi, hz0, hz1, hz2⟩ := info_parts info_int
  go_enter Tryd.func46, Tryd.ntmps46
  go_wp2
  go_loopw [3, 8] (fun ls i wr => ∃ (k : Nat) (av : Option Addr) (cv : Nat), k ≤ l.length ∧ i = .int .i64 k ∧ ls = .slice av (onesTo l k).length cv ∧ Below w.heap.size w wr ∧ wr.ownsRow w.heap.size 3 1 (.slice av (onesTo l k).length cv) (onesTo l k).length (ivals (onesTo l k))) (fun _ i _ => l.length - (intOf i).toNat)
  case atStart => exact ⟨0, none, 0, Nat.zero_le _, rfl, rfl, Below.refl _ _, World.ownsRow_nil ..⟩
  case round =>
    obtain ⟨k, av, cv, hk, rfl, rfl, hB, hown⟩ := hrel
    by_cases hlt : k < l.length
    · obtain ⟨b, off, rfl, hb, hc⟩ := (hw.below (hB.mono hn₀)).at hlt
      have hck := hc k hlt
      have hsu := onesTo_succ l k
      have hle := onesTo_len l k
      have hbsz := hB.size
      clear hc
      by_cases h1 : wd l k = 1
      · have hd : (((wd l k : Nat) : Int) == 1) = true := by rw [h1]; rfl
        rw [if_pos h1] at hsu
        have HS := hide hsu
        clear hsu h1
        generalize onesTo l k = S at *
        go_wp2_with (at_builtin; refine wpList_append_own _ rfl _ _ 43 rfl w.heap.size 3 i0 (.int .i64 0) 1 8 Tryd.underlying43 hi hz0 hz1 hz2 rfl (by decide) _ _ _ rfl (hown.alloc _) ⟨wr.heap.size, 0, none⟩ 1 1 [.int .i64 (k : Nat)] rfl rfl (cell_one_new _ _ _) (fun u hu => by simp at hu; subst hu; rfl) (by unfold maxLen; omega) (by omega) (by simp; omega) ?_; intro v' w3 hown3 hgrow3 _; obtain ⟨g', cap', rfl⟩ := ownsRow_succ hown3)
        have hB3 : Below w.heap.size w w3 := (hB.alloc hbsz (.cells #[.int .i64 (k : Nat)] 3)).grown hgrow3 (by simp; omega) fun q eq => by
          apply Nat.le_of_not_lt; intro hql
          exact ownBlock_ge hown (b := q) hql eq.symm
        refine ⟨⟨k + 1, some ⟨g', 0, none⟩, cap', by omega, by go_num, by rw [HS.out]; simp, hB3, ?_⟩, by simp [intOf]; omega⟩
        rw [HS.out, ivals_snoc, List.length_append]
        exact hown3
      · have hd : (((wd l k : Nat) : Int) == 1) = false := by rw [beq_eq_false_iff_ne]; omega
        rw [if_neg h1, List.append_nil] at hsu
        have HS := hide hsu
        clear hsu h1
        go_wp2
        exact ⟨⟨k + 1, av, cv, by omega, by go_num, by rw [HS.out], hB, by rw [HS.out]; exact hown⟩, by simp [intOf]; omega⟩
    · obtain rfl : k = l.length := by omega
      go_wp2
      go_ret
      exact ⟨av, cv, rfl, hB, hown⟩

/-- the answer where there is no lattice -/
def irrErr (c : Int) : Ending := .returned (.tuple #[.slice none 0 0, .slice none 0 0, .int .i64 c])
set_option maxRecDepth 100000 in
set_option maxHeartbeats 1000000 in
theorem Irr_err (n : Int) (a : Option Addr) (len cap : Nat) (c : Int) (hc : c ≠ 0) (w : World) (ht : ∀ W, Below w.heap.size w W → Calls Tryd.prog 40 #[.agg #[.int .i64 n, .slice a len cap]] W fun e w' => e = tabErr c ∧ Below W.heap.size W w') :
    Calls Tryd.prog 21 #[.agg #[.int .i64 n, .slice a len cap]] w fun e w' => e = irrErr c ∧ Below w.heap.size w w' := by
  obtain ⟨r0, hb0, hs0⟩ := one_row w 24 (.int .i64 n) (.slice a len cap) rfl
  have h1 := ht _ hb0
  unfold tabErr at h1
  have hne : (c != 0) = true := by rw [bne_iff_ne]; exact hc
  clear hc ht
  go_enter Tryd.func21, Tryd.ntmps21
  go_wp2_with (go_at_call 40; refine h1.mono ?_; rintro e w1 ⟨rfl, hb1⟩)
  refine bodyPost_ret (v := .tuple #[.slice none 0 0, .slice none 0 0, .int .i64 c]) (by simp [results, Tryd.results21, go_sem]) rfl ⟨rfl, ?_⟩
  exact (hb0.trans (hb1.mono (by omega))).alloc (by have := hb1.size; omega) _

set_option maxRecDepth 100000 in
set_option maxHeartbeats 2000000 in
theorem Irr_ok (n : Int) (a : Option Addr) (cap : Nat) (us ds : List Nat) (n₀ : Nat) (hf : Fit us) (w : World) (hT : TabAt w) (hw : IsWords n₀ w a us) (hg : 0 < n₀) (hn₀ : n₀ ≤ w.heap.size) (hc : codeOf n us = 0) (hD : Tur us us.length [] ds) (hl : latB us ds = true) :
    Calls Tryd.prog 21 #[.agg #[.int .i64 n, .slice a us.length cap]] w fun e w' => ∃ a1 c1 a2 c2, e = .returned (.tuple #[.slice a1 (lowIrr us).length c1, .slice a2 (highIrr us).length c2, .int .i64 0]) ∧ Below w.heap.size w w' ∧ IsInts w'.heap.size w' a1 (lowIrr us) ∧ IsInts w'.heap.size w' a2 (highIrr us) := by
  obtain ⟨h1, h2, h3⟩ := latB_parts hl
  have hz := n_zero hc
  rw [decide_eq_false h1] at hz
  obtain ⟨r0, hb0, hs0⟩ := one_row w 24 (.int .i64 n) (.slice a us.length cap) rfl
  have hta := TableOf_ok n a cap us ds n₀ hf _ (hT.below hb0 (by omega)) (hw.below (hb0.mono hn₀)) hg (by omega) hc hD hz h2 h3
  have hlen := (code_zero hc).2.2.1
  have hl16 : us.length ≤ 16 := by have := code_zero hc; omega
  have hc' : codeOf us.length us = 0 := by rw [hlen]; exact hc
  have hL256 : (coverL us us.length).length ≤ 256 := Nat.le_trans (coverL_len us us.length) (Nat.mul_le_mul hl16 hl16)
  have hmem : ∀ k (hk : k < (coverL us us.length).length), (coverL us us.length)[k].1 < us.length ∧ (coverL us us.length)[k].2 < us.length := fun k hk => by
    have := mem_coverL.1 (show ((coverL us us.length)[k].1, (coverL us us.length)[k].2) ∈ coverL us us.length from List.getElem_mem hk)
    exact ⟨this.1, this.2.1⟩
  have hcl : ∀ x, x < us.length → cntTo Prod.snd (coverL us us.length) x (coverL us us.length).length = lowCnt us x := fun x hx => cnt_low hx
  have hch : ∀ x, x < us.length → cntTo Prod.fst (coverL us us.length) x (coverL us us.length).length = highCnt us x := fun x hx => cnt_high hx
  have hcv : ∀ (W : World) (ca : Option Addr) (cc : Nat), Below w.heap.size w W → IsWords W.heap.size W ca us → Calls Tryd.prog 45 #[.agg #[.int .i64 us.length, .slice ca us.length cc]] W fun e w' => ∃ av cv, e = .returned (.tuple #[.slice av (coverL us us.length).length cv, .int .i64 0]) ∧ Below W.heap.size W w' ∧ IsPairs w'.heap.size w' av (coverL us us.length) := fun W ca cc hW hw' =>
    (Covers_ok us.length ca cc us W.heap.size hf W (hT.below hW (by omega)) hw' (by have := hW.size; omega) (Nat.le_refl _) hc').mono (by
      rintro e w' ⟨av, cv, rfl, hb, hown⟩
      exact ⟨av, cv, rfl, hb, ownsRow_pairs hown⟩)
  have hmk := run_make_row' (P := Tryd.prog) 43 3 (.int .i64 0) 8 Tryd.underlying43 info_int rfl .i64 .i64 us.length (by omega) (by omega)
  clear hc hc' hD hl hlen hz h2 h3
  generalize coverL us us.length = L at *
  go_enter Tryd.func21, Tryd.ntmps21
  go_wp2_with (first
    | (go_at_call 40; refine hta.mono ?_; rintro e w1 ⟨ca, cc, aj, cj, am, cm, js, ms, rfl, hb1, o0, _, _, _, _⟩; generalize gath (at2 ms us.length) 0 us.length = bt at *; generalize gath (at2 js us.length) 0 us.length = tp at *; obtain ⟨_, _, ew, hwC⟩ := ownsRow_words o0; cases ew; have hB1 : Below w.heap.size w w1 := hb0.trans (hb1.mono (by omega)); have hs1 := hB1.size; have hA1 : Below w1.heap.size w1 (w1.alloc (.cells #[.int .i64 us.length, .slice ca us.length cc, .slice aj (us.length * us.length) cj, .slice am (us.length * us.length) cm, .int .i64 (bt : Nat), .int .i64 (tp : Nat)] 69)) := (Below.refl _ _).alloc (Nat.le_refl _) _; have s1 := hcv (w1.alloc (.cells #[.int .i64 us.length, .slice ca us.length cc, .slice aj (us.length * us.length) cj, .slice am (us.length * us.length) cm, .int .i64 (bt : Nat), .int .i64 (tp : Nat)] 69)) ca cc (hB1.trans (hA1.mono hs1)) (IsWords.mono (by simp) (hwC.below hA1)))
    | (go_at_call 45; refine s1.mono ?_; rintro e w2 ⟨av, cv, rfl, hb2, hP2⟩; have rT := row_below (Row.new w1 69 [.int .i64 us.length, .slice ca us.length cc, .slice aj (us.length * us.length) cj, .slice am (us.length * us.length) cm, .int .i64 (bt : Nat), .int .i64 (tp : Nat)]) hb2 (by simp); have lT := rT.lt; have t0 := rT.cell (i := 0) rfl; have hB2 : Below w.heap.size w w2 := (hB1.trans (hA1.mono hs1)).trans (hb2.mono (by simp; omega))))
  obtain ⟨V, hV⟩ : ∃ V, V = (w2.alloc (.cells (madeCells #[Value.int .i64 0] us.length) 3)).alloc (.cells (madeCells #[Value.int .i64 0] us.length) 3) := ⟨_, rfl⟩
  rw [← hV]
  rw [ivals_replicate] at hV
  obtain ⟨v1, v2, hbV, hsV⟩ := rows_two w2 3 3 (ivals (List.replicate us.length 0)) (ivals (List.replicate us.length 0)) hV.symm
  have hPV : IsPairs w2.heap.size V av L := hP2.below hbV
  have hBV : Below w.heap.size w V := hB2.trans (hbV.mono hB2.size)
  have hs2 := hB2.size
  clear hV hmk hta hcv s1 hb1 hb2 hA1 hwC rT lT t0 hP2 r0 hb0 hs0 o0 hB1
  go_loopw [39] (fun i wr => ∃ (k : Nat) (l1 l2 : List Nat), k ≤ L.length ∧ i = .int .i64 k ∧ Below w2.heap.size V wr ∧ Row wr w2.heap.size 3 (ivals l1) ∧ Row wr (w2.heap.size + 1) 3 (ivals l2) ∧ l1.length = us.length ∧ l2.length = us.length ∧ (∀ x, x < us.length → wd l1 x = cntTo Prod.snd L x k) ∧ (∀ x, x < us.length → wd l2 x = cntTo Prod.fst L x k)) (fun i _ => L.length - (intOf i).toNat)
  case atStart => exact ⟨0, _, _, Nat.zero_le _, rfl, Below.refl _ _, v1, v2, by simp, by simp, fun x hx => by rw [wd_replicate]; rfl, fun x hx => by rw [wd_replicate]; rfl⟩
  case round =>
    obtain ⟨k, l1, l2, hk, rfl, hbr, r1, r2, hl1, hl2, hc1, hc2⟩ := hrel
    have hsr := hbr.size
    by_cases hlt : k < L.length
    · obtain ⟨b, rfl, hbb, hca, hcb⟩ := (hPV.below hbr).at hlt
      obtain ⟨hx, hy⟩ := hmem k hlt
      have hgd : L.getD k (0, 0) = L[k] := by rw [List.getD_eq_getElem?_getD, List.getElem?_eq_getElem hlt]; rfl
      generalize L[k] = p at *
      obtain ⟨x, y⟩ := p
      simp only at hx hy hca hcb
      have hbw : b < wr.heap.size := by omega
      have d1 := r1.cell (ivals_at (show y < l1.length by omega))
      have d2 := r2.cell (ivals_at (show x < l2.length by omega))
      have f1 := r1.frozen y
      have f2 := r2.frozen x
      have lt1 := r1.lt
      have lt2 := r2.lt
      have b1 : wd l1 y ≤ 256 := by rw [hc1 y hy]; exact Nat.le_trans (cntTo_le _ _ _ _) (by omega)
      have b2 : wd l2 x ≤ 256 := by rw [hc2 x hx]; exact Nat.le_trans (cntTo_le _ _ _ _) (by omega)
      have hw1 : IntKind.i64.wrap (((wd l1 y : Nat) : Int) + 1) = ((wd l1 y + 1 : Nat) : Int) := by rw [IntWalk.i64_in _ (by omega)]; omega
      have hw2 : IntKind.i64.wrap (((wd l2 x : Nat) : Int) + 1) = ((wd l2 x + 1 : Nat) : Int) := by rw [IntWalk.i64_in _ (by omega)]; omega
      have hyl : (y : Int) < (us.length : Int) := by omega
      have hxl : (x : Int) < (us.length : Int) := by omega
      have HC1 := hide hc1
      have HC2 := hide hc2
      have HG := hide hgd
      obtain ⟨z1, ez1⟩ : ∃ z, wd l1 y = z := ⟨_, rfl⟩
      obtain ⟨z2, ez2⟩ : ∃ z, wd l2 x = z := ⟨_, rfl⟩
      rw [ez1] at d1 hw1 b1
      rw [ez2] at d2 hw2 b2
      have E1 := hide ez1
      have E2 := hide ez2
      clear hc1 hc2 hgd ez1 ez2 hcl hch hmem
      go_wp2
      refine ⟨⟨k + 1, l1.set y (z1 + 1), l2.set x (z2 + 1), by omega, by go_num, ((hbr.setCell (p := ⟨w2.heap.size, y, none⟩) (Nat.le_refl _) _).setCell (p := ⟨w2.heap.size + 1, x, none⟩) (by simp) _).alloc (by simp; omega) _, ?_, ?_, by simp [hl1], by simp [hl2], fun v hv => ?_, fun v hv => ?_⟩, by simp [intOf]; omega⟩
      · rw [← ivals_set]; exact ((r1.set y _).other (by omega) _ _).alloc _
      · rw [← ivals_set]; exact ((r2.other (by omega) _ _).set x _).alloc _
      · rw [wd_set (by omega)]
        show _ = cntTo Prod.snd L v k + if Prod.snd (L.getD k (0, 0)) = v then 1 else 0
        rw [HG.out]
        by_cases e : y = v
        · subst e; rw [if_pos rfl, if_pos rfl, ← HC1.out y hv, E1.out]
        · rw [if_neg e, if_neg e, HC1.out v hv]; rfl
      · rw [wd_set (by omega)]
        show _ = cntTo Prod.fst L v k + if Prod.fst (L.getD k (0, 0)) = v then 1 else 0
        rw [HG.out]
        by_cases e : x = v
        · subst e; rw [if_pos rfl, if_pos rfl, ← HC2.out x hv, E2.out]
        · rw [if_neg e, if_neg e, HC2.out v hv]; rfl
    · obtain rfl : k = L.length := by omega
      have o1 := ones_any (some ⟨w2.heap.size, 0, none⟩) us.length l1 wr.heap.size (by omega) wr (r1.ints r1.lt) (Nat.le_refl _)
      rw [ones_low hl1 (fun x hx => (hc1 x hx).trans (hcl x hx)), hl1] at o1
      have o2 : ∀ W, Below wr.heap.size wr W → Calls Tryd.prog 46 #[.slice (some ⟨w2.heap.size + 1, 0, none⟩) us.length us.length] W fun e w' => ∃ av cv, e = .returned (.slice av (highIrr us).length cv) ∧ Below W.heap.size W w' ∧ w'.ownsRow W.heap.size 3 1 (.slice av (highIrr us).length cv) (highIrr us).length (ivals (highIrr us)) := fun W hW => by
        have := ones_any (some ⟨w2.heap.size + 1, 0, none⟩) us.length l2 wr.heap.size (by omega) W ((r2.ints r2.lt).below hW) hW.size
        rw [ones_high hl2 (fun x hx => (hc2 x hx).trans (hch x hx)), hl2] at this
        exact this
      go_wp2_with (first
        | (go_at_call 46; refine o1.mono ?_; rintro e w3 ⟨a1, c1, rfl, hb3, ow1⟩; have s2 := o2 w3 hb3; clear o1)
        | (go_at_call 46; refine s2.mono ?_; rintro e w4 ⟨a2, c2, rfl, hb4, ow2⟩))
      refine bodyPost_ret (v := .tuple #[.slice a1 (lowIrr us).length c1, .slice a2 (highIrr us).length c2, .int .i64 0]) (by simp [results, Tryd.results21, go_sem]) rfl ⟨a1, c1, a2, c2, rfl, ?_, ?_, ?_⟩
      · exact ((hBV.trans (hbr.mono hs2)).trans (hb3.mono (by have := hBV.size; omega))).trans (hb4.mono (by have := hb3.size; have := hBV.size; omega))
      · exact ownsRow_ints (ownsRow_below ow1 hb4)
      · exact ownsRow_ints ow2
end Go.Proofs.YtdomcjfgmnpbmaaDoor

namespace Go.Proofs.YtdomcjfgmnpbmaaDoor
open Go.RowKit Go.Shelf

/-- those of the first k of l that are below x -/
def belowOf (us l : List Nat) (x : Nat) : Nat → Nat
  | 0 => 0
  | k + 1 => if hasB (wd us (wd l k)) x then orW (belowOf us l x k) (bitW (wd l k)) else belowOf us l x k
theorem belowOf_lt (us l : List Nat) (hl : ∀ i, i < l.length → wd l i < 32) (x : Nat) : ∀ k, k ≤ l.length → belowOf us l x k < 4294967296
  | 0, _ => by unfold belowOf; decide
  | k + 1, hk => by
    unfold belowOf
    split
    · exact orW_lt (belowOf_lt us l hl x k (by omega)) (bitW_lt (hl k (by omega)))
    · exact belowOf_lt us l hl x k (by omega)
/-- the first m of them, as a list -/
def birkL (us l : List Nat) (m : Nat) : List Nat := (List.range m).map fun x => belowOf us l x l.length
theorem birkL_len (us l : List Nat) (m : Nat) : (birkL us l m).length = m := by simp [birkL]
theorem birkL_succ (us l : List Nat) (m : Nat) : birkL us l (m + 1) = birkL us l m ++ [belowOf us l m l.length] := by
  unfold birkL; rw [List.range_succ, List.map_append]; rfl
theorem wd_birkL (us l : List Nat) {m x : Nat} (h : x < m) : wd (birkL us l m) x = belowOf us l x l.length := by
  unfold birkL wd
  rw [List.getD_eq_getElem?_getD, List.getElem?_map, List.getElem?_range h]; rfl
theorem birkL_eq {us l ws : List Nat} {m : Nat} (hl : ws.length = m) (h : ∀ x, x < m → wd ws x = belowOf us l x l.length) : ws = birkL us l m := by
  apply List.ext_getElem
  · rw [hl, birkL_len]
  · intro i h1 h2
    have h3 := h i (by omega)
    rw [← wd_birkL us l (m := m) (by omega)] at h3
    unfold wd at h3
    simpa [List.getD_eq_getElem?_getD, List.getElem?_eq_getElem h1, List.getElem?_eq_getElem h2] using h3

set_option maxRecDepth 100000 in
set_option maxHeartbeats 1000000 in
def birkErr (c : Int) : Ending := .returned (.tuple #[.slice none 0 0, .int .i64 c])
set_option maxRecDepth 100000 in
set_option maxHeartbeats 1000000 in
theorem Birk_err (n : Int) (a : Option Addr) (len cap : Nat) (c : Int) (hc : c ≠ 0) (w : World) (ht : ∀ W, Below w.heap.size w W → Calls Tryd.prog 21 #[.agg #[.int .i64 n, .slice a len cap]] W fun e w' => e = irrErr c ∧ Below W.heap.size W w') :
    Calls Tryd.prog 19 #[.agg #[.int .i64 n, .slice a len cap]] w fun e w' => e = birkErr c ∧ Below w.heap.size w w' := by
  obtain ⟨r0, hb0, hs0⟩ := one_row w 24 (.int .i64 n) (.slice a len cap) rfl
  have h1 := ht _ hb0
  unfold irrErr at h1
  have hne : (c != 0) = true := by rw [bne_iff_ne]; exact hc
  have Hb := hide hb0
  clear hc ht hb0
  go_enter Tryd.func19, Tryd.ntmps19
  go_wp2_with (go_at_call 21; refine h1.mono ?_; rintro e w1 ⟨rfl, hb1⟩)
  go_ret2
  exact ⟨rfl, Hb.out.trans (hb1.mono (by omega))⟩

set_option maxRecDepth 100000 in
set_option maxHeartbeats 2000000 in
theorem Birk_ok (a : Option Addr) (cap : Nat) (us ds : List Nat) (n₀ : Nat) (hf : Fit us) (w : World) (hT : TabAt w) (hw : IsWords n₀ w a us) (hg : 0 < n₀) (hn₀ : n₀ ≤ w.heap.size) (hc : codeOf us.length us = 0) (hD : Tur us us.length [] ds) (hl : latB us ds = true) :
    Calls Tryd.prog 19 #[.agg #[.int .i64 us.length, .slice a us.length cap]] w fun e w' => ∃ g, e = .returned (.tuple #[.slice (some ⟨g, 0, none⟩) us.length us.length, .int .i64 0]) ∧ Below w.heap.size w w' ∧ w.heap.size ≤ g ∧ Row w' g 53 (wvals (birkL us (lowIrr us) us.length)) := by
  have hl16 : us.length ≤ 16 := by have := code_zero hc; omega
  obtain ⟨r0, hb0, hs0⟩ := one_row w 24 (.int .i64 us.length) (.slice a us.length cap) rfl
  have s1 := Irr_ok us.length a cap us ds n₀ hf _ (hT.below hb0 (by omega)) (hw.below (hb0.mono hn₀)) hg (by omega) hc hD hl
  have hmk := run_make_row' (P := Tryd.prog) 22 53 (.int .u32 0) 4 Tryd.underlying22 info_u32 rfl .i64 .i64 us.length (by omega) (by omega)
  have hll : (lowIrr us).length ≤ 16 := by
    unfold lowIrr
    have := List.length_filter_le (fun x => decide (lowCnt us x = 1)) (List.range us.length)
    simp at this
    omega
  have hlow : ∀ i, i < (lowIrr us).length → wd (lowIrr us) i < us.length := fun i hi => by
    have hm : wd (lowIrr us) i ∈ lowIrr us := by
      unfold wd
      rw [List.getD_eq_getElem?_getD, List.getElem?_eq_getElem hi]
      exact List.getElem_mem hi
    unfold lowIrr at hm
    rw [List.mem_filter, List.mem_range] at hm
    exact hm.1
  have hmx : Tryd.prog.follows .mixedOrders = true := by kernel_rfl
  have lt0 := r0.lt
  clear hc hl hD
  generalize lowIrr us = S at *
  go_enter Tryd.func19, Tryd.ntmps19
  go_wp2_with (go_at_call 21; refine s1.mono ?_; rintro e w1 ⟨a1, c1, a2, c2, rfl, hb1, i1, i2⟩; clear s1; have q0 := row_below r0 hb1 lt0; have lq0 := q0.lt; have j0 := q0.cell (i := 0) rfl; have j1 := q0.cell (i := 1) rfl)
  obtain ⟨V, hV⟩ : ∃ V, V = w1.alloc (.cells (madeCells #[Value.int .u32 0] us.length) 53) := ⟨_, rfl⟩
  rw [← hV]
  rw [wvals_replicate] at hV
  have rV : Row V w1.heap.size 53 (wvals (List.replicate us.length 0)) := by rw [hV]; exact Row.new _ _ _
  have hbV : Below w1.heap.size w1 V := by rw [hV]; exact (Below.refl _ _).alloc (Nat.le_refl _) _
  have hs1 := hb1.size
  have hB1 : Below w.heap.size w w1 := hb0.trans (hb1.mono (by omega))
  have hwV := hw.below (hB1.mono hn₀)
  clear hV hmk j0 j1 r0 hb0 i2
  go_loopw [25] (fun i wr => ∃ (k : Nat) (ws : List Nat), k ≤ S.length ∧ i = .int .i64 k ∧ Below w1.heap.size w1 wr ∧ Row wr w1.heap.size 53 (wvals ws) ∧ ws.length = us.length ∧ (∀ x, x < us.length → wd ws x = belowOf us S x k)) (fun i _ => S.length - (intOf i).toNat)
  case atStart => exact ⟨0, _, Nat.zero_le _, rfl, hbV, rV, by simp, fun x hx => by rw [wd_replicate]; rfl⟩
  case round =>
    obtain ⟨k, ws, hk, rfl, hbr, rw0, hlw, hws⟩ := hrel
    by_cases hlt : k < S.length
    · obtain ⟨b, off, rfl, hbb, hcc⟩ := (i1.below hbr).at hlt
      have hck := hcc k hlt
      have hjn := hlow k hlt
      have hstep : ∀ x, belowOf us S x (k + 1) = if hasB (wd us (wd S k)) x then orW (belowOf us S x k) (bitW (wd S k)) else belowOf us S x k := fun x => rfl
      have hlt4 : ∀ x, belowOf us S x k < 4294967296 := fun x => belowOf_lt us S (fun i hi => by have := hlow i hi; omega) x k hk
      generalize wd S k = j at *
      have hls := rw0.lt
      have hbs := hbr.size
      clear hcc
      go_wp2
      go_loopw [31] (fun i wr' => ∃ (x : Nat) (ws' : List Nat), x ≤ us.length ∧ i = .int .i64 x ∧ Below w1.heap.size w1 wr' ∧ Row wr' w1.heap.size 53 (wvals ws') ∧ ws'.length = us.length ∧ (∀ y, y < us.length → wd ws' y = if y < x then belowOf us S y (k + 1) else belowOf us S y k)) (fun i _ => us.length - (intOf i).toNat)
      case atStart => exact ⟨0, ws, Nat.zero_le _, rfl, hbr, rw0, hlw, fun y hy => by rw [if_neg (by omega)]; exact hws y hy⟩
      case round =>
        clear hbr rw0 hls hbs hlw hws hck
        obtain ⟨x, ws', hx, rfl, hbr, rw0, hlw, hws⟩ := hrel
        have hbs := hbr.size
        by_cases hlx : x < us.length
        · have q1 := row_below q0 hbr lq0
          have j0 := q1.cell (i := 0) rfl
          have j1 := q1.cell (i := 1) rfl
          obtain ⟨b2, off2, rfl, hbb2, hcc2⟩ := (hwV.below (hbr.mono (by omega))).at hjn
          have hcj := hcc2 j hjn
          clear hcc2
          cases hb : hasB (wd us j) x with
          | false =>
            have hhas := fun W : World => dhas_any (wd us j) x (hf j) (by omega) W
            rw [hb] at hhas
            have HB := hide hb
            have HW := hide hws
            clear hb hws
            go_wp2_with (go_at_call 39; refine (hhas _).mono ?_; rintro e w' ⟨rfl, rfl⟩)
            refine ⟨⟨x + 1, ws', by omega, by go_num, hbr, rw0, hlw, fun y hy => ?_⟩, by simp [intOf]; omega⟩
            rw [HW.out y hy]
            by_cases e : y = x
            · subst e; rw [if_neg (by omega), if_pos (by omega), hstep, HB.out]; rfl
            · by_cases e2 : y < x
              · rw [if_pos e2, if_pos (by omega)]
              · rw [if_neg e2, if_neg (by omega)]
          | true =>
            have hhas := fun W : World => dhas_any (wd us j) x (hf j) (by omega) W
            rw [hb] at hhas
            have HB := hide hb
            have hwx := hws x hlx
            rw [if_neg (by omega)] at hwx
            have hl4 := hlt4 x
            have HW := hide hws
            have cx := rw0.cell (wvals_at (show x < ws'.length by omega))
            rw [hwx] at cx
            have fx := rw0.frozen x
            have hor := bits_or32 (belowOf us S x k) (bitW j) hl4 (bitW_lt (by omega))
            have hls := rw0.lt
            clear hb hws hwx
            go_wp2_with (go_at_call 39; refine (hhas _).mono ?_; rintro e w' ⟨rfl, rfl⟩)
            first | go_region_with (go_at_call 37; refine (dbit_any _ (by omega) _).mono ?_; rintro e w' ⟨rfl, rfl⟩) | fail
            all_goals
              go_wp2
              refine ⟨⟨x + 1, ws'.set x (orW (belowOf us S x k) (bitW j)), by omega, by go_num, (hbr.setCell (p := ⟨w1.heap.size, x, none⟩) (Nat.le_refl _) _).drew, ?_, by simp [hlw], fun y hy => ?_⟩, by simp [intOf]; omega⟩
              · rw [← wvals_set]; exact rw0.set x _
              · rw [wd_set (by omega)]
                by_cases e : x = y
                · subst e; rw [if_pos rfl, if_pos (by omega), hstep, HB.out]; rfl
                · rw [if_neg e, HW.out y hy]
                  by_cases e2 : y < x
                  · rw [if_pos e2, if_pos (by omega)]
                  · rw [if_neg e2, if_neg (by omega)]
        · obtain rfl : x = us.length := by omega
          go_wp2
          exact ⟨⟨k + 1, ws', by omega, by go_num, hbr, rw0, hlw, fun y hy => by rw [hws y hy, if_pos hy]⟩, by simp [intOf]; omega⟩
    · obtain rfl : k = S.length := by omega
      obtain rfl := birkL_eq hlw hws
      go_wp2
      refine bodyPost_ret (v := .tuple #[.slice (some ⟨w1.heap.size, 0, none⟩) us.length us.length, .int .i64 0]) (by simp [results, Tryd.results19, go_sem]) rfl ⟨w1.heap.size, rfl, hB1.trans (hbr.mono hB1.size), hB1.size, rw0⟩
end Go.Proofs.YtdomcjfgmnpbmaaDoor
