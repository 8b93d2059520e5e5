/- The contract of slices.SortFunc of summaries by compare: they lie there so that none comes ahead of one that lies ahead of it. -/
import Derived.Test.YtbnjbnjgfjpegaaShelfSu
import Derived.Test.YtbnjbnjgfjpegaaSumList
namespace Go.Proofs.Ytbnjbnjgfjpegaa
open Go.RowKit Go.Shelf Go.Sort

/-- a row of summaries that a call has made, cell by cell, and that it isn't frozen -/
theorem ownsRow_row3 {W : World} {base : Nat} {e : TypeId} {g cap k : Nat} {xs : List Value} (h : W.ownsRow base e 3 (.slice (some ⟨g, 0, none⟩) k cap) k xs) (hk : 0 < k) : g < W.heap.size ∧ base ≤ g ∧ ∀ i, i < k * 3 → W.cell? ⟨g, i, none⟩ = xs[i]? ∧ W.frozen? ⟨g, i, none⟩ = false := by
  rcases h.2 with ⟨h1, h2⟩ | ⟨g', cap', cur, h1, h2, h3, h4, h5, h6, h7⟩
  · omega
  · cases h1
    have r : Row W g e cur.toList := by show W.heap[g]? = _; rw [h3]
    refine ⟨(Array.getElem?_eq_some_iff.1 h3).1, h2, fun i hi => ⟨?_, r.frozen i⟩⟩
    have hx : (cur.toList.take (k * 3))[i]? = xs[i]? := by rw [h7]
    rw [List.getElem?_take, if_pos (by omega)] at hx
    rw [← hx]
    simp [World.cell?, h3]
/-- the places of a list that is not empty -/
abbrev PlS (m : Nat) := Fin (m + 1)
def encU (L : List Su) {m : Nat} (i : PlS m) : List Value := [.int .i64 (nthU L i.1).k, .int .i64 (nthU L i.1).d, .slice (nthU L i.1).a (nthU L i.1).z.length (nthU L i.1).cap]
def cmpU (L : List Su) {m : Nat} (i j : PlS m) : Int := cmpS (nthU L i.1).sm (nthU L j.1).sm
theorem lt_cmpU {L : List Su} {m n : Nat} (hok : ∀ i : PlS m, OkS n (nthU L i.1).sm) (i j : PlS m) : ltOf (cmpU L) i j = true ↔ AheadS (nthU L i.1).sm (nthU L j.1).sm := by
  unfold ltOf cmpU
  rw [decide_eq_true_iff]
  exact cmpS_neg (hok i) (hok j)
theorem swo_cmpU {L : List Su} {m n : Nat} (hok : ∀ i : PlS m, OkS n (nthU L i.1).sm) : SWO (ltOf (cmpU L (m := m))) := by
  have T := fronts_sum n
  have hl := lt_cmpU hok
  refine ⟨fun x => ?_, fun x y z h1 h2 => ?_, fun x y z h1 h2 => ?_⟩
  · rw [Bool.eq_false_iff]; intro h; exact T.irrefl (hok x) ((hl x x).1 h)
  · exact (hl x z).2 (T.trans (hok x) (hok y) (hok z) ((hl x y).1 h1) ((hl y z).1 h2))
  · rw [Bool.eq_false_iff] at *
    intro h
    have h3 := (hl x z).1 h
    by_cases e : (nthU L x.1).sm = (nthU L y.1).sm
    · exact h2 ((hl y z).2 (by rw [← e]; exact h3))
    · rcases T.total (hok x) (hok y) e with h4 | h4
      · exact h1 ((hl x y).2 h4)
      · exact h2 ((hl y z).2 (T.trans (hok y) (hok x) (hok z) h4 h3))
theorem flat_atU (L : List Su) {m : Nat} (d : Array (PlS m)) (i : Nat) (h : i < d.size) : (flatK (encU L) 3 d)[i * 3]! = .int .i64 (nthU L d[i].1).k ∧ (flatK (encU L) 3 d)[i * 3 + 1]! = .int .i64 (nthU L d[i].1).d ∧ (flatK (encU L) 3 d)[i * 3 + 2]! = .slice (nthU L d[i].1).a (nthU L d[i].1).z.length (nthU L d[i].1).cap := by
  rw [get_flatK (encU L) 3 d _ (by omega), get_flatK (encU L) 3 d _ (by omega), get_flatK (encU L) 3 d _ (by omega)]
  have e1 : i * 3 / 3 = i := by omega
  have e2 : i * 3 % 3 = 0 := by omega
  have e3 : (i * 3 + 1) / 3 = i := by omega
  have e4 : (i * 3 + 1) % 3 = 1 := by omega
  have e5 : (i * 3 + 2) / 3 = i := by omega
  have e6 : (i * 3 + 2) % 3 = 2 := by omega
  rw [e1, e2, e3, e4, e5, e6, getElem!_pos d i h]
  exact ⟨rfl, rfl, rfl⟩
theorem below_sortU (L : List Su) {m : Nat} (W : World) (b n : Nat) (d : Array (PlS m)) (os : Array Obj) (hb : b < W.heap.size) : Go.RowKit.Below b W (sortWorldK (encU L) 3 W b 0 n d os) := by
  refine ⟨rfl, rfl, rfl, size_sortWorldK_c (encU L) 3 W b 0 n d os, fun k hk => ?_⟩
  unfold sortWorldK putRowK putRow mapBlock
  show ((W.heap.modify b _) ++ os)[k]? = W.heap[k]?
  rw [Array.getElem?_append_left (by rw [Array.size_modify]; omega), Array.getElem?_modify, if_neg (by omega)]
theorem agg_sum (w : World) : (isAgg 32).run Try.prog w = .ok true w := by kernel_rfl
theorem size_sum (w : World) : (Go.sizeOf 32).run Try.prog w = .ok 3 w := by kernel_rfl
set_option maxRecDepth 100000 in
set_option maxHeartbeats 1000000 in
/-- **summaries are sorted as they stand in a front** -/
theorem ssort_any (g cap : Nat) (L : List Su) (base n n₀ : Nat) (h0 : 0 < L.length) (h64 : L.length ≤ 1048576) (hok : ∀ i, i < L.length → OkS n (nthU L i).sm) (w : World) (hI : InnerU n₀ w L) (hb : n₀ ≤ base) (hown : w.ownsRow base 32 3 (.slice (some ⟨g, 0, none⟩) L.length cap) L.length (uvals L)) :
    Calls Try.prog 23 #[.slice (some ⟨g, 0, none⟩) L.length cap, .func (.func 24) #[] #[]] w fun e w' => e = .returned (.tuple #[]) ∧ Go.RowKit.Below g w w' ∧ g < w'.heap.size ∧ base ≤ g ∧ ∃ P, OuterU (g + 1) w' (some ⟨g, 0, none⟩) P ∧ P.Perm L ∧ ∀ i j, i < j → j < P.length → ¬ AheadS (nthU P j).sm (nthU P i).sm := by
  obtain ⟨hgw, hge, hcell⟩ := ownsRow_row3 hown h0
  obtain ⟨m, hm⟩ : ∃ m, L.length = m + 1 := ⟨L.length - 1, by omega⟩
  have hok' : ∀ i : PlS m, OkS n (nthU L i.1).sm := fun i => hok i.1 (by omega)
  have eg : ∀ args w, (callFunc 24 args).run Try.prog w = .ok (.enter 24 args) w := enters_of Try.func24 (by kernel_rfl) rfl
  have hsz : (Array.ofFn (n := m + 1) fun i : PlS m => i).size = L.length := by rw [Array.size_ofFn, hm]
  have hH : HoldsK (encU L) 3 w g 0 (Array.ofFn (n := m + 1) fun i : PlS m => i) := by
    intro j hj
    rw [size_flatK, hsz] at hj
    obtain ⟨i, r, hr, rfl⟩ : ∃ i r, r < 3 ∧ j = i * 3 + r := ⟨j / 3, j % 3, by omega, by omega⟩
    have hi : i < L.length := by omega
    have hf := flat_atU L (Array.ofFn (n := m + 1) fun i : PlS m => i) i (by rw [hsz]; exact hi)
    simp only [Array.getElem_ofFn] at hf
    obtain ⟨h1, h2⟩ := hcell (i * 3 + r) hj
    obtain ⟨u1, u2, u3⟩ := uvals_at L i hi
    refine ⟨?_, by rw [Nat.zero_add]; exact h2⟩
    rw [Nat.zero_add, h1]
    match r, hr with
    | 0, _ => rw [Nat.add_zero, hf.1]; exact u1
    | 1, _ => rw [hf.2.1]; exact u2
    | 2, _ => rw [hf.2.2]; exact u3
  have hcmp : CmpLays Try.prog 24 #[] (encU L (m := m)) 3 (cmpU L (m := m)) g 0 (Array.ofFn (n := m + 1) fun i : PlS m => i).size w := fun q os dk hs x y => by
    have hx : x.1 < L.length := by have := x.2; omega
    have hy : y.1 < L.length := by have := y.2; omega
    have hB := below_sortU L w g q dk os hgw
    have hsB := hB.size
    have hc := scompare_any (nthU L x.1).k (nthU L x.1).d (nthU L x.1).a (nthU L x.1).cap (nthU L x.1).z (nthU L y.1).k (nthU L y.1).d (nthU L y.1).a (nthU L y.1).cap (nthU L y.1).z n₀ (hI _ hx).2.1 _ ((hI _ hx).1.below (hB.mono (by omega))) ((hI _ hy).1.below (hB.mono (by omega))) (by omega)
    exact hc.mono fun e w' ⟨h1, _, q, os', h2⟩ => ⟨h1, q, os', h2⟩
  have hcon := AnyQ.slices_SortFunc Try.sortSu 3 agg_sum size_sum (encU L) (fun _ => rfl) (fun x v hv => by simp [encU] at hv; rcases hv with rfl | rfl | rfl <;> rfl) (cmpU L) (swo_cmpU hok') 24 #[] g 0 cap (Array.ofFn (n := m + 1) fun i : PlS m => i) w eg hcmp hH hgw (by rw [hsz]; omega)
  change Calls Try.prog 23 _ _ _ at hcon
  rw [hsz] at hcon
  refine hcon.mono ?_
  rintro e w' ⟨rfl, d', q, os, hp, hs, rfl⟩
  have hd' : d'.size = L.length := by rw [hp.1, hsz]
  have hH' := holdsK_sortWorldK_c (encU L) 3 w g 0 _ d' q os hH hgw (by rw [hd', hsz])
  have hperm : (d'.toList.map fun i => nthU L i.1).Perm L := by
    have h1 := hp.2.2
    have e1 : (d'.extract 0 L.length).toList = d'.toList := by rw [← hd']; simp
    have key : ∀ A : Array (PlS m), (A.extract 0 A.size).toList = A.toList := fun A => by simp
    have e2 : ((Array.ofFn (n := m + 1) fun i : PlS m => i).extract 0 L.length).toList = (Array.ofFn (n := m + 1) fun i : PlS m => i).toList := by
      have h3 := key (Array.ofFn (n := m + 1) fun i : PlS m => i)
      rw [hsz] at h3
      exact h3
    rw [e1, e2] at h1
    have h2 := h1.map fun i : PlS m => nthU L i.1
    have e3 : ((Array.ofFn (n := m + 1) fun i : PlS m => i).toList.map fun i : PlS m => nthU L i.1) = L := by
      apply List.ext_getElem
      · simp [hm]
      · intro i h3 h4
        simp only [List.getElem_map, Array.getElem_toList, Array.getElem_ofFn]
        exact nthU_get h4
    rw [e3] at h2
    exact h2
  have hnth : ∀ i (h : i < d'.size), nthU (d'.toList.map fun i => nthU L i.1) i = nthU L d'[i].1 := fun i h => by
    have e4 : (d'.toList.map fun i => nthU L i.1)[i]? = some (nthU L d'[i].1) := by
      rw [List.getElem?_map, Array.getElem?_toList, Array.getElem?_eq_getElem h]; rfl
    show (d'.toList.map fun i => nthU L i.1).getD i su0 = _
    rw [List.getD_eq_getElem?_getD, e4]; rfl
  refine ⟨rfl, below_sortU L w g q d' os hgw, Nat.lt_of_lt_of_le hgw (below_sortU L w g q d' os hgw).size, hge, _, .inr ⟨g, 0, rfl, by omega, fun i hi => ?_⟩, hperm, fun i j hij hj => ?_⟩
  · rw [List.length_map, Array.length_toList] at hi
    rw [hnth i hi]
    have hf := flat_atU L d' i hi
    have g1 := (hH' (i * 3) (by rw [size_flatK]; omega)).1
    have g2 := (hH' (i * 3 + 1) (by rw [size_flatK]; omega)).1
    have g3 := (hH' (i * 3 + 2) (by rw [size_flatK]; omega)).1
    rw [Nat.zero_add] at g1 g2 g3
    rw [hf.1] at g1
    rw [hf.2.1] at g2
    rw [hf.2.2] at g3
    rw [Nat.zero_add]
    exact ⟨g1, g2, g3⟩
  · rw [List.length_map, Array.length_toList] at hj
    rw [hnth i (by omega), hnth j hj]
    have h5 := hs i j (Nat.zero_le _) hij (by omega)
    rw [getElem!_pos d' i (by omega), getElem!_pos d' j hj] at h5
    intro h6
    have := (lt_cmpU hok' d'[j] d'[i]).2 h6
    rw [this] at h5
    cases h5
end Go.Proofs.Ytbnjbnjgfjpegaa
