/- The contract of slices.SortFunc of times by their numbers: they lie there so that none is Less than one ahead of it. -/
import Derived.Test.YtdknniomgdjbfabShelfSf
import Derived.Test.YtdknniomgdjbfabTimClone
namespace Go.Proofs.Ytdknniomgdjbfab
open Go.RowKit Go.Shelf Go.Sort

theorem least1_any (a : Option Addr) (ca : Nat) (zs : List Int) (b : Option Addr) (cb : Nat) (ys : List Int) (n₀ : Nat) (hl : zs.length = ys.length) (h63 : zs.length ≤ 9223372036854775807) (w : World) (hz : ZInts n₀ w a zs) (hy : ZInts n₀ w b ys) :
    Calls Try.prog 14 #[.slice a zs.length ca, .slice b ys.length cb] w fun e w' => e = .returned (.int .i64 (cmpL zs ys)) ∧ w' = w := by
  have h1 := tcmp_any a ca zs b cb ys n₀ hl h63 w hz hy
  clear hl
  generalize cmpL zs ys = c at *
  go_enter Try.func14, Try.ntmps14
  go_wp2_with fail
  with_reducible refine h1.mono ?_
  rintro e w' ⟨rfl, rfl⟩
  go_wp2_with fail
  go_ret
  exact ⟨rfl, rfl⟩
theorem below_sort1 {α : Type} [Inhabited α] (enc : α → Value) (W : World) (b n : Nat) (d : Array α) (os : Array Obj) (hb : b < W.heap.size) : Go.RowKit.Below b W (sortWorld enc W b 0 n d os) := by
  refine ⟨rfl, rfl, rfl, ?_, fun k hk => ?_⟩
  · unfold sortWorld putRow mapBlock
    show W.heap.size ≤ ((W.heap.modify b _) ++ os).size
    simp
  · unfold sortWorld putRow mapBlock
    show ((W.heap.modify b _) ++ os)[k]? = W.heap[k]?
    rw [Array.getElem?_append_left (by rw [Array.size_modify]; omega), Array.getElem?_modify, if_neg (by omega)]
/-- a row that a call has made, cell by cell, and that it isn't frozen -/
theorem ownsRow_row {W : World} {base : Nat} {e : TypeId} {g cap k : Nat} {xs : List Value} (h : W.ownsRow base e 1 (.slice (some ⟨g, 0, none⟩) k cap) k xs) (hk : 0 < k) : g < W.heap.size ∧ base ≤ g ∧ ∀ i, i < k → W.cell? ⟨g, i, none⟩ = xs[i]? ∧ W.frozen? ⟨g, i, none⟩ = false := by
  rcases h.2 with ⟨h1, h2⟩ | ⟨g', cap', cur, h1, h2, h3, h4, h5, h6, h7⟩
  · omega
  · cases h1
    have r : Row W g e cur.toList := by show W.heap[g]? = _; rw [h3]
    refine ⟨(Array.getElem?_eq_some_iff.1 h3).1, h2, fun i hi => ⟨?_, r.frozen i⟩⟩
    have hx : (cur.toList.take (k * 1))[i]? = xs[i]? := by rw [h7]
    rw [List.getElem?_take, if_pos (by omega)] at hx
    rw [← hx]
    simp [World.cell?, h3]

/-- the places of a list that is not empty -/
abbrev Pl (m : Nat) := Fin (m + 1)
def encP (L : List Sl) {m : Nat} (i : Pl m) : Value := slv (nth L i.1)
def cmpP (L : List Sl) {m : Nat} (i j : Pl m) : Int := cmpL (nth L i.1).zs (nth L j.1).zs
theorem lt_cmpP (L : List Sl) {m : Nat} (i j : Pl m) : ltOf (cmpP L) i j = lexB (nth L i.1).zs (nth L j.1).zs := cmpL_neg
theorem swo_cmpP {L : List Sl} {m n : Nat} (hm : L.length = m + 1) (hlen : ∀ u ∈ zl L, u.length = n) : SWO (ltOf (cmpP L (m := m))) := by
  have hl : ∀ i : Pl m, (nth L i.1).zs.length = n := fun i => hlen _ (mem_zl.2 ⟨i.1, by omega, rfl⟩)
  refine ⟨fun x => ?_, fun x y z h1 h2 => ?_, fun x y z h1 h2 => ?_⟩
  · rw [lt_cmpP]; exact lexB_false.2 (lex_irrefl _)
  · rw [lt_cmpP] at *
    exact lexB_true.2 (flex_trans (lexB_true.1 h1) (lexB_true.1 h2) (by rw [hl, hl]))
  · rw [lt_cmpP] at *
    refine lexB_false.2 fun h => ?_
    have g1 := lexB_false.1 h1
    have g2 := lexB_false.1 h2
    by_cases e : (nth L x.1).zs = (nth L y.1).zs
    · rw [e] at h; exact g2 h
    · rcases flex_total (by rw [hl, hl]) e with h3 | h3
      · exact g1 h3
      · exact g2 (flex_trans h3 h (by rw [hl, hl]))

set_option maxRecDepth 100000 in
set_option maxHeartbeats 1000000 in
/-- **times are sorted by their numbers** -/
theorem tsort_any (g cap : Nat) (L : List Sl) (base n n₀ : Nat) (h0 : 0 < L.length) (h64 : L.length ≤ 64) (hlen : ∀ u ∈ zl L, u.length = n) (w : World) (hI : Inner n₀ w L) (hb : n₀ ≤ base) (hown : w.ownsRow base 23 1 (.slice (some ⟨g, 0, none⟩) L.length cap) L.length (svals L)) :
    Calls Try.prog 13 #[.slice (some ⟨g, 0, none⟩) L.length cap, .func (.func 14) #[] #[]] w fun e w' => e = .returned (.tuple #[]) ∧ Go.RowKit.Below g w w' ∧ g < w'.heap.size ∧ base ≤ g ∧ ∃ P, Outer (g + 1) w' (some ⟨g, 0, none⟩) P ∧ P.Perm L ∧ ∀ i j, i < j → j < P.length → ¬ LexZ (nth P j).zs (nth P i).zs := by
  obtain ⟨hgw, hge, hcell⟩ := ownsRow_row hown h0
  obtain ⟨m, hm⟩ : ∃ m, L.length = m + 1 := ⟨L.length - 1, by omega⟩
  have eg : ∀ args w, (callFunc 14 args).run Try.prog w = .ok (.enter 14 args) w := enters_of Try.func14 (by kernel_rfl) rfl
  have hsz : (Array.ofFn (n := m + 1) fun i : Pl m => i).size = L.length := by rw [Array.size_ofFn, hm]
  have hH : Holds (encP L) w g 0 (Array.ofFn (n := m + 1) fun i : Pl m => i) := fun j hj => by
    rw [hsz] at hj
    have e1 : (Array.ofFn (n := m + 1) fun i : Pl m => i)[j]! = (⟨j, by omega⟩ : Pl m) := by
      rw [getElem!_pos _ j (by rw [hsz]; exact hj)]; simp
    rw [e1, Nat.zero_add]
    obtain ⟨h1, h2⟩ := hcell j hj
    exact ⟨by rw [h1, svals_at hj]; rfl, h2⟩
  have hcmp : CmpLays1 Try.prog 14 #[] (encP L (m := m)) (cmpP L (m := m)) g 0 (Array.ofFn (n := m + 1) fun i : Pl m => i).size w := fun q os dk hs x y => by
    have hx : x.1 < L.length := by have := x.2; omega
    have hy : y.1 < L.length := by have := y.2; omega
    have hB := below_sort1 (encP L) w g q dk os hgw
    have hc := least1_any (nth L x.1).a (nth L x.1).cap (nth L x.1).zs (nth L y.1).a (nth L y.1).cap (nth L y.1).zs n₀ (by rw [hlen _ (mem_zl.2 ⟨x.1, hx, rfl⟩), hlen _ (mem_zl.2 ⟨y.1, hy, rfl⟩)]) (hI _ hx).2 _ ((hI _ hx).1.below (hB.mono (by omega))) ((hI _ hy).1.below (hB.mono (by omega)))
    refine hc.mono fun e w' ⟨h1, h2⟩ => ⟨h1, 0, #[], ?_⟩
    rw [h2, grow_empty]; rfl
  have hcon := Any.slices_SortFunc Try.sortSf (encP L) (fun _ => rfl) (cmpP L) (swo_cmpP hm hlen) 14 #[] g 0 cap (Array.ofFn (n := m + 1) fun i : Pl m => i) w eg hcmp hH hgw (by rw [hsz]; omega)
  change Calls Try.prog 13 _ _ _ at hcon
  rw [hsz] at hcon
  refine hcon.mono ?_
  rintro e w' ⟨rfl, d', q, os, hp, hs, rfl⟩
  have hd' : d'.size = L.length := by rw [hp.1, hsz]
  have hH' := holds_sortWorld (encP L) w g 0 q _ d' os hgw hH (by rw [hd', hsz])
  have hperm : (d'.toList.map fun i => nth L i.1).Perm L := by
    have h1 := hp.2.2
    have e1 : (d'.extract 0 L.length).toList = d'.toList := by rw [← hd']; simp
    have key : ∀ A : Array (Pl m), (A.extract 0 A.size).toList = A.toList := fun A => by simp
    have e2 : ((Array.ofFn (n := m + 1) fun i : Pl m => i).extract 0 L.length).toList = (Array.ofFn (n := m + 1) fun i : Pl m => i).toList := by
      have h3 := key (Array.ofFn (n := m + 1) fun i : Pl m => i)
      rw [hsz] at h3
      exact h3
    rw [e1, e2] at h1
    have h2 := h1.map fun i : Pl m => nth L i.1
    have e3 : ((Array.ofFn (n := m + 1) fun i : Pl m => i).toList.map fun i : Pl m => nth L i.1) = L := by
      apply List.ext_getElem
      · simp [hm]
      · intro i h3 h4
        simp only [List.getElem_map, Array.getElem_toList, Array.getElem_ofFn]
        unfold nth; simp [List.getD_eq_getElem?_getD, List.getElem?_eq_getElem h4]
    rw [e3] at h2
    exact h2
  have hnth : ∀ i (h : i < d'.size), nth (d'.toList.map fun i => nth L i.1) i = nth L (d'[i]!).1 := fun i h => by
    rw [getElem!_pos d' i h]
    have e4 : (d'.toList.map fun i => nth L i.1)[i]? = some (nth L d'[i].1) := by
      rw [List.getElem?_map, Array.getElem?_toList, Array.getElem?_eq_getElem h]; rfl
    show (d'.toList.map fun i => nth L i.1).getD i sl0 = _
    rw [List.getD_eq_getElem?_getD, e4]; rfl
  refine ⟨rfl, below_sort1 (encP L) w g q d' os hgw, Nat.lt_of_lt_of_le hgw (below_sort1 (encP L) w g q d' os hgw).size, hge, _, .inr ⟨g, 0, rfl, by omega, fun i hi => ?_⟩, hperm, fun i j hij hj => ?_⟩
  · rw [List.length_map, Array.length_toList] at hi
    rw [hnth i hi]
    exact (hH' i hi).1
  · rw [List.length_map, Array.length_toList] at hj
    rw [hnth i (by omega), hnth j hj]
    have := hs i j (Nat.zero_le _) hij (by omega)
    rw [lt_cmpP] at this
    exact lexB_false.1 this
end Go.Proofs.Ytdknniomgdjbfab
