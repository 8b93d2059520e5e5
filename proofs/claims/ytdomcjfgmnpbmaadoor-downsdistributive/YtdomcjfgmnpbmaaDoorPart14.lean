/- The contracts of the program's Count and All. Plain mathematics of the order of sets: which is within which. -/
import Derived.Test.YtdomcjfgmnpbmaaDoorPart13
import Derived.Test.YtdomcjfgmnpbmaaDoorPart6
namespace Go.Proofs.YtdomcjfgmnpbmaaDoor
open Go.RowKit Go.Shelf

theorem keeps_count {w : World} {Bt lim : Nat} (bN : Boxed w Bt 3 (.int .i64 0)) : Keeps 32 Bt lim w (InvC Bt) where
  start := fun _ h0 => ⟨KeepX.refl _ _, (h0.block _ bN.lt).trans bN⟩
  keep := fun _ _ _ h => h.1
  drew := fun _ _ _ h => h.drew
  tell := fun w₀ p s W _ _ hp hI => tellC_any Bt w₀ lim p s W hp hI
theorem keeps_all {w : World} {Bt : Nat} (bN : Boxed w Bt 22 (.slice none 0 0)) : Keeps 31 Bt 256 w (InvA Bt) where
  start := fun _ h0 => ⟨KeepX.refl _ _, by simp, _, (h0.block _ bN.lt).trans bN, by rw [wvals]; exact World.ownsRow_nil _ _ _ _⟩
  keep := fun _ _ _ h => h.1
  drew := fun _ _ _ h => h.drew
  tell := fun w₀ p s W h0 _ _ hI => tellA_any Bt w₀ (by have := bN.lt; have := h0.size; omega) p s W hI

theorem row_box (w : World) (t1 t2 : TypeId) (p0 p1 v u : Value) {W : World} (h : ((w.alloc (.cells #[p0, p1] t1)).alloc (.cells #[v] t2)).setCell ⟨w.heap.size + 1, 0, none⟩ u = W) :
    Row W w.heap.size t1 [p0, p1] ∧ Boxed W (w.heap.size + 1) t2 u ∧ Below w.heap.size w W ∧ W.heap.size = w.heap.size + 1 + 1 := by
  subst h
  have r0 : Row (w.alloc (.cells #[p0, p1] t1)) w.heap.size t1 [p0, p1] := Row.new w t1 [p0, p1]
  have b1 := Boxed.new (w.alloc (.cells #[p0, p1] t1)) t2 v
  simp only [World.size_alloc] at b1
  exact ⟨(r0.alloc _).other (by omega) _ _, b1.set _, (((Below.refl _ _).alloc (Nat.le_refl _) _).alloc (by simp) _).setCell (by simp) _, by simp⟩
theorem row_box' (w : World) (t1 t2 : TypeId) (p0 p1 v : Value) {W : World} (h : ((w.alloc (.cells #[p0, p1] t1)).alloc (.cells #[v] t2)) = W) :
    Row W w.heap.size t1 [p0, p1] ∧ Boxed W (w.heap.size + 1) t2 v ∧ Below w.heap.size w W ∧ W.heap.size = w.heap.size + 1 + 1 := by
  subst h
  have r0 : Row (w.alloc (.cells #[p0, p1] t1)) w.heap.size t1 [p0, p1] := Row.new w t1 [p0, p1]
  have b1 := Boxed.new (w.alloc (.cells #[p0, p1] t1)) t2 v
  simp only [World.size_alloc] at b1
  exact ⟨r0.alloc _, b1, ((Below.refl _ _).alloc (Nat.le_refl _) _).alloc (by simp) _, by simp⟩

set_option maxRecDepth 100000 in
set_option maxHeartbeats 1000000 in
theorem Count_ok (a : Option Addr) (cap : Nat) (us : List Nat) (n₀ : Nat) (w : World) (hR : Ready a us n₀ w) (hc : codeOf us.length us = 0) :
    Calls Tryd.prog 10 #[.agg #[.int .i64 us.length, .slice a us.length cap]] w fun e w' => ∃ ds, e = .returned (.tuple #[.int .i64 ((allD ds).length : Nat), .int .i64 0]) ∧ Tur us us.length [] ds ∧ Below w.heap.size w w' := by
  have hl16 : us.length ≤ 16 := by have := code_zero hc; omega
  obtain ⟨W1, hW1⟩ : ∃ W1, ((w.alloc (.cells #[.int .i64 us.length, .slice a us.length cap] 24)).alloc (.cells #[.int .i64 0] 3)).setCell ⟨w.heap.size + 1, 0, none⟩ (.int .i64 0) = W1 := ⟨_, rfl⟩
  obtain ⟨r0, bN, hb1, hs1⟩ := row_box w _ _ _ _ _ _ hW1
  have R1 := hR.step hb1
  have hea := each_ok 32 (.inr rfl) (w.heap.size + 1) a cap us 65536 n₀ W1 (InvC (w.heap.size + 1)) R1 (by omega) (by have := hR.le; omega) hc (keeps_count bN)
  have j0 := r0.cell (i := 0) rfl
  have j1 := r0.cell (i := 1) rfl
  have Hb := hide hb1
  clear hc hb1
  go_enter Tryd.func10, Tryd.ntmps10
  go_wp2_with (go_at_call 30; refine hea.mono ?_)
  rintro e w2 ⟨ds, w₀, hT, hb2, (⟨rfl, hh⟩ | ⟨rfl, hlt, _⟩)⟩
  · have cN := hh.2.cell
    have hk := hh.1.below (n := w.heap.size) (by have := hb2.size; omega) (fun k e => by subst e; omega)
    have HT := hide hT
    clear hT
    go_wp2
    go_ret2
    exact ⟨ds, rfl, HT.out, (Hb.out.trans (hb2.mono (by omega))).trans hk⟩
  · exfalso
    have := allD_len (ds := ds) (by rw [hT.len]; exact hl16)
    omega

set_option maxRecDepth 100000 in
set_option maxHeartbeats 1000000 in
theorem Count_bad (n : Int) (a : Option Addr) (cap : Nat) (us : List Nat) (n₀ : Nat) (w : World) (hR : Ready a us n₀ w) (hc : codeOf n us ≠ 0) :
    Calls Tryd.prog 10 #[.agg #[.int .i64 n, .slice a us.length cap]] w fun e w' => e = .returned (.tuple #[.int .i64 0, .int .i64 (codeOf n us)]) ∧ Below w.heap.size w w' := by
  obtain ⟨W1, hW1⟩ : ∃ W1, ((w.alloc (.cells #[.int .i64 n, .slice a us.length cap] 24)).alloc (.cells #[.int .i64 0] 3)).setCell ⟨w.heap.size + 1, 0, none⟩ (.int .i64 0) = W1 := ⟨_, rfl⟩
  obtain ⟨r0, bN, hb1, hs1⟩ := row_box w _ _ _ _ _ _ hW1
  have hea := each_bad (.func (.func 32) #[] #[.pointer (some ⟨w.heap.size + 1, 0, none⟩)]) n a cap us n₀ W1 (hR.step hb1) hc
  generalize codeOf n us = c at *
  have j0 := r0.cell (i := 0) rfl
  have j1 := r0.cell (i := 1) rfl
  have Hb := hide hb1
  clear hc hb1
  go_enter Tryd.func10, Tryd.ntmps10
  go_wp2_with (go_at_call 30; refine hea.mono ?_; rintro e w2 ⟨rfl, hb2⟩; have b2 : Boxed w2 (w.heap.size + 1) 3 (.int .i64 0) := (hb2.block _ bN.lt).trans bN; have cN := b2.cell)
  go_ret2
  exact ⟨rfl, Hb.out.trans (hb2.mono (by omega))⟩

/-- what All answers, where the order may be -/
def AllAns (us : List Nat) (w : World) (e : Ending) (w' : World) : Prop :=
  ∃ ds, Tur us us.length [] ds ∧ Below w.heap.size w w' ∧ ((256 < (allD ds).length ∧ e = .returned (.tuple #[.slice none 0 0, .int .i64 1])) ∨ ((allD ds).length ≤ 256 ∧ ∃ v, e = .returned (.tuple #[v, .int .i64 0]) ∧ w'.ownsRow w.heap.size 53 1 v (allD ds).length (wvals (allD ds))))

set_option maxRecDepth 100000 in
set_option maxHeartbeats 1000000 in
theorem All_ok (a : Option Addr) (cap : Nat) (us : List Nat) (n₀ : Nat) (w : World) (hR : Ready a us n₀ w) (hc : codeOf us.length us = 0) :
    Calls Tryd.prog 9 #[.agg #[.int .i64 us.length, .slice a us.length cap]] w (AllAns us w) := by
  obtain ⟨W1, hW1⟩ : ∃ W1, ((w.alloc (.cells #[.int .i64 us.length, .slice a us.length cap] 24)).alloc (.cells #[.slice none 0 0] 22)) = W1 := ⟨_, rfl⟩
  obtain ⟨r0, bN, hb1, hs1⟩ := row_box' w _ _ _ _ _ hW1
  have R1 := hR.step hb1
  have hea := each_ok 31 (.inl rfl) (w.heap.size + 1) a cap us 256 n₀ W1 (InvA (w.heap.size + 1)) R1 (by omega) (by have := hR.le; omega) hc (keeps_all bN)
  have j0 := r0.cell (i := 0) rfl
  have j1 := r0.cell (i := 1) rfl
  have Hb := hide hb1
  clear hc hb1
  go_enter Tryd.func9, Tryd.ntmps9
  go_wp2_with (go_at_call 30; refine hea.mono ?_)
  rintro e w2 ⟨ds, w₀, hT, hb2, (⟨rfl, hh⟩ | ⟨rfl, hlt, p, hh⟩)⟩
  · obtain ⟨hk0, hle, v, bV, hown⟩ := hh
    obtain ⟨av, cv, rfl, _⟩ := ownsRow_words hown
    have cN := bV.cell
    have hs2 := hb2.size
    have hk := hk0.below (n := w.heap.size) (by omega) (fun k e => by subst e; omega)
    have HT := hide hT
    have HO := hide hown
    clear hT hown
    go_wp2
    go_ret2
    exact ⟨ds, HT.out, (Hb.out.trans (hb2.mono (by omega))).trans hk, .inr ⟨hle, _, rfl, ownsRow_base HO.out (by omega)⟩⟩
  · have hs2 := hb2.size
    have hk := hh.1.below (n := w.heap.size) (by omega) (fun k e => by subst e; omega)
    have HT := hide hT
    have HL := hide hlt
    clear hT hh hlt
    go_wp2
    go_ret2
    exact ⟨ds, HT.out, (Hb.out.trans (hb2.mono (by omega))).trans hk, .inl ⟨HL.out, rfl⟩⟩

set_option maxRecDepth 100000 in
set_option maxHeartbeats 1000000 in
theorem All_bad (n : Int) (a : Option Addr) (cap : Nat) (us : List Nat) (n₀ : Nat) (w : World) (hR : Ready a us n₀ w) (hc : codeOf n us ≠ 0) :
    Calls Tryd.prog 9 #[.agg #[.int .i64 n, .slice a us.length cap]] w fun e w' => e = .returned (.tuple #[.slice none 0 0, .int .i64 (codeOf n us)]) ∧ Below w.heap.size w w' := by
  obtain ⟨W1, hW1⟩ : ∃ W1, ((w.alloc (.cells #[.int .i64 n, .slice a us.length cap] 24)).alloc (.cells #[.slice none 0 0] 22)) = W1 := ⟨_, rfl⟩
  obtain ⟨r0, bN, hb1, hs1⟩ := row_box' w _ _ _ _ _ hW1
  have hea := each_bad (.func (.func 31) #[] #[.pointer (some ⟨w.heap.size + 1, 0, none⟩)]) n a cap us n₀ W1 (hR.step hb1) hc
  generalize codeOf n us = c at *
  have hne : (c != 0) = true := by rw [bne_iff_ne]; exact hc
  have j0 := r0.cell (i := 0) rfl
  have j1 := r0.cell (i := 1) rfl
  have Hb := hide hb1
  clear hc hb1
  go_enter Tryd.func9, Tryd.ntmps9
  go_wp2_with (go_at_call 30; refine hea.mono ?_; rintro e w2 ⟨rfl, hb2⟩)
  go_ret2
  exact ⟨rfl, Hb.out.trans (hb2.mono (by omega))⟩
end Go.Proofs.YtdomcjfgmnpbmaaDoor

namespace Go.Proofs.YtdomcjfgmnpbmaaDoor

/-- is a within b? -/
def subB (a b : Nat) : Bool := decide (andN a b = 0)
theorem subB_iff {a b : Nat} (ha : a < 4294967296) : subB a b = true ↔ ∀ x, hasB a x = true → hasB b x = true := by
  unfold subB
  rw [decide_eq_true_iff, word_zero]
  constructor
  · intro h x hx
    have := h x
    rw [hasB_andN ha, hx] at this
    simpa using this
  · intro h x
    rw [hasB_andN ha]
    cases e : hasB a x with
    | false => rfl
    | true => rw [h x e]; rfl
theorem subB_or {a b : Nat} (ha : a < 4294967296) : (orW a b = b) ↔ subB a b = true := by
  rw [subB_iff ha]
  constructor
  · intro h x hx
    rw [← h, hasB_or, hx]; rfl
  · intro h
    exact word_ext' fun x => by
      rw [hasB_or, Bool.or_eq_true]
      exact ⟨fun g => g.elim (h x) id, .inr⟩
def inclW (l : List Nat) (t k : Nat) : Nat := wordOf (fun x => subB (wd l t) (wd l x)) k
/-- the words of the order, made as far as row i, and there as far as j -/
def inclTo (l : List Nat) (i j : Nat) : List Nat := (List.range l.length).map fun t => inclW l t (if t < i then l.length else if t = i then j else 0)
def inclL (l : List Nat) : List Nat := (List.range l.length).map fun t => inclW l t l.length
theorem inclTo_len (l : List Nat) (i j : Nat) : (inclTo l i j).length = l.length := by unfold inclTo; simp
theorem inclL_len (l : List Nat) : (inclL l).length = l.length := by unfold inclL; simp
theorem wd_map {f : Nat → Nat} {n t : Nat} (h : t < n) : wd ((List.range n).map f) t = f t := by
  unfold wd
  rw [List.getD_eq_getElem?_getD, List.getElem?_map, List.getElem?_range h]; rfl
theorem list_wd {a b : List Nat} (hl : a.length = b.length) (h : ∀ i, i < a.length → wd a i = wd b i) : a = b := by
  apply List.ext_getElem hl
  intro i h1 h2
  have := h i h1
  unfold wd at this
  rw [List.getD_eq_getElem?_getD, List.getD_eq_getElem?_getD, List.getElem?_eq_getElem h1, List.getElem?_eq_getElem h2] at this
  exact this
theorem inclTo_zero (l : List Nat) : inclTo l 0 0 = List.replicate l.length 0 := by
  refine list_wd (by simp [inclTo_len]) fun i hi => ?_
  rw [inclTo_len] at hi
  unfold inclTo
  rw [wd_map hi, wd_replicate, if_neg (by omega), ite_self]; rfl
theorem inclTo_next (l : List Nat) (i : Nat) : inclTo l i l.length = inclTo l (i + 1) 0 := by
  refine list_wd (by simp [inclTo_len]) fun t ht => ?_
  rw [inclTo_len] at ht
  unfold inclTo
  rw [wd_map ht, wd_map ht]
  by_cases h : t < i
  · rw [if_pos h, if_pos (by omega)]
  · by_cases e : t = i
    · rw [if_neg h, if_pos e, if_pos (by omega)]
    · rw [if_neg h, if_neg e, if_neg (by omega)]
      split <;> rfl
theorem inclTo_done (l : List Nat) : inclTo l l.length 0 = inclL l := by
  refine list_wd (by simp [inclTo_len, inclL_len]) fun t ht => ?_
  rw [inclTo_len] at ht
  unfold inclTo inclL
  rw [wd_map ht, wd_map ht, if_pos ht]
theorem inclTo_at {l : List Nat} {i j : Nat} (hi : i < l.length) : wd (inclTo l i j) i = inclW l i j := by
  unfold inclTo; rw [wd_map hi, if_neg (by omega), if_pos rfl]
theorem inclTo_yes {l : List Nat} {i j : Nat} (hi : i < l.length) (h : subB (wd l i) (wd l j) = true) : inclTo l i (j + 1) = (inclTo l i j).set i (orW (inclW l i j) (bitW j)) := by
  refine list_wd (by simp [inclTo_len]) fun t ht => ?_
  rw [inclTo_len] at ht
  rw [wd_set (by rw [inclTo_len]; exact hi)]
  unfold inclTo
  rw [wd_map ht, wd_map ht]
  by_cases e : i = t
  · subst e
    rw [if_neg (by omega), if_pos rfl, if_pos rfl]
    show wordOf _ (j + 1) = _
    unfold wordOf
    rw [if_pos h]; rfl
  · rw [if_neg e]
    by_cases h2 : t < i
    · rw [if_pos h2, if_pos h2]
    · rw [if_neg h2, if_neg h2, if_neg (fun q => e q.symm), if_neg (fun q => e q.symm)]
theorem inclTo_no {l : List Nat} {i j : Nat} (h : subB (wd l i) (wd l j) = false) : inclTo l i (j + 1) = inclTo l i j := by
  refine list_wd (by simp [inclTo_len]) fun t ht => ?_
  rw [inclTo_len] at ht
  unfold inclTo
  rw [wd_map ht, wd_map ht]
  by_cases h2 : t < i
  · rw [if_pos h2, if_pos h2]
  · rw [if_neg h2, if_neg h2]
    by_cases e : t = i
    · subst e
      rw [if_pos rfl, if_pos rfl]
      show wordOf _ (j + 1) = _
      unfold wordOf
      rw [if_neg (by rw [h]; simp)]; rfl
    · rw [if_neg e, if_neg e]
theorem inclW_lt (l : List Nat) (t : Nat) {k : Nat} (hk : k ≤ 32) : inclW l t k < 4294967296 := wordOf_lt _ hk
theorem inclW_yes {l : List Nat} {i j : Nat} (h : subB (wd l i) (wd l j) = true) : inclW l i (j + 1) = orW (inclW l i j) (bitW j) := by
  show wordOf _ (j + 1) = _
  unfold wordOf
  rw [if_pos h]; rfl
theorem inclW_no {l : List Nat} {i j : Nat} (h : subB (wd l i) (wd l j) = false) : inclW l i (j + 1) = inclW l i j := by
  show wordOf _ (j + 1) = _
  unfold wordOf
  rw [if_neg (by rw [h]; simp)]; rfl
/-- the rows made so far -/
def inclUp (l : List Nat) (i : Nat) : List Nat := (List.range i).map fun t => inclW l t l.length
theorem inclUp_succ (l : List Nat) (i : Nat) : inclUp l (i + 1) = inclUp l i ++ [inclW l i l.length] := by
  unfold inclUp; rw [List.range_succ, List.map_append]; rfl
theorem inclUp_len (l : List Nat) (i : Nat) : (inclUp l i).length = i := by unfold inclUp; simp
theorem fit_inclL {l : List Nat} (hl : l.length ≤ 16) : Fit (inclL l) := fun i => by
  by_cases h : i < l.length
  · unfold inclL; rw [wd_map h]; exact inclW_lt l i (by omega)
  · unfold wd
    rw [List.getD_eq_getElem?_getD, List.getElem?_eq_none (by rw [inclL_len]; omega)]
    decide
theorem mem_incl {l : List Nat} (hl : ∀ i, wd l i < 4294967296) {i j : Nat} (hi : i < l.length) : hasB (wd (inclL l) i) j = true ↔ j < l.length ∧ ∀ x, hasB (wd l i) x = true → hasB (wd l j) x = true := by
  unfold inclL inclW
  rw [wd_map hi, hasB_wordOf, Bool.and_eq_true, decide_eq_true_iff, subB_iff (hl i)]
end Go.Proofs.YtdomcjfgmnpbmaaDoor
