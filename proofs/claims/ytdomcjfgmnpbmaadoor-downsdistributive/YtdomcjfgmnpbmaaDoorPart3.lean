/- Marks of ranges over a function that were left in a loop: each block of deferred calls is empty, and shut at the function's end; slices of words in memory. Plain mathematics of orders as lists of words: when one may be, and its number of what is wrong. -/
import Derived.Test.YtdomcjfgmnpbmaaDoorPart2
import Derived.WalkSmall
import Derived.Deep.OwnRows
import Derived.Test.YtdomcjfgmnpbmaaDoorWords
namespace Go.Proofs.YtdomcjfgmnpbmaaDoor
open Go.RowKit Go.Shelf

theorem keeps_drewN (W : World) (n : Nat) : KeepsOthers W (W.drewN n) := ⟨Nat.le_refl _, fun _ _ h _ => h⟩
def mark (D : Nat) : Deferred := { target := .collected D, args := #[] }
/-- the marks on an activation, the newest first: each names a block in n₀ .. B - 1 that holds no deferred call -/
def Marks (n₀ : Nat) (W : World) : Nat → List Deferred → Prop
  | _, [] => True
  | B, d :: ds => ∃ D, d = { target := .collected D, args := #[] } ∧ n₀ ≤ D ∧ D < B ∧ W.heap[D]? = some (.deferred (some [])) ∧ Marks n₀ W D ds
theorem Marks.mono {n₀ : Nat} {W : World} {B B' : Nat} (h : B ≤ B') : ∀ {ds : List Deferred}, Marks n₀ W B ds → Marks n₀ W B' ds
  | [], _ => trivial
  | _ :: _, ⟨D, h1, h2, h3, h4, h5⟩ => ⟨D, h1, h2, by omega, h4, h5⟩
theorem Marks.keeps {n₀ : Nat} {W W' : World} (h : ∀ k, n₀ ≤ k → W.heap[k]? = some (.deferred (some [])) → W'.heap[k]? = some (.deferred (some []))) :
    ∀ {B : Nat} {ds : List Deferred}, Marks n₀ W B ds → Marks n₀ W' B ds
  | _, [], _ => trivial
  | _, _ :: _, ⟨D, h1, h2, h3, h4, h5⟩ => ⟨D, h1, h2, h3, h D h2 h4, Marks.keeps h h5⟩
theorem Marks.from {n₀ : Nat} {W W' : World} (h : KeepsFrom n₀ W W') {B : Nat} {ds : List Deferred} (hm : Marks n₀ W B ds) : Marks n₀ W' B ds :=
  hm.keeps (fun k hk h0 => h.same k _ hk h0 rfl)
theorem Marks.others {n₀ : Nat} {W W' : World} (h : KeepsOthers W W') {B : Nat} {ds : List Deferred} (hm : Marks n₀ W B ds) : Marks n₀ W' B ds := hm.from (h.from _)
/-- a turn of a block at or beyond B leaves marks below B -/
theorem Marks.grown {n₀ : Nat} {W W' : World} {row : Option Nat} (hg : W.grownBy W' row) : ∀ {B : Nat} {ds : List Deferred}, (∀ r, row = some r → B ≤ r) → Marks n₀ W B ds → Marks n₀ W' B ds
  | _, [], _, _ => trivial
  | B, _ :: _, hr, ⟨D, h1, h2, h3, h4, h5⟩ => ⟨D, h1, h2, h3, (hg.block D (Array.getElem?_eq_some_iff.1 h4).1 (fun e => by have := hr D e.symm; omega)).trans h4, Marks.grown hg (fun r e => by have := hr r e; omega) h5⟩
theorem marks_own {β : Type} {n₀ B C : Nat} (h : B ≤ C) (ds : List Deferred) : OwnFrom C (fun (_ : β) W => Marks n₀ W B ds) :=
  fun _ _ _ _ hs hg hr => hs.grown hg (fun r e => by have := (hr r e).1; omega)

theorem ownFrom_ex {β γ : Type} {B : Nat} {I : γ → β → World → Prop} (h : ∀ c, OwnFrom B (I c)) : OwnFrom B (fun s W => ∃ c, I c s W) :=
  fun s X Y row hs hg hr => let ⟨c, hc⟩ := hs; ⟨c, h c s X Y row hc hg hr⟩

/-- **the way out of a function that bears marks** -/
theorem leaves_marks {F : Fence} {n : Nat} {P : Program} {fn : Func} {tmps : Array Value} {R : Ending → World → Prop} {n₀ : Nat} {G : Unit → World → Prop} (hG : OwnFrom n₀ G)
    (fin : ∀ W, G () W → ∃ v, (results fn tmps).run P W = .ok v W ∧ R (.returned v) W) :
    ∀ (ds : List Deferred) (B : Nat) (W : World), Marks n₀ W B ds → G () W → LeavesInM F n P fn tmps R ds .returning W
  | [], _, W, _, h => fin W h
  | d :: ds, B, W, ⟨D, h1, h2, h3, h4, h5⟩, h => by
    refine ⟨by simp, .inl ⟨D, _, by rw [h1], run_takeDeferred h4, ?_⟩⟩
    exact leaves_marks hG fin ds D _ (h5.grown (grownBy_putObj' W D (.deferred none)) (fun r e => by cases e; exact Nat.le_refl _)) (hG.putObj _ h h2 h4 rfl)

theorem two_boxes (W : World) (t1 t2 : TypeId) (v1 v2 : Value) {W2 : World} (h : ((W.alloc (.cells #[v1] t1)).alloc (.cells #[v2] t2)) = W2) :
    Boxed W2 W.heap.size t1 v1 ∧ Boxed W2 (W.heap.size + 1) t2 v2 ∧ W2.heap.size = W.heap.size + 2 ∧ Below W.heap.size W W2 ∧ KeepsOthers W W2 ∧ (∀ B t v, Boxed W B t v → Boxed W2 B t v) := by
  subst h
  have b2 := Boxed.new (W.alloc (.cells #[v1] t1)) t2 v2
  simp only [World.size_alloc] at b2
  exact ⟨(Boxed.new W t1 v1).alloc _, b2, by simp, ((Below.refl _ _).alloc (Nat.le_refl _) _).alloc (by simp) _,
    (KeepsOthers.alloc _ _).trans (KeepsOthers.alloc _ _), fun B t v hb => (hb.alloc _).alloc _⟩
theorem three_boxes (W : World) (t1 t2 t3 : TypeId) (v1 v2 v3 : Value) {W2 : World} (h : (((W.alloc (.cells #[v1] t1)).alloc (.cells #[v2] t2)).alloc (.cells #[v3] t3)).drew = W2) :
    Boxed W2 W.heap.size t1 v1 ∧ Boxed W2 (W.heap.size + 1) t2 v2 ∧ Boxed W2 (W.heap.size + 1 + 1) t3 v3 ∧ W2.heap.size = W.heap.size + 3 ∧ Below W.heap.size W W2 ∧ KeepsOthers W W2 ∧ (∀ B t v, Boxed W B t v → Boxed W2 B t v) := by
  subst h
  have b2 := Boxed.new (W.alloc (.cells #[v1] t1)) t2 v2
  have b3 := Boxed.new ((W.alloc (.cells #[v1] t1)).alloc (.cells #[v2] t2)) t3 v3
  simp only [World.size_alloc] at b2 b3
  exact ⟨((Boxed.new W t1 v1).alloc _).alloc _, b2.alloc _, b3, by simp, ((((Below.refl _ _).alloc (Nat.le_refl _) _).alloc (by simp) _).alloc (by simp; omega) _).drew,
    (((KeepsOthers.alloc _ _).trans (KeepsOthers.alloc _ _)).trans (KeepsOthers.alloc _ _)).trans (KeepsOthers.drew _), fun B t v hb => ((hb.alloc _).alloc _).alloc _⟩

/-- block B is a row of the values vs, each of type t -/
def Row (W : World) (B : Nat) (t : TypeId) (vs : List Value) : Prop := W.heap[B]? = some (.cells vs.toArray t (0, 0))
theorem Row.lt {W : World} {B : Nat} {t : TypeId} {vs : List Value} (h : Row W B t vs) : B < W.heap.size := (Array.getElem?_eq_some_iff.1 h).1
theorem Row.cell {W : World} {B : Nat} {t : TypeId} {vs : List Value} (h : Row W B t vs) {i : Nat} {v : Value} (hv : vs[i]? = some v) : W.cell? ⟨B, i, none⟩ = some v := by simp [World.cell?, show W.heap[B]? = _ from h, hv]
theorem Row.frozen {W : World} {B : Nat} {t : TypeId} {vs : List Value} (h : Row W B t vs) (i : Nat) : W.frozen? ⟨B, i, none⟩ = false := by simp [World.frozen?, show W.heap[B]? = _ from h]
theorem Row.new (W : World) (t : TypeId) (vs : List Value) : Row (W.alloc (.cells vs.toArray t)) W.heap.size t vs := World.alloc_heap_new W _
theorem Row.kept {W W' : World} {row : Option Nat} {B : Nat} {t : TypeId} {vs : List Value} (h : Row W B t vs) (hg : W.grownBy W' row) (hne : some B ≠ row) : Row W' B t vs := (hg.block B h.lt hne).trans h
theorem Row.alloc {W : World} {B : Nat} {t : TypeId} {vs : List Value} (h : Row W B t vs) (o : Obj) : Row (W.alloc o) B t vs := h.kept (World.grownBy_alloc W o none) (by simp)
theorem Row.set {W : World} {B : Nat} {t : TypeId} {vs : List Value} (h : Row W B t vs) (i : Nat) (v : Value) : Row (W.setCell ⟨B, i, none⟩ v) B t (vs.set i v) := by
  obtain ⟨hlt, hk⟩ := Array.getElem?_eq_some_iff.1 h
  show (W.heap.modify B _)[B]? = _
  rw [Array.getElem?_eq_getElem (by rw [Array.size_modify]; exact hlt), Array.getElem_modify_self, hk]
  simp
theorem grownBy_setCellAt (W : World) (b i : Nat) (v : Value) : W.grownBy (W.setCell ⟨b, i, none⟩ v) (some b) :=
  ⟨rfl, rfl, rfl, (KeepsWalks.setCell W _ v).size, fun k _ hk => Below.heap_setCell _ _ _ k (fun e => hk (by rw [e]))⟩
theorem Row.other {W : World} {B : Nat} {t : TypeId} {vs : List Value} (h : Row W B t vs) {b : Nat} (hne : B ≠ b) (i : Nat) (v : Value) : Row (W.setCell ⟨b, i, none⟩ v) B t vs :=
  h.kept (grownBy_setCellAt W b i v) (fun e => hne (by cases e; rfl))
theorem boxed_otherAt {W : World} {B : Nat} {t : TypeId} {u : Value} (h : Boxed W B t u) {b : Nat} (hne : B ≠ b) (i : Nat) (v : Value) : Boxed (W.setCell ⟨b, i, none⟩ v) B t u :=
  h.kept (grownBy_setCellAt W b i v) (fun e => hne (by cases e; rfl))
theorem row_own {β : Type} (B : Nat) (t : TypeId) (f : β → List Value) : Own (fun s W => Row W B t (f s)) := fun s X Y row hs hg hrow =>
  hs.kept hg (fun e' => by obtain ⟨o, ho, hc⟩ := hrow B e'.symm; rw [show X.heap[B]? = _ from hs] at ho; cases ho; cases hc)
/-- words as values -/
def wvals (us : List Nat) : List Value := us.map fun x => Value.int .u32 ((x : Nat) : Int)
theorem wvals_at {us : List Nat} {i : Nat} (h : i < us.length) : (wvals us)[i]? = some (.int .u32 ((wd us i : Nat) : Int)) := by
  unfold wvals wd; simp [List.getElem?_map, List.getElem?_eq_getElem h, List.getD_eq_getElem?_getD]
theorem wvals_set (us : List Nat) (i x : Nat) : (wvals us).set i (.int .u32 ((x : Nat) : Int)) = wvals (us.set i x) := by
  unfold wvals; rw [List.map_set]
theorem wvals_replicate (n : Nat) : (madeCells #[Value.int .u32 0] n) = (wvals (List.replicate n 0)).toArray := by
  unfold madeCells wvals
  apply Array.ext
  · simp
  · intro i h1 h2; simp [Nat.mod_one]
theorem wd_set {us : List Nat} {i x j : Nat} (h : i < us.length) : wd (us.set i x) j = if i = j then x else wd us j := by
  unfold wd; rw [List.getD_eq_getElem?_getD, List.getD_eq_getElem?_getD, List.getElem?_set]
  by_cases e : i = j
  · subst e; simp [h]
  · simp [e]
theorem wd_replicate (n i : Nat) : wd (List.replicate n 0) i = 0 := by
  unfold wd; rw [List.getD_eq_getElem?_getD, List.getElem?_replicate]; split <;> rfl
/-- a slice over words: the first words of it, in blocks below n₀ -/
def IsWords (n₀ : Nat) (W : World) (a : Option Addr) (us : List Nat) : Prop :=
  us = [] ∨ ∃ b off, a = some ⟨b, off, none⟩ ∧ b < n₀ ∧ ∀ i, i < us.length → W.cell? ⟨b, off + i, none⟩ = some (.int .u32 ((wd us i : Nat) : Int))
theorem Row.words {n₀ : Nat} {W : World} {B : Nat} {t : TypeId} {us : List Nat} (h : Row W B t (wvals us)) (hB : B < n₀) : IsWords n₀ W (some ⟨B, 0, none⟩) us :=
  .inr ⟨B, 0, rfl, hB, fun i hi => by rw [Nat.zero_add]; exact h.cell (wvals_at hi)⟩
theorem IsWords.below {n₀ : Nat} {A B : World} {a : Option Addr} {us : List Nat} (h : IsWords n₀ A a us) (hb : Below n₀ A B) : IsWords n₀ B a us := by
  rcases h with h | ⟨b, off, h1, h2, h3⟩
  · exact .inl h
  · exact .inr ⟨b, off, h1, h2, fun i hi => (hb.cell (p := ⟨b, off + i, none⟩) h2).trans (h3 i hi)⟩
theorem IsWords.mono {n₀ n₁ : Nat} (hn : n₀ ≤ n₁) {A : World} {a : Option Addr} {us : List Nat} (h : IsWords n₀ A a us) : IsWords n₁ A a us := by
  rcases h with h | ⟨b, off, h1, h2, h3⟩
  · exact .inl h
  · exact .inr ⟨b, off, h1, by omega, h3⟩
theorem IsWords.at {n₀ : Nat} {A : World} {a : Option Addr} {us : List Nat} (h : IsWords n₀ A a us) {i : Nat} (hi : i < us.length) :
    ∃ b off, a = some ⟨b, off, none⟩ ∧ b < n₀ ∧ ∀ i, i < us.length → A.cell? ⟨b, off + i, none⟩ = some (.int .u32 ((wd us i : Nat) : Int)) := by
  rcases h with h | h
  · subst h; simp at hi
  · exact h
theorem IsWords.cell {n₀ : Nat} {A : World} {b off : Nat} {us : List Nat} (h : IsWords n₀ A (some ⟨b, off, none⟩) us) {i : Nat} (hi : i < us.length) : b < n₀ ∧ A.cell? ⟨b, off + i, none⟩ = some (.int .u32 ((wd us i : Nat) : Int)) := by
  obtain ⟨b', off', h1, h2, h3⟩ := h.at hi
  cases h1
  exact ⟨h2, h3 i hi⟩
/-- all words are words -/
def Fit (us : List Nat) : Prop := ∀ i, wd us i < 4294967296
end Go.Proofs.YtdomcjfgmnpbmaaDoor

namespace Go.Proofs.YtdomcjfgmnpbmaaDoor

/-- no word has an element beyond as many as there are words -/
def Inside (us : List Nat) : Prop := ∀ i, i < us.length → ∀ j, j < 32 → hasB (wd us i) j = true → j < us.length
/-- element i of an order, as A1 asks of it -/
def goodPair (us : List Nat) (i j : Nat) : Prop :=
  (i = j → hasB (wd us i) i = true) ∧ (i ≠ j → hasB (wd us i) j = true → hasB (wd us j) i = false)
def goodTri (us : List Nat) (i j k : Nat) : Prop := hasB (wd us i) j = true → hasB (wd us j) k = true → hasB (wd us i) k = true
def goodRow (us : List Nat) (i : Nat) : Prop := ∀ j, j < us.length → goodPair us i j ∧ ∀ k, k < us.length → goodTri us i j k
def IsOrd (us : List Nat) : Prop := ∀ i, i < us.length → goodRow us i
def decInside (us : List Nat) : Decidable (Inside us) := by unfold Inside; infer_instance
def decPair (us : List Nat) (i j : Nat) : Decidable (goodPair us i j) := by unfold goodPair; infer_instance
def decTri (us : List Nat) (i j k : Nat) : Decidable (goodTri us i j k) := by unfold goodTri; infer_instance
def decRow (us : List Nat) (i : Nat) : Decidable (goodRow us i) := by
  unfold goodRow
  have h1 : ∀ j, Decidable (goodPair us i j) := fun j => decPair us i j
  have h2 : ∀ j k, Decidable (goodTri us i j k) := fun j k => decTri us i j k
  infer_instance
def decOrd (us : List Nat) : Decidable (IsOrd us) := by
  unfold IsOrd
  have h1 : ∀ i, Decidable (goodRow us i) := fun i => decRow us i
  infer_instance
def insideB (us : List Nat) : Bool := @decide (Inside us) (decInside us)
def isOrdB (us : List Nat) : Bool := @decide (IsOrd us) (decOrd us)
theorem insideB_true {us : List Nat} : insideB us = true ↔ Inside us := by unfold insideB; exact @decide_eq_true_iff _ (decInside us)
theorem insideB_false {us : List Nat} : insideB us = false ↔ ¬ Inside us := by unfold insideB; exact @decide_eq_false_iff_not _ (decInside us)
theorem isOrdB_true {us : List Nat} : isOrdB us = true ↔ IsOrd us := by unfold isOrdB; exact @decide_eq_true_iff _ (decOrd us)
theorem isOrdB_false {us : List Nat} : isOrdB us = false ↔ ¬ IsOrd us := by unfold isOrdB; exact @decide_eq_false_iff_not _ (decOrd us)

/-- what is wrong with an order, by its number (A1) -/
def codeOf (n : Int) (us : List Nat) : Int :=
  if n < 0 ∨ 16 < n then 1 else if (us.length : Int) ≠ n then 2 else if insideB us = false then 2 else if isOrdB us = false then 3 else 0
theorem code_large {n : Int} {us : List Nat} (h : n < 0 ∨ 16 < n) : codeOf n us = 1 := by unfold codeOf; rw [if_pos h]
theorem code_len {n : Int} {us : List Nat} (h : ¬ (n < 0 ∨ 16 < n)) (h2 : (us.length : Int) ≠ n) : codeOf n us = 2 := by unfold codeOf; rw [if_neg h, if_pos h2]
theorem code_arg {n : Int} {us : List Nat} (h : ¬ (n < 0 ∨ 16 < n)) (h2 : (us.length : Int) = n) (h3 : insideB us = false) : codeOf n us = 2 := by
  unfold codeOf; rw [if_neg h, if_neg (by simp [h2]), if_pos h3]
theorem code_form {n : Int} {us : List Nat} (h : ¬ (n < 0 ∨ 16 < n)) (h2 : (us.length : Int) = n) (h3 : insideB us = true) (h4 : isOrdB us = false) : codeOf n us = 3 := by
  unfold codeOf; rw [if_neg h, if_neg (by simp [h2]), if_neg (by simp [h3]), if_pos h4]
theorem code_ok {n : Int} {us : List Nat} (h : ¬ (n < 0 ∨ 16 < n)) (h2 : (us.length : Int) = n) (h3 : insideB us = true) (h4 : isOrdB us = true) : codeOf n us = 0 := by
  unfold codeOf; rw [if_neg h, if_neg (by simp [h2]), if_neg (by simp [h3]), if_neg (by simp [h4])]
/-- what code 0 says -/
theorem code_zero {n : Int} {us : List Nat} (h : codeOf n us = 0) : 0 ≤ n ∧ n ≤ 16 ∧ (us.length : Int) = n ∧ Inside us ∧ IsOrd us := by
  unfold codeOf at h
  by_cases h1 : n < 0 ∨ 16 < n
  · rw [if_pos h1] at h; simp at h
  · rw [if_neg h1] at h
    by_cases h2 : (us.length : Int) ≠ n
    · rw [if_pos h2] at h; simp at h
    · rw [if_neg h2] at h
      by_cases h3 : insideB us = false
      · rw [if_pos h3] at h; simp at h
      · rw [if_neg h3] at h
        by_cases h4 : isOrdB us = false
        · rw [if_pos h4] at h; simp at h
        · exact ⟨by omega, by omega, by omega, insideB_true.1 (by simpa using h3), isOrdB_true.1 (by simpa using h4)⟩

/-- the word of i without i: what the program looks at -/
theorem row_iff {us : List Nat} (hf : ∀ i, wd us i < 4294967296) (hin : Inside us) {i : Nat} (hi : i < us.length) :
    goodRow us i ↔ hasB (wd us i) i = true ∧ ∀ j, hasB (andN (wd us i) (bitW i)) j = true → hasB (wd us j) i = false ∧ andN (wd us j) (wd us i) = 0 := by
  constructor
  · intro h
    refine ⟨(h i hi).1.1 rfl, fun j hj => ?_⟩
    rw [hasB_andN (hf i), hasB_bitW] at hj
    simp at hj
    obtain ⟨h1, h2⟩ := hj
    have hjn : j < us.length := hin i hi j (hasB_lt (hf i) h1) h1
    refine ⟨(h j hjn).1.2 h2 h1, ?_⟩
    rw [word_zero]
    intro k
    rw [hasB_andN (hf j)]
    cases hk : hasB (wd us j) k with
    | false => rfl
    | true =>
      have hkn := hin j hjn k (hasB_lt (hf j) hk) hk
      rw [(h j hjn).2 k hkn h1 hk]; rfl
  · rintro ⟨h0, h⟩ j hj
    refine ⟨⟨fun e => e ▸ h0, fun hne h1 => ?_⟩, fun k hk h1 h2 => ?_⟩
    · exact (h j (by rw [hasB_andN (hf i), hasB_bitW]; simp [h1, hne])).1
    · by_cases hne : i = j
      · subst hne; exact h2
      · have h3 := (h j (by rw [hasB_andN (hf i), hasB_bitW]; simp [h1, hne])).2
        rw [word_zero] at h3
        have h4 := h3 k
        rw [hasB_andN (hf j), h2] at h4
        simpa using h4
theorem inside_iff {us : List Nat} (hf : ∀ i, wd us i < 4294967296) : Inside us ↔ ∀ i, i < us.length → andN (wd us i) (allW us.length) = 0 := by
  constructor
  · intro h i hi
    rw [word_zero]; intro j
    rw [hasB_andN (hf i), hasB_all]
    cases hj : hasB (wd us i) j with
    | false => rfl
    | true => simp [h i hi j (hasB_lt (hf i) hj) hj]
  · intro h i hi j _ hj
    have := h i hi
    rw [word_zero] at this
    have := this j
    rw [hasB_andN (hf i), hasB_all, hj] at this
    simpa using this
def Within (x n : Nat) : Prop := ∀ i, i < 32 → hasB x i = true → i < n
def decWithin (x n : Nat) : Decidable (Within x n) := by unfold Within; infer_instance
def outsideB (x n : Nat) : Bool := !@decide (Within x n) (decWithin x n)
theorem outsideB_false {x n : Nat} : outsideB x n = false ↔ ∀ i, i < 32 → n ≤ i → hasB x i = false := by
  unfold outsideB; rw [Bool.not_eq_false', @decide_eq_true_iff _ (decWithin x n)]
  constructor
  · intro h i h1 h2; cases hb : hasB x i with
    | false => rfl
    | true => have := h i h1 hb; omega
  · intro h i h1 h2
    apply Nat.lt_of_not_le; intro h3
    rw [h i h1 h3] at h2; cases h2
theorem outsideB_true {x n : Nat} (h : ∃ i, i < 32 ∧ n ≤ i ∧ hasB x i = true) : outsideB x n = true := by
  obtain ⟨i, h1, h2, h3⟩ := h
  cases hb : outsideB x n with
  | true => rfl
  | false => rw [outsideB_false.1 hb i h1 h2] at h3; cases h3

end Go.Proofs.YtdomcjfgmnpbmaaDoor
