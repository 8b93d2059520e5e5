/- Marks of ranges over a function that were left in a loop: each block of deferred calls is empty, and shut at the function's end; slices of words in memory. -/
import Derived.Test.YtbnjbnjgfjpegaaIter
import Derived.WalkSmall
import Derived.Deep.OwnRows
namespace Go.Proofs.Ytbnjbnjgfjpegaa
open Go.RowKit Go.Shelf

theorem keeps_drewN (W : World) (n : Nat) : KeepsOthers W (W.drewN n) := ⟨Nat.le_refl _, fun _ _ h _ => h⟩
def mark (D : Nat) : Deferred := { target := .collected D, args := #[] }
/-- the marks on an activation, the newest first: each names a block in n₀ .. B - 1 that holds no deferred call -/
def Marks (n₀ : Nat) (W : World) : Nat → List Deferred → Prop
  | _, [] => True
  | B, d :: ds => ∃ D, d = { target := .collected D, args := #[] } ∧ n₀ ≤ D ∧ D < B ∧ W.heap[D]? = some (.deferred (some [])) ∧ Marks n₀ W D ds
theorem Marks.mono {n₀ : Nat} {W : World} {B B' : Nat} (h : B ≤ B') : ∀ {ds : List Deferred}, Marks n₀ W B ds → Marks n₀ W B' ds
  | [], _ => trivial
  | _ :: _, ⟨D, h1, h2, h3, h4, h5⟩ => ⟨D, h1, h2, by omega, h4, h5⟩
theorem Marks.keeps {n₀ : Nat} {W W' : World} (h : ∀ k, n₀ ≤ k → W.heap[k]? = some (.deferred (some [])) → W'.heap[k]? = some (.deferred (some []))) :
    ∀ {B : Nat} {ds : List Deferred}, Marks n₀ W B ds → Marks n₀ W' B ds
  | _, [], _ => trivial
  | _, _ :: _, ⟨D, h1, h2, h3, h4, h5⟩ => ⟨D, h1, h2, h3, h D h2 h4, Marks.keeps h h5⟩
theorem Marks.from {n₀ : Nat} {W W' : World} (h : KeepsFrom n₀ W W') {B : Nat} {ds : List Deferred} (hm : Marks n₀ W B ds) : Marks n₀ W' B ds :=
  hm.keeps (fun k hk h0 => h.same k _ hk h0 rfl)
theorem Marks.others {n₀ : Nat} {W W' : World} (h : KeepsOthers W W') {B : Nat} {ds : List Deferred} (hm : Marks n₀ W B ds) : Marks n₀ W' B ds := hm.from (h.from _)
/-- a turn of a block at or beyond B leaves marks below B -/
theorem Marks.grown {n₀ : Nat} {W W' : World} {row : Option Nat} (hg : W.grownBy W' row) : ∀ {B : Nat} {ds : List Deferred}, (∀ r, row = some r → B ≤ r) → Marks n₀ W B ds → Marks n₀ W' B ds
  | _, [], _, _ => trivial
  | B, _ :: _, hr, ⟨D, h1, h2, h3, h4, h5⟩ => ⟨D, h1, h2, h3, (hg.block D (Array.getElem?_eq_some_iff.1 h4).1 (fun e => by have := hr D e.symm; omega)).trans h4, Marks.grown hg (fun r e => by have := hr r e; omega) h5⟩
theorem marks_own {β : Type} {n₀ B C : Nat} (h : B ≤ C) (ds : List Deferred) : OwnFrom C (fun (_ : β) W => Marks n₀ W B ds) :=
  fun _ _ _ _ hs hg hr => hs.grown hg (fun r e => by have := (hr r e).1; omega)

theorem ownFrom_ex {β γ : Type} {B : Nat} {I : γ → β → World → Prop} (h : ∀ c, OwnFrom B (I c)) : OwnFrom B (fun s W => ∃ c, I c s W) :=
  fun s X Y row hs hg hr => let ⟨c, hc⟩ := hs; ⟨c, h c s X Y row hc hg hr⟩

/-- **the way out of a function that bears marks** -/
theorem leaves_marks {F : Fence} {n : Nat} {P : Program} {fn : Func} {tmps : Array Value} {R : Ending → World → Prop} {n₀ : Nat} {G : Unit → World → Prop} (hG : OwnFrom n₀ G)
    (fin : ∀ W, G () W → ∃ v, (results fn tmps).run P W = .ok v W ∧ R (.returned v) W) :
    ∀ (ds : List Deferred) (B : Nat) (W : World), Marks n₀ W B ds → G () W → LeavesInM F n P fn tmps R ds .returning W
  | [], _, W, _, h => fin W h
  | d :: ds, B, W, ⟨D, h1, h2, h3, h4, h5⟩, h => by
    refine ⟨by simp, .inl ⟨D, _, by rw [h1], run_takeDeferred h4, ?_⟩⟩
    exact leaves_marks hG fin ds D _ (h5.grown (grownBy_putObj' W D (.deferred none)) (fun r e => by cases e; exact Nat.le_refl _)) (hG.putObj _ h h2 h4 rfl)

theorem two_boxes (W : World) (t1 t2 : TypeId) (v1 v2 : Value) {W2 : World} (h : ((W.alloc (.cells #[v1] t1)).alloc (.cells #[v2] t2)) = W2) :
    Boxed W2 W.heap.size t1 v1 ∧ Boxed W2 (W.heap.size + 1) t2 v2 ∧ W2.heap.size = W.heap.size + 2 ∧ Below W.heap.size W W2 ∧ KeepsOthers W W2 ∧ (∀ B t v, Boxed W B t v → Boxed W2 B t v) := by
  subst h
  have b2 := Boxed.new (W.alloc (.cells #[v1] t1)) t2 v2
  simp only [World.size_alloc] at b2
  exact ⟨(Boxed.new W t1 v1).alloc _, b2, by simp, ((Below.refl _ _).alloc (Nat.le_refl _) _).alloc (by simp) _,
    (KeepsOthers.alloc _ _).trans (KeepsOthers.alloc _ _), fun B t v hb => (hb.alloc _).alloc _⟩
theorem three_boxes (W : World) (t1 t2 t3 : TypeId) (v1 v2 v3 : Value) {W2 : World} (h : (((W.alloc (.cells #[v1] t1)).alloc (.cells #[v2] t2)).alloc (.cells #[v3] t3)).drew = W2) :
    Boxed W2 W.heap.size t1 v1 ∧ Boxed W2 (W.heap.size + 1) t2 v2 ∧ Boxed W2 (W.heap.size + 1 + 1) t3 v3 ∧ W2.heap.size = W.heap.size + 3 ∧ Below W.heap.size W W2 ∧ KeepsOthers W W2 ∧ (∀ B t v, Boxed W B t v → Boxed W2 B t v) := by
  subst h
  have b2 := Boxed.new (W.alloc (.cells #[v1] t1)) t2 v2
  have b3 := Boxed.new ((W.alloc (.cells #[v1] t1)).alloc (.cells #[v2] t2)) t3 v3
  simp only [World.size_alloc] at b2 b3
  exact ⟨((Boxed.new W t1 v1).alloc _).alloc _, b2.alloc _, b3, by simp, ((((Below.refl _ _).alloc (Nat.le_refl _) _).alloc (by simp) _).alloc (by simp; omega) _).drew,
    (((KeepsOthers.alloc _ _).trans (KeepsOthers.alloc _ _)).trans (KeepsOthers.alloc _ _)).trans (KeepsOthers.drew _), fun B t v hb => ((hb.alloc _).alloc _).alloc _⟩

/-- block B is a row of the values vs, each of type t -/
def Row (W : World) (B : Nat) (t : TypeId) (vs : List Value) : Prop := W.heap[B]? = some (.cells vs.toArray t (0, 0))
theorem Row.lt {W : World} {B : Nat} {t : TypeId} {vs : List Value} (h : Row W B t vs) : B < W.heap.size := (Array.getElem?_eq_some_iff.1 h).1
theorem Row.cell {W : World} {B : Nat} {t : TypeId} {vs : List Value} (h : Row W B t vs) {i : Nat} {v : Value} (hv : vs[i]? = some v) : W.cell? ⟨B, i, none⟩ = some v := by simp [World.cell?, show W.heap[B]? = _ from h, hv]
theorem Row.frozen {W : World} {B : Nat} {t : TypeId} {vs : List Value} (h : Row W B t vs) (i : Nat) : W.frozen? ⟨B, i, none⟩ = false := by simp [World.frozen?, show W.heap[B]? = _ from h]
theorem Row.new (W : World) (t : TypeId) (vs : List Value) : Row (W.alloc (.cells vs.toArray t)) W.heap.size t vs := World.alloc_heap_new W _
theorem Row.kept {W W' : World} {row : Option Nat} {B : Nat} {t : TypeId} {vs : List Value} (h : Row W B t vs) (hg : W.grownBy W' row) (hne : some B ≠ row) : Row W' B t vs := (hg.block B h.lt hne).trans h
theorem Row.alloc {W : World} {B : Nat} {t : TypeId} {vs : List Value} (h : Row W B t vs) (o : Obj) : Row (W.alloc o) B t vs := h.kept (World.grownBy_alloc W o none) (by simp)
theorem Row.set {W : World} {B : Nat} {t : TypeId} {vs : List Value} (h : Row W B t vs) (i : Nat) (v : Value) : Row (W.setCell ⟨B, i, none⟩ v) B t (vs.set i v) := by
  obtain ⟨hlt, hk⟩ := Array.getElem?_eq_some_iff.1 h
  show (W.heap.modify B _)[B]? = _
  rw [Array.getElem?_eq_getElem (by rw [Array.size_modify]; exact hlt), Array.getElem_modify_self, hk]
  simp
theorem grownBy_setCellAt (W : World) (b i : Nat) (v : Value) : W.grownBy (W.setCell ⟨b, i, none⟩ v) (some b) :=
  ⟨rfl, rfl, rfl, (KeepsWalks.setCell W _ v).size, fun k _ hk => Below.heap_setCell _ _ _ k (fun e => hk (by rw [e]))⟩
theorem Row.other {W : World} {B : Nat} {t : TypeId} {vs : List Value} (h : Row W B t vs) {b : Nat} (hne : B ≠ b) (i : Nat) (v : Value) : Row (W.setCell ⟨b, i, none⟩ v) B t vs :=
  h.kept (grownBy_setCellAt W b i v) (fun e => hne (by cases e; rfl))
theorem boxed_otherAt {W : World} {B : Nat} {t : TypeId} {u : Value} (h : Boxed W B t u) {b : Nat} (hne : B ≠ b) (i : Nat) (v : Value) : Boxed (W.setCell ⟨b, i, none⟩ v) B t u :=
  h.kept (grownBy_setCellAt W b i v) (fun e => hne (by cases e; rfl))
theorem row_own {β : Type} (B : Nat) (t : TypeId) (f : β → List Value) : Own (fun s W => Row W B t (f s)) := fun s X Y row hs hg hrow =>
  hs.kept hg (fun e' => by obtain ⟨o, ho, hc⟩ := hrow B e'.symm; rw [show X.heap[B]? = _ from hs] at ho; cases ho; cases hc)
/-- words as values -/
def wvals (us : List Nat) : List Value := us.map fun x => Value.int .u32 ((x : Nat) : Int)
theorem wvals_at {us : List Nat} {i : Nat} (h : i < us.length) : (wvals us)[i]? = some (.int .u32 ((wd us i : Nat) : Int)) := by
  unfold wvals wd; simp [List.getElem?_map, List.getElem?_eq_getElem h, List.getD_eq_getElem?_getD]
theorem wvals_set (us : List Nat) (i x : Nat) : (wvals us).set i (.int .u32 ((x : Nat) : Int)) = wvals (us.set i x) := by
  unfold wvals; rw [List.map_set]
theorem wvals_replicate (n : Nat) : (madeCells #[Value.int .u32 0] n) = (wvals (List.replicate n 0)).toArray := by
  unfold madeCells wvals
  apply Array.ext
  · simp
  · intro i h1 h2; simp [Nat.mod_one]
theorem wd_set {us : List Nat} {i x j : Nat} (h : i < us.length) : wd (us.set i x) j = if i = j then x else wd us j := by
  unfold wd; rw [List.getD_eq_getElem?_getD, List.getD_eq_getElem?_getD, List.getElem?_set]
  by_cases e : i = j
  · subst e; simp [h]
  · simp [e]
theorem wd_replicate (n i : Nat) : wd (List.replicate n 0) i = 0 := by
  unfold wd; rw [List.getD_eq_getElem?_getD, List.getElem?_replicate]; split <;> rfl
/-- a slice over words: the first words of it, in blocks below n₀ -/
def IsWords (n₀ : Nat) (W : World) (a : Option Addr) (us : List Nat) : Prop :=
  us = [] ∨ ∃ b off, a = some ⟨b, off, none⟩ ∧ b < n₀ ∧ ∀ i, i < us.length → W.cell? ⟨b, off + i, none⟩ = some (.int .u32 ((wd us i : Nat) : Int))
theorem Row.words {n₀ : Nat} {W : World} {B : Nat} {t : TypeId} {us : List Nat} (h : Row W B t (wvals us)) (hB : B < n₀) : IsWords n₀ W (some ⟨B, 0, none⟩) us :=
  .inr ⟨B, 0, rfl, hB, fun i hi => by rw [Nat.zero_add]; exact h.cell (wvals_at hi)⟩
theorem IsWords.below {n₀ : Nat} {A B : World} {a : Option Addr} {us : List Nat} (h : IsWords n₀ A a us) (hb : Below n₀ A B) : IsWords n₀ B a us := by
  rcases h with h | ⟨b, off, h1, h2, h3⟩
  · exact .inl h
  · exact .inr ⟨b, off, h1, h2, fun i hi => (hb.cell (p := ⟨b, off + i, none⟩) h2).trans (h3 i hi)⟩
theorem IsWords.mono {n₀ n₁ : Nat} (hn : n₀ ≤ n₁) {A : World} {a : Option Addr} {us : List Nat} (h : IsWords n₀ A a us) : IsWords n₁ A a us := by
  rcases h with h | ⟨b, off, h1, h2, h3⟩
  · exact .inl h
  · exact .inr ⟨b, off, h1, by omega, h3⟩
theorem IsWords.at {n₀ : Nat} {A : World} {a : Option Addr} {us : List Nat} (h : IsWords n₀ A a us) {i : Nat} (hi : i < us.length) :
    ∃ b off, a = some ⟨b, off, none⟩ ∧ b < n₀ ∧ ∀ i, i < us.length → A.cell? ⟨b, off + i, none⟩ = some (.int .u32 ((wd us i : Nat) : Int)) := by
  rcases h with h | h
  · subst h; simp at hi
  · exact h
theorem IsWords.cell {n₀ : Nat} {A : World} {b off : Nat} {us : List Nat} (h : IsWords n₀ A (some ⟨b, off, none⟩) us) {i : Nat} (hi : i < us.length) : b < n₀ ∧ A.cell? ⟨b, off + i, none⟩ = some (.int .u32 ((wd us i : Nat) : Int)) := by
  obtain ⟨b', off', h1, h2, h3⟩ := h.at hi
  cases h1
  exact ⟨h2, h3 i hi⟩
/-- all words are words -/
def Fit (us : List Nat) : Prop := ∀ i, wd us i < 4294967296
end Go.Proofs.Ytbnjbnjgfjpegaa
