/- Rows and slices that a call has made, in memory. -/
import Derived.Test.YtbnjbnjgfjpegaaTurPlain
import Derived.Maps.AppendAt
namespace Go.Proofs.Ytbnjbnjgfjpegaa
open Go.RowKit Go.Shelf

theorem Row.below {A A' : World} {n B : Nat} {t : TypeId} {vs : List Value} (h : Row A B t vs) (hb : Below n A A') (hB : B < n) : Row A' B t vs := (hb.block B hB).trans h
theorem ownsRow_below {W W' : World} {base : Nat} {e : TypeId} {size : Nat} {v : Value} {k : Nat} {xs : List Value} (h : W.ownsRow base e size v k xs) (hb : Below W.heap.size W W') : W'.ownsRow base e size v k xs := by
  refine ⟨h.1, ?_⟩
  rcases h.2 with h2 | ⟨g, cap, cur, h1, h2, h3, h4⟩
  · exact .inl h2
  · exact .inr ⟨g, cap, cur, h1, h2, (hb.block g (Array.getElem?_eq_some_iff.1 h3).1).trans h3, h4⟩
theorem ownsRow_words {W : World} {base : Nat} {v : Value} {ds : List Nat} {k : Nat} (h : W.ownsRow base 62 1 v k (wvals ds)) : ∃ a cap, v = .slice a ds.length cap ∧ IsWords W.heap.size W a ds := by
  have hlen : ds.length = k := by have := h.1; simpa [wvals] using this
  rcases h.2 with ⟨h1, h2⟩ | ⟨g, cap, cur, h1, h2, h3, h4, h5, h6, h7⟩
  · have : ds = [] := List.length_eq_zero_iff.1 (by omega)
    subst this
    exact ⟨none, 0, h1, .inl rfl⟩
  · refine ⟨some ⟨g, 0, none⟩, cap, by rw [hlen]; exact h1, .inr ⟨g, 0, rfl, (Array.getElem?_eq_some_iff.1 h3).1, fun i hi => ?_⟩⟩
    have hx : (cur.toList.take (k * 1))[i]? = (wvals ds)[i]? := by rw [h7]
    rw [wvals_at hi, List.getElem?_take, if_pos (by omega)] at hx
    simp [World.cell?, h3, ← Array.getElem?_toList, hx]
theorem ownsRow_at {W W' : World} {base : Nat} {e : TypeId} {size : Nat} {v : Value} {k : Nat} {xs : List Value} (h : W.ownsRow base e size v k xs) {row : Option Nat} (hg : W.grownBy W' row) (hb : ∀ b, row = some b → b < base) : W'.ownsRow base e size v k xs := by
  refine ⟨h.1, ?_⟩
  rcases h.2 with h2 | ⟨g, cap, cur, h1, h2, h3, h4⟩
  · exact .inl h2
  · exact .inr ⟨g, cap, cur, h1, h2, (hg.block g (Array.getElem?_eq_some_iff.1 h3).1 (fun e => by have := hb g e.symm; omega)).trans h3, h4⟩
theorem ownsRow_setAt {W : World} {base : Nat} {e : TypeId} {size : Nat} {v : Value} {k : Nat} {xs : List Value} (h : W.ownsRow base e size v k xs) {b : Nat} (hb : b < base) (i : Nat) (u : Value) : (W.setCell ⟨b, i, none⟩ u).ownsRow base e size v k xs :=
  ownsRow_at h (grownBy_setCellAt W b i u) (fun _ e => by cases e; exact hb)
theorem ownsRow_base {W : World} {base base' : Nat} {e : TypeId} {size : Nat} {v : Value} {k : Nat} {xs : List Value} (h : W.ownsRow base e size v k xs) (hb : base' ≤ base) : W.ownsRow base' e size v k xs := by
  refine ⟨h.1, ?_⟩
  rcases h.2 with h2 | ⟨g, cap, cur, h1, h2, h3, h4⟩
  · exact .inl h2
  · exact .inr ⟨g, cap, cur, h1, by omega, h3, h4⟩
theorem ownBlock_ge {W : World} {base : Nat} {e : TypeId} {size : Nat} {v : Value} {k : Nat} {xs : List Value} (h : W.ownsRow base e size v k xs) {b : Nat} (hb : b < base) : some b ≠ v.ownBlock := by
  rcases h.2 with ⟨h1, _⟩ | ⟨g, cap, cur, h1, h2, h3, h4⟩
  · rw [h1]; simp [Value.ownBlock]
  · rw [h1]; intro e; simp [Value.ownBlock] at e; omega
theorem Tur.unique {us ds es : List Nat} {k : Nat} {p : List Nat} (h : Tur us k p ds) (h' : Tur us k p es) : ds = es := by
  apply List.ext_getElem (by rw [h.len, h'.len])
  intro i h1 h2
  have hi : i < us.length := by rw [← h.len]; exact h1
  have : wd ds i = wd es i := word_ext fun j => by rw [h.has i hi, h'.has i hi]
  unfold wd at this
  simpa [List.getD_eq_getElem?_getD, List.getElem?_eq_getElem h1, List.getElem?_eq_getElem h2] using this

theorem ownsRow_own {β : Type} (base : Nat) (e : TypeId) (size : Nat) (v : Value) (k : β → Nat) (f : β → List Value) : Own (fun s W => W.ownsRow base e size v (k s) (f s)) := by
  intro s X Y row h hg hrow
  refine ⟨h.1, ?_⟩
  rcases h.2 with h2 | ⟨g, cap, cur, h1, h2, h3, h4⟩
  · exact .inl h2
  · refine .inr ⟨g, cap, cur, h1, h2, (hg.block g (Array.getElem?_eq_some_iff.1 h3).1 (fun e' => ?_)).trans h3, h4⟩
    obtain ⟨o, ho, hc⟩ := hrow g e'.symm
    rw [h3] at ho; cases ho; cases hc
theorem keeps_own {W W' : World} {base : Nat} {e : TypeId} {size : Nat} {v : Value} {k : Nat} {xs : List Value} (h : W.ownsRow base e size v k xs) (hg : W.grownBy W' v.ownBlock) : KeepsOthers W W' :=
  KeepsOthers.of_grownBy hg fun j o ej hj => by
    rcases h.2 with ⟨h1, _⟩ | ⟨g, cap, cur, h1, _, h3, _⟩
    · rw [h1] at ej; simp [Value.ownBlock] at ej
    · rw [h1] at ej
      obtain rfl : g = j := by simpa [Value.ownBlock] using ej
      rw [h3] at hj; cases hj; rfl

theorem row_below {A A' : World} {n B : Nat} {t : TypeId} {vs : List Value} (h : Row A B t vs) (hb : Below n A A') (hB : B < n) : Row A' B t vs := (hb.block B hB).trans h
/-- two structs of two cells each lie in new blocks -/
theorem two_rows (w : World) (t : TypeId) (p0 p1 q0 q1 : Value) {W : World} (h : (w.alloc (.cells #[p0, p1] t)).alloc (.cells #[q0, q1] t) = W) :
    Row W w.heap.size t [p0, p1] ∧ Row W (w.heap.size + 1) t [q0, q1] ∧ Below w.heap.size w W ∧ W.heap.size = w.heap.size + 2 := by
  subst h
  have r0 := Row.new w t [p0, p1]
  have r1 := Row.new (w.alloc (.cells #[p0, p1] t)) t [q0, q1]
  rw [World.size_alloc] at r1
  exact ⟨r0.alloc _, r1, ((Below.refl _ _).alloc (Nat.le_refl _) _).alloc (by simp) _, by simp⟩

theorem one_row (w : World) (t : TypeId) (p0 p1 : Value) {W : World} (h : (w.alloc (.cells #[p0, p1] t)) = W) :
    Row W w.heap.size t [p0, p1] ∧ Below w.heap.size w W ∧ W.heap.size = w.heap.size + 1 := by
  subst h
  exact ⟨Row.new w t [p0, p1], (Below.refl _ _).alloc (Nat.le_refl _) _, by simp⟩

end Go.Proofs.Ytbnjbnjgfjpegaa
