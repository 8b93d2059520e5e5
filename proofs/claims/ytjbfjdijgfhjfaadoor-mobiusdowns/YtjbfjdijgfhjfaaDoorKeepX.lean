/- Worlds that keep all but some blocks. -/
import Derived.Test.YtjbfjdijgfhjfaaDoorTurPlain
namespace Go.Proofs.YtjbfjdijgfhjfaaDoor
open Go.RowKit Go.Shelf

theorem two_ways (b : Bool) : b = false ∨ b = true := by cases b <;> simp
/-- all lies as it lay, but for the blocks X, and what was made since -/
structure KeepX (X : Nat → Prop) (w W : World) : Prop where
  os : W.os = w.os
  tape : W.tape = w.tape
  output : W.output = w.output
  size : w.heap.size ≤ W.heap.size
  same : ∀ k, k < w.heap.size → ¬ X k → W.heap[k]? = w.heap[k]?
theorem KeepX.refl (X : Nat → Prop) (w : World) : KeepX X w w := ⟨rfl, rfl, rfl, Nat.le_refl _, fun _ _ _ => rfl⟩
theorem KeepX.trans {X : Nat → Prop} {a b c : World} (h : KeepX X a b) (k : KeepX X b c) : KeepX X a c :=
  ⟨k.os.trans h.os, k.tape.trans h.tape, k.output.trans h.output, Nat.le_trans h.size k.size, fun i hi hx => (k.same i (Nat.lt_of_lt_of_le hi h.size) hx).trans (h.same i hi hx)⟩
theorem KeepX.of_below {X : Nat → Prop} {w W : World} (h : Below w.heap.size w W) : KeepX X w W := ⟨h.os, h.tape, h.output, h.size, fun k hk _ => h.block k hk⟩
theorem KeepX.below {X : Nat → Prop} {w W : World} (h : KeepX X w W) {n : Nat} (hn : n ≤ w.heap.size) (hX : ∀ k, X k → n ≤ k) : Below n w W :=
  ⟨h.os, h.tape, h.output, h.size, fun k hk => h.same k (Nat.lt_of_lt_of_le hk hn) fun x => by have := hX k x; omega⟩
theorem KeepX.set {X : Nat → Prop} {w W : World} (h : KeepX X w W) {b i : Nat} (hb : X b) (v : Value) : KeepX X w (W.setCell ⟨b, i, none⟩ v) :=
  ⟨h.os, h.tape, h.output, Nat.le_trans h.size (KeepsOthers.setCell W ⟨b, i, none⟩ v).size, fun k hk hx => (Below.heap_setCell W ⟨b, i, none⟩ v k (fun e => hx (e ▸ hb))).trans (h.same k hk hx)⟩
theorem KeepX.boxed {X : Nat → Prop} {w W : World} (h : KeepX X w W) {B : Nat} {t : TypeId} {v : Value} (hb : Boxed w B t v) (hx : ¬ X B) : Boxed W B t v := (h.same B hb.lt hx).trans hb
theorem KeepX.row {X : Nat → Prop} {w W : World} (h : KeepX X w W) {B : Nat} {t : TypeId} {vs : List Value} (hb : Row w B t vs) (hx : ¬ X B) : Row W B t vs := (h.same B hb.lt hx).trans hb
theorem KeepX.others {X : Nat → Prop} {w W : World} (h : KeepX X w W) (hc : ∀ k, X k → ∃ cs t o, w.heap[k]? = some (.cells cs t o)) : KeepsOthers w W :=
  ⟨h.size, fun k o hk ho => by
    by_cases hx : X k
    · obtain ⟨cs, t, q, e⟩ := hc k hx
      rw [e] at hk; cases hk; cases ho
    · exact (h.same k (Array.getElem?_eq_some_iff.1 hk).1 hx).trans hk⟩
theorem ownFrom_keepX {β : Type} {X : Nat → Prop} {B : Nat} {w : World} (hB : w.heap.size ≤ B) : OwnFrom B (fun (_ : β) W => KeepX X w W) := fun _ W W' row hs hg hr =>
  ⟨hg.os.trans hs.os, hg.tape.trans hs.tape, hg.output.trans hs.output, Nat.le_trans hs.size hg.size, fun k hk hx => (hg.block k (Nat.lt_of_lt_of_le hk hs.size) (fun e => by have := (hr k e.symm).1; omega)).trans (hs.same k hk hx)⟩
end Go.Proofs.YtjbfjdijgfhjfaaDoor
