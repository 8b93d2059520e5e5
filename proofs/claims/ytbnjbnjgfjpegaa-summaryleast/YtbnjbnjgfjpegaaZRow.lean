/- Rows of whatever numbers in memory, and how two lists of numbers are the same. -/
import Derived.Test.YtbnjbnjgfjpegaaZNum
namespace Go.Proofs.Ytbnjbnjgfjpegaa
open Go.RowKit Go.Shelf

def zvals (l : List Int) : List Value := l.map fun x => Value.int .i64 x
theorem zvals_len (l : List Int) : (zvals l).length = l.length := by unfold zvals; simp
theorem zvals_snoc (l : List Int) (x : Int) : zvals (l ++ [x]) = zvals l ++ [.int .i64 x] := by unfold zvals; simp
theorem zvals_at {l : List Int} {i : Nat} (h : i < l.length) : (zvals l)[i]? = some (.int .i64 (zd l i)) := by
  unfold zvals zd; simp [List.getElem?_map, List.getElem?_eq_getElem h, List.getD_eq_getElem?_getD]
theorem zvals_set (l : List Int) (i : Nat) (x : Int) : (zvals l).set i (.int .i64 x) = zvals (l.set i x) := by
  unfold zvals; rw [List.map_set]
theorem zvals_replicate (n : Nat) : (madeCells #[Value.int .i64 0] n) = (zvals (List.replicate n 0)).toArray := by
  unfold madeCells zvals
  apply Array.ext
  · simp
  · intro i h1 h2; simp [Nat.mod_one]
theorem zd_set {l : List Int} {i j : Nat} {x : Int} (h : i < l.length) : zd (l.set i x) j = if i = j then x else zd l j := by
  unfold zd; rw [List.getD_eq_getElem?_getD, List.getD_eq_getElem?_getD, List.getElem?_set]
  by_cases e : i = j
  · subst e; simp [h]
  · simp [e]
theorem zd_ext {a b : List Int} (hl : a.length = b.length) (h : ∀ i, i < a.length → zd a i = zd b i) : a = b := by
  apply List.ext_getElem hl
  intro i h1 h2
  have := h i h1
  unfold zd at this
  simpa [List.getD_eq_getElem?_getD, List.getElem?_eq_getElem h1, List.getElem?_eq_getElem h2] using this
theorem zd_snoc_lt {a : List Int} {x : Int} {i : Nat} (h : i < a.length) : zd (a ++ [x]) i = zd a i := by
  unfold zd; rw [List.getD_eq_getElem?_getD, List.getD_eq_getElem?_getD, List.getElem?_append_left h]
theorem zd_snoc_eq {a : List Int} {x : Int} : zd (a ++ [x]) a.length = x := by
  unfold zd; rw [List.getD_eq_getElem?_getD, List.getElem?_append_right (Nat.le_refl _)]; simp
theorem zd_range {n : Nat} (f : Nat → Int) {i : Nat} (h : i < n) : zd ((List.range n).map f) i = f i := by
  unfold zd; rw [List.getD_eq_getElem?_getD, List.getElem?_map, List.getElem?_range h]; rfl
theorem Row.z {W : World} {B n₀ : Nat} {t : TypeId} {l : List Int} (h : Row W B t (zvals l)) (hB : B < n₀) : ZInts n₀ W (some ⟨B, 0, none⟩) l :=
  .inr ⟨B, 0, rfl, hB, fun i hi => by rw [Nat.zero_add]; exact h.cell (zvals_at hi)⟩
theorem ownsRow_z {W : World} {base : Nat} {av : Option Addr} {cv k : Nat} {l : List Int} (h : W.ownsRow base 3 1 (.slice av k cv) k (zvals l)) : ZInts W.heap.size W av l := by
  have hlen : l.length = k := by have := h.1; simpa [zvals] using this
  rcases h.2 with ⟨h1, h2⟩ | ⟨g, cap, cur, h1, h2, h3, h4, h5, h6, h7⟩
  · exact .inl (List.length_eq_zero_iff.1 (by omega))
  · cases h1
    refine .inr ⟨g, 0, rfl, (Array.getElem?_eq_some_iff.1 h3).1, fun i hi => ?_⟩
    have hx : (cur.toList.take (k * 1))[i]? = (zvals l)[i]? := by rw [h7]
    rw [zvals_at hi, List.getElem?_take, if_pos (by omega)] at hx
    simp [World.cell?, h3, ← Array.getElem?_toList, hx]
/-- are two lists of numbers the same? -/
def sameB (a b : List Int) : Bool := decide (a = b)
theorem sameB_true {a b : List Int} : sameB a b = true ↔ a = b := by unfold sameB; exact decide_eq_true_iff
theorem sameB_false {a b : List Int} : sameB a b = false ↔ a ≠ b := by unfold sameB; exact decide_eq_false_iff_not
end Go.Proofs.Ytbnjbnjgfjpegaa
