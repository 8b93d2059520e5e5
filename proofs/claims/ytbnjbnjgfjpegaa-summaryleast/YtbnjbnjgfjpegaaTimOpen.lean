/- The contracts of package times' Open and checkList, of slices' IndexFunc and ContainsFunc at their closures; and of the document's TimesOpen, TimesList. -/
import Derived.Test.YtbnjbnjgfjpegaaTimFront
import Derived.Test.YtbnjbnjgfjpegaaZList
namespace Go.Proofs.Ytbnjbnjgfjpegaa
open Go.RowKit Go.Shelf

/-- the lists themselves -/
def zl (L : List Sl) : List (List Int) := L.map Sl.zs
theorem zl_len (L : List Sl) : (zl L).length = L.length := by unfold zl; simp
theorem zl_at {L : List Sl} {i : Nat} (h : i < L.length) : (zl L)[i]'(by rw [zl_len]; exact h) = (nth L i).zs := by
  unfold zl nth; simp [List.getD_eq_getElem?_getD, List.getElem?_eq_getElem h]
theorem mem_zl {L : List Sl} {t : List Int} : t ∈ zl L ↔ ∃ i, i < L.length ∧ (nth L i).zs = t := by
  unfold zl
  rw [List.mem_map]
  constructor
  · rintro ⟨s, hs, e⟩
    obtain ⟨i, hi, e'⟩ := mem_nth hs
    exact ⟨i, hi, by rw [e', e]⟩
  · rintro ⟨i, hi, e⟩
    exact ⟨nth L i, nth_mem hi, e⟩
/-- does one of the first k have p? -/
def AnyTo (p : Nat → Bool) (k : Nat) : Prop := ∃ i, i < k ∧ p i = true
theorem anyTo_false {p : Nat → Bool} {k : Nat} (h : ∀ j, j < k → p j = false) : ¬ AnyTo p k := fun ⟨i, hi, e⟩ => by rw [h i hi] at e; cases e
/-- a box that holds a slice -/
def BoxS (W : World) (q : Nat) (s : Sl) : Prop := W.cell? ⟨q, 0, none⟩ = some (slv s)
theorem BoxS.below {n : Nat} {A B : World} {q : Nat} {s : Sl} (h : BoxS A q s) (hb : Below n A B) (hq : q < n) : BoxS B q s := (hb.cell (p := ⟨q, 0, none⟩) hq).trans h
theorem box_new (w : World) (t : TypeId) (v : Value) : (w.alloc (.cells #[v] t)).cell? ⟨w.heap.size, 0, none⟩ = some v := (Row.new w t [v]).cell (i := 0) rfl

theorem openB_any {L : List Sl} {t : List Int} : openB (zl L) t = true ↔ AnyTo (fun i => leqT (nth L i).zs t) L.length := by
  rw [openB_true]
  constructor
  · rintro ⟨u, hu, h⟩
    obtain ⟨i, hi, e⟩ := mem_zl.1 hu
    exact ⟨i, hi, by show leqT (nth L i).zs t = true; rw [e]; exact h⟩
  · rintro ⟨i, hi, h⟩
    exact ⟨_, mem_zl.2 ⟨i, hi, rfl⟩, h⟩
theorem lens_any {L : List Sl} {b : Bool} (hb : b = !lensB (zl L)) : b = true ↔ AnyTo (fun i => decide ((nth L i).zs.length ≠ (nth L 0).zs.length)) L.length := by
  have hh : ∀ i, i < L.length → ((zl L).headD []).length = (nth L 0).zs.length := fun i hi => by
    cases L with
    | nil => simp at hi
    | cons s l => rfl
  subst hb
  rw [Bool.not_eq_true', lensB_false]
  constructor
  · intro h
    apply Classical.byContradiction
    intro hno
    apply h
    intro t ht
    obtain ⟨i, hi, e⟩ := mem_zl.1 ht
    rw [hh i hi, ← e]
    apply Decidable.byContradiction
    intro hne
    exact hno ⟨i, hi, by simpa using hne⟩
  · rintro ⟨i, hi, h⟩ hL
    have := hL _ (mem_zl.2 ⟨i, hi, rfl⟩)
    rw [hh i hi] at this
    simp at h
    exact h this

theorem firstC_zl {L : List Sl} {k : Nat} (hk : k < L.length) (h : ∀ j, j < k → codeT (nth L j).zs = 0) (hne : codeT (nth L k).zs ≠ 0) : firstC (zl L) = codeT (nth L k).zs := by
  have := firstC_at (l := zl L) (k := k) (by rw [zl_len]; exact hk) (fun j hj => by rw [zl_at (by omega)]; exact h j hj) (by rw [zl_at hk]; exact hne)
  rw [this, zl_at hk]
theorem firstC_all {L : List Sl} (h : ∀ j, j < L.length → codeT (nth L j).zs = 0) : firstC (zl L) = 0 := firstC_ok fun t ht => by
  obtain ⟨i, hi, e⟩ := mem_zl.1 ht
  rw [← e]; exact h i hi
end Go.Proofs.Ytbnjbnjgfjpegaa
