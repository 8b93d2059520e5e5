/- Slices of slices of numbers in memory. -/
import Derived.Test.YtbnjbnjgfjpegaaZRow
namespace Go.Proofs.Ytbnjbnjgfjpegaa
open Go.RowKit Go.Shelf

/-- a slice of numbers: where it lies, its room, and the numbers -/
structure Sl where
  a : Option Addr
  cap : Nat
  zs : List Int
def slv (s : Sl) : Value := .slice s.a s.zs.length s.cap
def sl0 : Sl := ⟨none, 0, []⟩
def nth (L : List Sl) (i : Nat) : Sl := L.getD i sl0
theorem nth_mem {L : List Sl} {i : Nat} (h : i < L.length) : nth L i ∈ L := by
  unfold nth; rw [List.getD_eq_getElem?_getD, List.getElem?_eq_getElem h]; exact List.getElem_mem h
theorem mem_nth {L : List Sl} {s : Sl} (h : s ∈ L) : ∃ i, i < L.length ∧ nth L i = s := by
  obtain ⟨i, hi, e⟩ := List.mem_iff_getElem.1 h
  exact ⟨i, hi, by unfold nth; rw [List.getD_eq_getElem?_getD, List.getElem?_eq_getElem hi]; exact e⟩
/-- each of the slices lies where it says -/
def Inner (n₀ : Nat) (W : World) (L : List Sl) : Prop := ∀ i, i < L.length → ZInts n₀ W (nth L i).a (nth L i).zs ∧ (nth L i).zs.length ≤ 9223372036854775807
theorem Inner.below {n₀ : Nat} {A B : World} {L : List Sl} (h : Inner n₀ A L) (hb : Below n₀ A B) : Inner n₀ B L := fun i hi => ⟨(h i hi).1.below hb, (h i hi).2⟩
theorem Inner.mono {n₀ n₁ : Nat} (hn : n₀ ≤ n₁) {A : World} {L : List Sl} (h : Inner n₀ A L) : Inner n₁ A L := fun i hi => ⟨(h i hi).1.mono hn, (h i hi).2⟩
/-- a slice over slices of numbers -/
def Outer (n₀ : Nat) (W : World) (a : Option Addr) (L : List Sl) : Prop :=
  L = [] ∨ ∃ b off, a = some ⟨b, off, none⟩ ∧ b < n₀ ∧ ∀ i, i < L.length → W.cell? ⟨b, off + i, none⟩ = some (slv (nth L i))
theorem Outer.below {n₀ : Nat} {A B : World} {a : Option Addr} {L : List Sl} (h : Outer n₀ A a L) (hb : Below n₀ A B) : Outer n₀ B a L := by
  rcases h with h | ⟨b, off, h1, h2, h3⟩
  · exact .inl h
  · exact .inr ⟨b, off, h1, h2, fun i hi => (hb.cell (p := ⟨b, off + i, none⟩) h2).trans (h3 i hi)⟩
theorem Outer.mono {n₀ n₁ : Nat} (hn : n₀ ≤ n₁) {A : World} {a : Option Addr} {L : List Sl} (h : Outer n₀ A a L) : Outer n₁ A a L := by
  rcases h with h | ⟨b, off, h1, h2, h3⟩
  · exact .inl h
  · exact .inr ⟨b, off, h1, by omega, h3⟩
theorem Outer.at {n₀ : Nat} {A : World} {a : Option Addr} {L : List Sl} (h : Outer n₀ A a L) {i : Nat} (hi : i < L.length) :
    ∃ b off, a = some ⟨b, off, none⟩ ∧ b < n₀ ∧ ∀ i, i < L.length → A.cell? ⟨b, off + i, none⟩ = some (slv (nth L i)) := by
  rcases h with h | h
  · subst h; simp at hi
  · exact h
/-- slices of slices, with what lies in them -/
structure ZLists (n₀ : Nat) (W : World) (a : Option Addr) (L : List Sl) : Prop where
  outer : Outer n₀ W a L
  inner : Inner n₀ W L
theorem ZLists.below {n₀ : Nat} {A B : World} {a : Option Addr} {L : List Sl} (h : ZLists n₀ A a L) (hb : Below n₀ A B) : ZLists n₀ B a L := ⟨h.outer.below hb, h.inner.below hb⟩
theorem ZLists.mono {n₀ n₁ : Nat} (hn : n₀ ≤ n₁) {A : World} {a : Option Addr} {L : List Sl} (h : ZLists n₀ A a L) : ZLists n₁ A a L := ⟨h.outer.mono hn, h.inner.mono hn⟩
def svals (L : List Sl) : List Value := L.map slv
theorem svals_len (L : List Sl) : (svals L).length = L.length := by unfold svals; simp
theorem svals_snoc (L : List Sl) (s : Sl) : svals (L ++ [s]) = svals L ++ [slv s] := by unfold svals; simp
theorem svals_at {L : List Sl} {i : Nat} (h : i < L.length) : (svals L)[i]? = some (slv (nth L i)) := by
  unfold svals nth; simp [List.getElem?_map, List.getElem?_eq_getElem h, List.getD_eq_getElem?_getD]
theorem Row.outer {W : World} {B n₀ : Nat} {t : TypeId} {L : List Sl} (h : Row W B t (svals L)) (hB : B < n₀) : Outer n₀ W (some ⟨B, 0, none⟩) L :=
  .inr ⟨B, 0, rfl, hB, fun i hi => by rw [Nat.zero_add]; exact h.cell (svals_at hi)⟩
theorem ownsRow_outer {W : World} {base : Nat} {t : TypeId} {av : Option Addr} {cv k : Nat} {L : List Sl} (h : W.ownsRow base t 1 (.slice av k cv) k (svals L)) : Outer W.heap.size W av L := by
  have hlen : L.length = k := by have := h.1; simpa [svals] using this
  rcases h.2 with ⟨h1, h2⟩ | ⟨g, cap, cur, h1, h2, h3, h4, h5, h6, h7⟩
  · exact .inl (List.length_eq_zero_iff.1 (by omega))
  · cases h1
    refine .inr ⟨g, 0, rfl, (Array.getElem?_eq_some_iff.1 h3).1, fun i hi => ?_⟩
    have hx : (cur.toList.take (k * 1))[i]? = (svals L)[i]? := by rw [h7]
    rw [svals_at hi, List.getElem?_take, if_pos (by omega)] at hx
    simp [World.cell?, h3, ← Array.getElem?_toList, hx]
end Go.Proofs.Ytbnjbnjgfjpegaa
