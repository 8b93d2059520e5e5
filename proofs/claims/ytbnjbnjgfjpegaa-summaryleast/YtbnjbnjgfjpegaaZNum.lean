/- Slices of whatever numbers in memory. -/
import Derived.Test.YtbnjbnjgfjpegaaIntVals
namespace Go.Proofs.Ytbnjbnjgfjpegaa
open Go.RowKit Go.Shelf

def zd (zs : List Int) (i : Nat) : Int := zs.getD i 0
/-- a slice over numbers, such as are below 0 among them -/
def ZInts (n₀ : Nat) (W : World) (a : Option Addr) (zs : List Int) : Prop :=
  zs = [] ∨ ∃ b off, a = some ⟨b, off, none⟩ ∧ b < n₀ ∧ ∀ i, i < zs.length → W.cell? ⟨b, off + i, none⟩ = some (.int .i64 (zd zs i))
theorem ZInts.below {n₀ : Nat} {A B : World} {a : Option Addr} {l : List Int} (h : ZInts n₀ A a l) (hb : Below n₀ A B) : ZInts n₀ B a l := by
  rcases h with h | ⟨b, off, h1, h2, h3⟩
  · exact .inl h
  · exact .inr ⟨b, off, h1, h2, fun i hi => (hb.cell (p := ⟨b, off + i, none⟩) h2).trans (h3 i hi)⟩
theorem ZInts.mono {n₀ n₁ : Nat} (hn : n₀ ≤ n₁) {A : World} {a : Option Addr} {l : List Int} (h : ZInts n₀ A a l) : ZInts n₁ A a l := by
  rcases h with h | ⟨b, off, h1, h2, h3⟩
  · exact .inl h
  · exact .inr ⟨b, off, h1, by omega, h3⟩
theorem ZInts.at {n₀ : Nat} {A : World} {a : Option Addr} {l : List Int} (h : ZInts n₀ A a l) {i : Nat} (hi : i < l.length) :
    ∃ b off, a = some ⟨b, off, none⟩ ∧ b < n₀ ∧ ∀ i, i < l.length → A.cell? ⟨b, off + i, none⟩ = some (.int .i64 (zd l i)) := by
  rcases h with h | h
  · subst h; simp at hi
  · exact h
def toZ (l : List Nat) : List Int := l.map fun (x : Nat) => (x : Int)
theorem toZ_len (l : List Nat) : (toZ l).length = l.length := by unfold toZ; simp
theorem zd_toZ {l : List Nat} {i : Nat} (h : i < l.length) : zd (toZ l) i = ((wd l i : Nat) : Int) := by
  unfold zd toZ wd; simp [List.getD_eq_getElem?_getD, List.getElem?_map, List.getElem?_eq_getElem h]
theorem IsInts.z {n₀ : Nat} {W : World} {a : Option Addr} {l : List Nat} (h : IsInts n₀ W a l) : ZInts n₀ W a (toZ l) := by
  rcases h with h | ⟨b, off, h1, h2, h3⟩
  · exact .inl (by subst h; rfl)
  · exact .inr ⟨b, off, h1, h2, fun i hi => by rw [toZ_len] at hi; rw [zd_toZ hi]; exact h3 i hi⟩
/-- all numbers are elements -/
def AllIn (n : Nat) (zs : List Int) : Prop := ∀ i, i < zs.length → 0 ≤ zd zs i ∧ zd zs i < (n : Int)
def decAllIn (n : Nat) (zs : List Int) : Decidable (AllIn n zs) := by unfold AllIn; infer_instance
def allInB (n : Nat) (zs : List Int) : Bool := @decide (AllIn n zs) (decAllIn n zs)
theorem allInB_true {n : Nat} {zs : List Int} : allInB n zs = true ↔ AllIn n zs := by unfold allInB; exact @decide_eq_true_iff _ (decAllIn n zs)
theorem allInB_false {n : Nat} {zs : List Int} : allInB n zs = false ↔ ¬ AllIn n zs := by unfold allInB; exact @decide_eq_false_iff_not _ (decAllIn n zs)
end Go.Proofs.Ytbnjbnjgfjpegaa
