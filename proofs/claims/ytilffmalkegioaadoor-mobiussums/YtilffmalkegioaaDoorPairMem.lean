/- Lists of pairs in memory, two cells each. -/
import Derived.Test.YtilffmalkegioaaDoorOwns
namespace Go.Proofs.YtilffmalkegioaaDoor
open Go.RowKit Go.Shelf

/-- pairs as values, two cells each -/
def pvals (l : List (Nat × Nat)) : List Value := l.flatMap fun p => [.int .i64 ((p.1 : Nat) : Int), .int .i64 ((p.2 : Nat) : Int)]
theorem pvals_snoc (l : List (Nat × Nat)) (a b : Nat) : pvals (l ++ [(a, b)]) = pvals l ++ [.int .i64 ((a : Nat) : Int), .int .i64 ((b : Nat) : Int)] := by
  unfold pvals; simp
/-- a slice over pairs -/
def IsPairs (n₀ : Nat) (W : World) (a : Option Addr) (l : List (Nat × Nat)) : Prop :=
  l = [] ∨ ∃ b, a = some ⟨b, 0, none⟩ ∧ b < n₀ ∧ ∀ i (h : i < l.length), W.cell? ⟨b, i * 2, none⟩ = some (.int .i64 ((l[i].1 : Nat) : Int)) ∧ W.cell? ⟨b, i * 2 + 1, none⟩ = some (.int .i64 ((l[i].2 : Nat) : Int))
theorem pvals_len (l : List (Nat × Nat)) : (pvals l).length = 2 * l.length := by
  induction l with
  | nil => rfl
  | cons p l ih => unfold pvals at *; rw [List.flatMap_cons, List.length_append, ih]; simp; omega
theorem pvals_at : ∀ (l : List (Nat × Nat)) (i : Nat) (h : i < l.length), (pvals l)[2 * i]? = some (.int .i64 ((l[i].1 : Nat) : Int)) ∧ (pvals l)[2 * i + 1]? = some (.int .i64 ((l[i].2 : Nat) : Int))
  | [], i, h => by simp at h
  | p :: l, 0, _ => by unfold pvals; simp
  | p :: l, i + 1, h => by
    have ih := pvals_at l i (by simpa using h)
    have e : pvals (p :: l) = [.int .i64 ((p.1 : Nat) : Int), .int .i64 ((p.2 : Nat) : Int)] ++ pvals l := by unfold pvals; simp
    have h1 : 2 * (i + 1) = 2 * i + 2 := by omega
    have h2 : 2 * (i + 1) + 1 = (2 * i + 1) + 2 := by omega
    rw [e, h1]
    constructor
    · rw [List.getElem?_append_right (by simp)]; simpa using ih.1
    · rw [List.getElem?_append_right (by simp)]; simpa using ih.2
theorem IsPairs.below {n₀ : Nat} {A B : World} {a : Option Addr} {l : List (Nat × Nat)} (h : IsPairs n₀ A a l) (hb : Below n₀ A B) : IsPairs n₀ B a l := by
  rcases h with h | ⟨b, h1, h2, h3⟩
  · exact .inl h
  · exact .inr ⟨b, h1, h2, fun i hi => ⟨(hb.cell (p := ⟨b, i * 2, none⟩) h2).trans (h3 i hi).1, (hb.cell (p := ⟨b, i * 2 + 1, none⟩) h2).trans (h3 i hi).2⟩⟩
theorem IsPairs.at {n₀ : Nat} {A : World} {a : Option Addr} {l : List (Nat × Nat)} (h : IsPairs n₀ A a l) {i : Nat} (hi : i < l.length) :
    ∃ b, a = some ⟨b, 0, none⟩ ∧ b < n₀ ∧ A.cell? ⟨b, i * 2, none⟩ = some (.int .i64 ((l[i].1 : Nat) : Int)) ∧ A.cell? ⟨b, i * 2 + 1, none⟩ = some (.int .i64 ((l[i].2 : Nat) : Int)) := by
  rcases h with h | ⟨b, h1, h2, h3⟩
  · subst h; simp at hi
  · exact ⟨b, h1, h2, (h3 i hi).1, (h3 i hi).2⟩
end Go.Proofs.YtilffmalkegioaaDoor
