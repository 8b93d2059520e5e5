/- Slices of ints in memory. -/
import Derived.Test.YtbnjbnjgfjpegaaOwns
namespace Go.Proofs.Ytbnjbnjgfjpegaa
open Go.RowKit Go.Shelf

/-- numbers as values -/
def ivals (l : List Nat) : List Value := l.map fun x => Value.int .i64 ((x : Nat) : Int)
theorem ivals_snoc (l : List Nat) (x : Nat) : ivals (l ++ [x]) = ivals l ++ [.int .i64 ((x : Nat) : Int)] := by unfold ivals; simp
theorem ivals_at {l : List Nat} {i : Nat} (h : i < l.length) : (ivals l)[i]? = some (.int .i64 ((wd l i : Nat) : Int)) := by
  unfold ivals wd; simp [List.getElem?_map, List.getElem?_eq_getElem h, List.getD_eq_getElem?_getD]
/-- a slice over numbers -/
def IsInts (n₀ : Nat) (W : World) (a : Option Addr) (l : List Nat) : Prop :=
  l = [] ∨ ∃ b off, a = some ⟨b, off, none⟩ ∧ b < n₀ ∧ ∀ i, i < l.length → W.cell? ⟨b, off + i, none⟩ = some (.int .i64 ((wd l i : Nat) : Int))
theorem IsInts.below {n₀ : Nat} {A B : World} {a : Option Addr} {l : List Nat} (h : IsInts n₀ A a l) (hb : Below n₀ A B) : IsInts n₀ B a l := by
  rcases h with h | ⟨b, off, h1, h2, h3⟩
  · exact .inl h
  · exact .inr ⟨b, off, h1, h2, fun i hi => (hb.cell (p := ⟨b, off + i, none⟩) h2).trans (h3 i hi)⟩
theorem IsInts.at {n₀ : Nat} {A : World} {a : Option Addr} {l : List Nat} (h : IsInts n₀ A a l) {i : Nat} (hi : i < l.length) :
    ∃ b off, a = some ⟨b, off, none⟩ ∧ b < n₀ ∧ ∀ i, i < l.length → A.cell? ⟨b, off + i, none⟩ = some (.int .i64 ((wd l i : Nat) : Int)) := by
  rcases h with h | h
  · subst h; simp at hi
  · exact h
theorem ownsRow_ints {W : World} {base : Nat} {av : Option Addr} {cv k : Nat} {l : List Nat} (h : W.ownsRow base 3 1 (.slice av k cv) k (ivals l)) : IsInts W.heap.size W av l := by
  have hlen : l.length = k := by have := h.1; simpa [ivals] using this
  rcases h.2 with ⟨h1, h2⟩ | ⟨g, cap, cur, h1, h2, h3, h4, h5, h6, h7⟩
  · exact .inl (List.length_eq_zero_iff.1 (by omega))
  · cases h1
    refine .inr ⟨g, 0, rfl, (Array.getElem?_eq_some_iff.1 h3).1, fun i hi => ?_⟩
    have hx : (cur.toList.take (k * 1))[i]? = (ivals l)[i]? := by rw [h7]
    rw [ivals_at hi, List.getElem?_take, if_pos (by omega)] at hx
    simp [World.cell?, h3, ← Array.getElem?_toList, hx]
theorem info_int : (Try.prog.info? 3).map (fun i => (i.zero, i.size, i.bytes)) = some (some (.int .i64 0), 1, 8) := by kernel_rfl

theorem ivals_set (us : List Nat) (i x : Nat) : (ivals us).set i (.int .i64 ((x : Nat) : Int)) = ivals (us.set i x) := by
  unfold ivals; rw [List.map_set]
theorem ivals_replicate (n : Nat) : (madeCells #[Value.int .i64 0] n) = (ivals (List.replicate n 0)).toArray := by
  unfold madeCells ivals
  apply Array.ext
  · simp
  · intro i h1 h2; simp [Nat.mod_one]

/-- is x in the list? -/
def memB (l : List Nat) (x : Nat) : Bool := decide (x ∈ l)
theorem memB_true {l : List Nat} {x : Nat} : memB l x = true ↔ x ∈ l := by unfold memB; exact decide_eq_true_iff
theorem memB_false {l : List Nat} {x : Nat} : memB l x = false ↔ x ∉ l := by unfold memB; exact decide_eq_false_iff_not
theorem wd_mem {l : List Nat} {i : Nat} (h : i < l.length) : wd l i ∈ l := by
  unfold wd; rw [List.getD_eq_getElem?_getD, List.getElem?_eq_getElem h]; exact List.getElem_mem h
theorem mem_wd {l : List Nat} {x : Nat} (h : x ∈ l) : ∃ i, i < l.length ∧ wd l i = x := by
  obtain ⟨i, hi, e⟩ := List.getElem_of_mem h
  exact ⟨i, hi, by unfold wd; rw [List.getD_eq_getElem?_getD, List.getElem?_eq_getElem hi]; exact e⟩

end Go.Proofs.Ytbnjbnjgfjpegaa
