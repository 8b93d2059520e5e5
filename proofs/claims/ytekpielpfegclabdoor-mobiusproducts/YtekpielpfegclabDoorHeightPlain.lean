/- Plain mathematics of heights: how many others are in the longest chain that ends with an element. -/
import Derived.Test.YtekpielpfegclabDoorSzPlain
namespace Go.Proofs.YtekpielpfegclabDoor

/-- h are the heights by R: more than that of each ahead; and 0, or one more than that of one ahead -/
def IsHt (R : Nat → Nat → Bool) (n : Nat) (h : Nat → Nat) : Prop :=
  ∀ i, i < n → (∀ j, j < n → R j i = true → h j + 1 ≤ h i) ∧ (h i = 0 ∨ ∃ j, j < n ∧ R j i = true ∧ h i = h j + 1)
/-- hs are the heights of the first k of the line, and 0 elsewhere -/
structure HtK (R : Nat → Nat → Bool) (n k : Nat) (hs : List Nat) : Prop where
  len : hs.length = n
  on : ∀ i, i ∈ sortF R n k → (∀ j, j < n → R j i = true → wd hs j + 1 ≤ wd hs i) ∧ (wd hs i = 0 ∨ ∃ j, j < n ∧ R j i = true ∧ wd hs i = wd hs j + 1)
  off : ∀ i, i ∉ sortF R n k → wd hs i = 0
  small : ∀ i, wd hs i ≤ k
/-- m is the height by those of pre -/
def HtJ (hs pre : List Nat) (m : Nat) : Prop := (∀ z ∈ pre, wd hs z + 1 ≤ m) ∧ (m = 0 ∨ ∃ z ∈ pre, m = wd hs z + 1)
theorem HtK.start (R : Nat → Nat → Bool) (n : Nat) : HtK R n 0 (List.replicate n 0) :=
  ⟨by simp, fun i hi => by simp [sortF] at hi, fun i _ => wd_replicate n i, fun i => by rw [wd_replicate]; exact Nat.le_refl _⟩
theorem HtJ.start (hs : List Nat) : HtJ hs [] 0 := ⟨by simp, .inl rfl⟩
theorem HtJ.step {hs pre : List Nat} {m z : Nat} (h : HtJ hs pre m) : HtJ hs (pre ++ [z]) (max m (wd hs z + 1)) := by
  obtain ⟨h1, h2⟩ := h
  constructor
  · intro y hy
    rcases List.mem_append.1 hy with g | g
    · have := h1 y g; omega
    · simp at g; subst g; omega
  · rcases Nat.le_total m (wd hs z + 1) with g | g
    · exact .inr ⟨z, by simp, by omega⟩
    · rcases h2 with e | ⟨y, hy, e⟩
      · omega
      · exact .inr ⟨y, by simp [hy], by omega⟩
theorem HtJ.small {hs pre : List Nat} {m k : Nat} (h : HtJ hs pre m) (hk : ∀ i, wd hs i ≤ k) : m ≤ k + 1 := by
  rcases h.2 with e | ⟨z, _, e⟩
  · omega
  · have := hk z; omega
theorem mem_sortF {R : Nat → Nat → Bool} {n k x : Nat} : x ∈ sortF R n (k + 1) ↔ x ∈ sortF R n k ∨ x = nextF R n (sortF R n k) := by
  show x ∈ sortF R n k ++ [nextF R n (sortF R n k)] ↔ _
  simp
theorem sortF_shut {R : Nat → Nat → Bool} {n : Nat} (hA : Acy R n) : ∀ {k : Nat}, k ≤ n → ∀ {i j : Nat}, i ∈ sortF R n k → j < n → R j i = true → j ∈ sortF R n k
  | 0, _, i, j, hi, _, _ => by simp [sortF] at hi
  | k + 1, hk, i, j, hi, hj, hR => by
    obtain ⟨g1, g2, _⟩ := next_spec (hA (sortF R n k) (left_some (by rw [sortF_len]; omega)))
    rcases mem_sortF.1 hi with h | h
    · exact mem_sortF.2 (.inl (sortF_shut hA (by omega) h hj hR))
    · subst h; exact mem_sortF.2 (.inl ((readyB_true.1 g2).2 j hj hR))
/-- the next one of the line has its height -/
theorem HtK.next {R : Nat → Nat → Bool} {n k : Nat} {hs : List Nat} (hA : Acy R n) (hk : k < n) (h : HtK R n k hs) {pre : List Nat} {m : Nat} (hJ : HtJ hs pre m)
    (hp : ∀ z, z ∈ pre ↔ z < n ∧ R z (nextF R n (sortF R n k)) = true) : HtK R n (k + 1) (hs.set (nextF R n (sortF R n k)) m) := by
  obtain ⟨g1, g2, _⟩ := next_spec (hA (sortF R n k) (left_some (by rw [sortF_len]; omega)))
  obtain ⟨r1, r2⟩ := readyB_true.1 g2
  have hin : ∀ x, x ∈ sortF R n (k + 1) ↔ x ∈ sortF R n k ∨ x = nextF R n (sortF R n k) := fun x => mem_sortF
  generalize nextF R n (sortF R n k) = i at *
  have hil : i < hs.length := by rw [h.len]; exact g1
  have hsame : ∀ j, j ∈ sortF R n k → wd (hs.set i m) j = wd hs j := fun j hj => by
    have hne : ¬ i = j := fun e => r1 (by rw [e]; exact hj)
    rw [wd_set hil, if_neg hne]
  have hself : wd (hs.set i m) i = m := by rw [wd_set hil, if_pos rfl]
  refine ⟨by rw [List.length_set]; exact h.len, fun x hx => ?_, fun x hx => ?_, fun x => ?_⟩
  · rcases (hin x).1 hx with hx | rfl
    · have hsh := fun j (hj : j < n) (hR : R j x = true) => sortF_shut hA (Nat.le_of_lt hk) hx hj hR
      obtain ⟨o1, o2⟩ := h.on x hx
      rw [hsame x hx]
      refine ⟨fun j hj hR => ?_, ?_⟩
      · rw [hsame j (hsh j hj hR)]; exact o1 j hj hR
      · rcases o2 with e | ⟨j, hj, hR, e⟩
        · exact .inl e
        · exact .inr ⟨j, hj, hR, by rw [hsame j (hsh j hj hR)]; exact e⟩
    · rw [hself]
      refine ⟨fun j hj hR => ?_, ?_⟩
      · rw [hsame j (r2 j hj hR)]; exact hJ.1 j ((hp j).2 ⟨hj, hR⟩)
      · rcases hJ.2 with e | ⟨z, hz, e⟩
        · exact .inl e
        · obtain ⟨hzn, hzR⟩ := (hp z).1 hz
          exact .inr ⟨z, hzn, hzR, by rw [hsame z (r2 z hzn hzR)]; exact e⟩
  · have hx' : x ∉ sortF R n k ∧ x ≠ i := ⟨fun g => hx ((hin x).2 (.inl g)), fun g => hx ((hin x).2 (.inr g))⟩
    rw [wd_set hil, if_neg (fun e => hx'.2 e.symm)]
    exact h.off x hx'.1
  · rw [wd_set hil]; split
    · exact hJ.small h.small
    · have := h.small x; omega
/-- all have theirs -/
theorem HtK.isHt {R : Nat → Nat → Bool} {n : Nat} {hs : List Nat} (hA : Acy R n) (h : HtK R n n hs) : IsHt R n (wd hs) := fun i hi => by
  have hm : i ∈ sortF R n n := by
    apply Classical.byContradiction
    intro hno
    obtain ⟨f1, f2⟩ := sortF_facts hA n (Nat.le_refl _)
    have := nodup_le (a := i :: sortF R n n) (b := List.range n) (List.nodup_cons.2 ⟨hno, f1⟩) (fun x hx => by
      rcases List.mem_cons.1 hx with e | e
      · subst e; exact List.mem_range.2 hi
      · exact List.mem_range.2 (f2 x e))
    simp [sortF_len] at this; omega
  exact h.on i hm
end Go.Proofs.YtekpielpfegclabDoor
