/- Plain mathematics of what is come to by any number of steps. -/
import Derived.Test.YtnlkjklcikolaaaDoorSortPlain
namespace Go.Proofs.YtnlkjklcikolaaaDoor

/-- z is come to from x, by steps of nx -/
inductive Reach (nx : List Nat) : Nat → Nat → Prop
  | here (x : Nat) : Reach nx x x
  | step (x y z : Nat) : hasB (wd nx x) y = true → Reach nx y z → Reach nx x z
theorem Reach.snoc {nx : List Nat} {x y z : Nat} (h : Reach nx x y) (hz : hasB (wd nx y) z = true) : Reach nx x z := by
  induction h with
  | here x => exact .step x z z hz (.here z)
  | step x y' z' h1 _ ih => exact .step x y' z h1 (ih hz)
theorem Reach.trans {nx : List Nat} {x y z : Nat} (h : Reach nx x y) (h2 : Reach nx y z) : Reach nx x z := by
  induction h with
  | here x => exact h2
  | step x y' z' h1 _ ih => exact .step x y' z h1 (ih h2)
/-- how many of n are not in the word -/
def unseen (n s : Nat) : Nat := ((List.range n).filter fun z => !hasB s z).length
/-- what a call from x leaves of the word seen -/
structure Dfs (nx : List Nat) (x seen s : Nat) : Prop where
  lt : s < 4294967296
  keeps : ∀ z, hasB seen z = true → hasB s z = true
  has : hasB s x = true
  shut : ∀ u v, hasB s u = true → hasB seen u = false → hasB (wd nx u) v = true → hasB s v = true
  from_ : ∀ z, hasB s z = true → hasB seen z = true ∨ Reach nx x z
/-- .. as far as pre of its steps -/
structure DfsTo (nx : List Nat) (x seen : Nat) (pre : List Nat) (s : Nat) : Prop where
  lt : s < 4294967296
  keeps : ∀ z, hasB seen z = true → hasB s z = true
  has : hasB s x = true
  shut : ∀ u v, hasB s u = true → hasB seen u = false → u ≠ x → hasB (wd nx u) v = true → hasB s v = true
  from_ : ∀ z, hasB s z = true → hasB seen z = true ∨ Reach nx x z
  got : ∀ y, y ∈ pre → hasB s y = true
section
variable {nx : List Nat} {x seen s : Nat} {pre : List Nat}
theorem DfsTo.start (hs : seen < 4294967296) (hx : x < 32) : DfsTo nx x seen [] (orW seen (bitW x)) :=
  ⟨orW_lt hs (bitW_lt hx), fun z h => by rw [hasB_or, h]; rfl, by rw [hasB_or, hasB_bitW]; simp, fun u v hu hn hne => by
    rw [hasB_or, hn, hasB_bitW] at hu; simp at hu; exact absurd hu.symm hne, fun z hz => by
    rw [hasB_or, hasB_bitW, Bool.or_eq_true] at hz
    rcases hz with h | h
    · exact .inl h
    · simp at h; subst h; exact .inr (.here _), fun y hy => by cases hy⟩
theorem DfsTo.skip {y : Nat} (h : DfsTo nx x seen pre s) (hy : hasB s y = true) : DfsTo nx x seen (pre ++ [y]) s :=
  ⟨h.lt, h.keeps, h.has, h.shut, h.from_, fun z hz => by
    rcases List.mem_append.1 hz with g | g
    · exact h.got z g
    · simp at g; subst g; exact hy⟩
theorem DfsTo.call {y s' : Nat} (h : DfsTo nx x seen pre s) (hxy : hasB (wd nx x) y = true) (hd : Dfs nx y s s') : DfsTo nx x seen (pre ++ [y]) s' :=
  ⟨hd.lt, fun z hz => hd.keeps z (h.keeps z hz), hd.keeps x h.has, fun u v hu hn hne huv => by
    by_cases hs : hasB s u = true
    · exact hd.keeps v (h.shut u v hs hn hne huv)
    · exact hd.shut u v hu (by simpa using hs) huv, fun z hz => by
    rcases hd.from_ z hz with g | g
    · exact h.from_ z g
    · exact .inr (.step x y z hxy g), fun z hz => by
    rcases List.mem_append.1 hz with g | g
    · exact hd.keeps z (h.got z g)
    · simp at g; subst g; exact hd.has⟩
theorem DfsTo.done (h : DfsTo nx x seen pre s) (hp : ∀ y, hasB (wd nx x) y = true → y ∈ pre) : Dfs nx x seen s :=
  ⟨h.lt, h.keeps, h.has, fun u v hu hn huv => by
    by_cases e : u = x
    · subst e; exact h.got v (hp v huv)
    · exact h.shut u v hu hn e huv, h.from_⟩
/-- a call from nothing seen comes to just what is come to -/
theorem Dfs.all (h : Dfs nx x 0 s) (z : Nat) : hasB s z = true ↔ Reach nx x z := by
  constructor
  · intro hz
    rcases h.from_ z hz with g | g
    · rw [hasB_zero] at g; cases g
    · exact g
  · intro hz
    have key : ∀ u, Reach nx u z → hasB s u = true → hasB s z = true := by
      intro u hu
      induction hu with
      | here u => exact id
      | step u v z h1 _ ih => exact fun hs => ih hz (h.shut u v hs (by rw [hasB_zero]) h1)
    exact key x hz h.has
theorem unseen_lt {n : Nat} (hx : x < n) (hn : hasB seen x = false) (h : ∀ z, hasB seen z = true → hasB s z = true) (hs : hasB s x = true) : unseen n s < unseen n seen := by
  unfold unseen
  refine filter_len_lt (fun z _ hz => ?_) ⟨x, List.mem_range.2 hx, by simp [hn], by simp [hs]⟩
  cases e : hasB seen z with
  | false => rfl
  | true => rw [h z e] at hz; cases hz
end
end Go.Proofs.YtnlkjklcikolaaaDoor
