/- Maps of orders, without a program: whether numbers are a map, whether it keeps what is below what, what comes of an element. -/
import Derived.Test.YtemabboecmkoaaaDoorKeepZ
import Derived.Test.YtemabboecmkoaaaDoorIntVals
namespace Go.Proofs.YtemabboecmkoaaaDoor
open Go.RowKit Go.Shelf

/-- the numbers as elements -/
def mapN (zs : List Int) : List Nat := zs.map Int.toNat
theorem mapN_len (zs : List Int) : (mapN zs).length = zs.length := by unfold mapN; simp
theorem wd_mapN {zs : List Int} {i : Nat} (h : i < zs.length) : wd (mapN zs) i = (zd zs i).toNat := by
  unfold wd mapN zd
  simp [List.getD_eq_getElem?_getD, List.getElem?_map, List.getElem?_eq_getElem h]
theorem mapN_ints {n n₀ : Nat} {W : World} {a : Option Addr} {zs : List Int} (h : AllIn n zs) (hz : ZInts n₀ W a zs) : IsInts n₀ W a (mapN zs) := by
  rcases hz with hz | ⟨b, off, h1, h2, h3⟩
  · exact .inl (by subst hz; rfl)
  · refine .inr ⟨b, off, h1, h2, fun i hi => ?_⟩
    rw [mapN_len] at hi
    rw [wd_mapN hi, h3 i hi]
    have := h i hi
    congr 1
    congr 1
    omega
/-- has a list of numbers for each of n elements one of m? -/
def intoB (n m : Nat) (zs : List Int) : Bool := decide (zs.length = n) && allInB m zs
theorem intoB_true {n m : Nat} {zs : List Int} : intoB n m zs = true ↔ zs.length = n ∧ AllIn m zs := by
  unfold intoB; rw [Bool.and_eq_true, decide_eq_true_iff, allInB_true]
theorem mapN_lt {n : Nat} {zs : List Int} (h : AllIn n zs) : ∀ i, i < (mapN zs).length → wd (mapN zs) i < n := fun i hi => by
  rw [mapN_len] at hi
  rw [wd_mapN hi]
  have := h i hi
  omega
/-- a map of n elements into m -/
structure IsMap (n m : Nat) (fs : List Nat) : Prop where
  len : fs.length = n
  lt : ∀ i, i < n → wd fs i < m
theorem into_map {n m : Nat} {zs : List Int} (h : intoB n m zs = true) : IsMap n m (mapN zs) := by
  obtain ⟨h1, h2⟩ := intoB_true.1 h
  exact ⟨by rw [mapN_len]; exact h1, fun i hi => mapN_lt h2 i (by rw [mapN_len]; omega)⟩
/-- a is below b only if what a becomes is below what b becomes -/
def keepP (us fs : List Nat) (a b : Nat) : Prop := hasB (wd us a) b = true → hasB (wd us (wd fs a)) (wd fs b) = true
def Mono (us fs : List Nat) : Prop := ∀ a, a < us.length → ∀ b, b < us.length → keepP us fs a b
def decMono (us fs : List Nat) : Decidable (Mono us fs) := by unfold Mono keepP; infer_instance
def monoB (us fs : List Nat) : Bool := @decide (Mono us fs) (decMono us fs)
theorem monoB_true {us fs : List Nat} : monoB us fs = true ↔ Mono us fs := by unfold monoB; exact @decide_eq_true_iff _ (decMono us fs)
theorem monoB_false {us fs : List Nat} : monoB us fs = false ↔ ¬ Mono us fs := by unfold monoB; exact @decide_eq_false_iff_not _ (decMono us fs)
/-- what is told of a map of an order -/
def mapCode (us : List Nat) (zs : List Int) : Int := if intoB us.length us.length zs then (if monoB us (mapN zs) then 0 else 3) else 2
theorem mapCode_arg {us : List Nat} {zs : List Int} (h : intoB us.length us.length zs = false) : mapCode us zs = 2 := by unfold mapCode; rw [h]; rfl
theorem mapCode_form {us : List Nat} {zs : List Int} (h : intoB us.length us.length zs = true) (h2 : monoB us (mapN zs) = false) : mapCode us zs = 3 := by unfold mapCode; rw [h, h2]; rfl
theorem mapCode_ok {us : List Nat} {zs : List Int} (h : intoB us.length us.length zs = true) (h2 : monoB us (mapN zs) = true) : mapCode us zs = 0 := by unfold mapCode; rw [h, h2]; rfl
theorem mapCode_zero {us : List Nat} {zs : List Int} (h : mapCode us zs = 0) : intoB us.length us.length zs = true ∧ monoB us (mapN zs) = true := by
  unfold mapCode at h
  cases e1 : intoB us.length us.length zs
  · rw [e1] at h; simp at h
  · cases e2 : monoB us (mapN zs)
    · rw [e1, e2] at h; simp at h
    · exact ⟨rfl, rfl⟩

/-- what comes of x by k steps -/
def stepN (fs : List Nat) (x : Nat) : Nat → Nat
  | 0 => x
  | k + 1 => wd fs (stepN fs x k)
theorem stepN_lt {n : Nat} {fs : List Nat} (h : IsMap n n fs) {x : Nat} (hx : x < n) : ∀ k, stepN fs x k < n
  | 0 => hx
  | k + 1 => h.lt _ (stepN_lt h hx k)
/-- x comes to y, which stays, by k steps, and none ahead of it stays -/
structure ComesTo (fs : List Nat) (x y k : Nat) : Prop where
  at_ : stepN fs x k = y
  stay : wd fs y = y
  first : ∀ j, j < k → stepN fs x (j + 1) ≠ stepN fs x j
end Go.Proofs.YtemabboecmkoaaaDoor
