/- Plain: between two elements of an order, one below the other, there are covers. -/
import Derived.Test.YtjbfjdijgfhjfaaDoorCoversPlain
import Derived.Test.YtjbfjdijgfhjfaaDoorLatTab
namespace Go.Proofs.YtjbfjdijgfhjfaaDoor

/-- how many elements are below x -/
def downs (us : List Nat) (x : Nat) : Nat := ((List.range us.length).filter fun z => hasB (wd us z) x).length
theorem flen_le (p q : Nat → Bool) : ∀ l : List Nat, (∀ z ∈ l, p z = true → q z = true) → (l.filter p).length ≤ (l.filter q).length
  | [], _ => Nat.le_refl _
  | x :: l, h => by
    have ih := flen_le p q l fun z hz => h z (List.mem_cons_of_mem _ hz)
    have hx := h x (List.mem_cons_self ..)
    rw [List.filter_cons, List.filter_cons]
    cases hp : p x with
    | true => rw [hx hp]; simp; exact ih
    | false => cases q x <;> simp <;> omega
theorem flen_lt (p q : Nat → Bool) : ∀ l : List Nat, (∀ z ∈ l, p z = true → q z = true) → (∃ y ∈ l, p y = false ∧ q y = true) → (l.filter p).length < (l.filter q).length
  | [], _, h => by obtain ⟨y, hy, _⟩ := h; cases hy
  | x :: l, h, ⟨y, hy, h1, h2⟩ => by
    have hle := flen_le p q l fun z hz => h z (List.mem_cons_of_mem _ hz)
    have hx := h x (List.mem_cons_self ..)
    rw [List.filter_cons, List.filter_cons]
    by_cases e : y = x
    · subst e; rw [h1, h2]; simp; omega
    · have hyl : y ∈ l := by rcases List.mem_cons.1 hy with e' | e'; exact absurd e' e; exact e'
      have ih := flen_lt p q l (fun z hz => h z (List.mem_cons_of_mem _ hz)) ⟨y, hyl, h1, h2⟩
      cases hp : p x with
      | true => rw [hx hp]; simp; exact ih
      | false => cases q x <;> simp <;> omega
theorem downs_lt {us : List Nat} (ho : IsOrd us) {x y : Nat} (hx : x < us.length) (hy : y < us.length) (h : underB us x y = true) : downs us x < downs us y := by
  obtain ⟨hne, hle⟩ := underB_true.1 h
  refine flen_lt _ _ _ (fun z hz hzx => leW_trans ho (List.mem_range.1 hz) hx hy hzx hle) ⟨y, List.mem_range.2 hy, ?_, leW_refl ho hy⟩
  cases hb : hasB (wd us y) x with
  | false => rfl
  | true => exact absurd (leW_anti ho hx hy hle hb) hne
theorem under_trans {us : List Nat} (ho : IsOrd us) {x y z : Nat} (hx : x < us.length) (hy : y < us.length) (hz : z < us.length) (h1 : underB us x y = true) (h2 : underB us y z = true) : underB us x z = true := by
  obtain ⟨n1, l1⟩ := underB_true.1 h1
  obtain ⟨n2, l2⟩ := underB_true.1 h2
  refine underB_true.2 ⟨fun e => ?_, leW_trans ho hx hy hz l1 l2⟩
  subst e
  exact n1 (leW_anti ho hx hy l1 l2)
/-- below x, and not below z alone, there is one that x covers -/
theorem cover_below {us : List Nat} (ho : IsOrd us) : ∀ (m : Nat) {z x : Nat}, z < us.length → x < us.length → underB us z x = true → downs us x - downs us z ≤ m → ∃ c, c < us.length ∧ coverB us c x = true ∧ leW us z c
  | 0, z, x, hz, hx, h, hm => by have := downs_lt ho hz hx h; omega
  | m + 1, z, x, hz, hx, h, hm => by
    by_cases hc : coverB us z x = true
    · exact ⟨z, hz, hc, leW_refl ho hz⟩
    · have : ∃ y, y < us.length ∧ underB us z y = true ∧ underB us y x = true := by
        apply Classical.byContradiction
        intro hno
        exact hc (coverB_true.2 ⟨h, fun y hy hh => hno ⟨y, hy, hh.1, hh.2⟩⟩)
      obtain ⟨y, hy, h1, h2⟩ := this
      have l1 := downs_lt ho hz hy h1
      have l2 := downs_lt ho hy hx h2
      obtain ⟨c, hc1, hc2, hc3⟩ := cover_below ho m hy hx h2 (by omega)
      exact ⟨c, hc1, hc2, leW_trans ho hz hy hc1 (underB_true.1 h1).2 hc3⟩
theorem cover_ex {us : List Nat} (ho : IsOrd us) {z x : Nat} (hz : z < us.length) (hx : x < us.length) (h : underB us z x = true) : ∃ c, c < us.length ∧ coverB us c x = true ∧ leW us z c :=
  cover_below ho _ hz hx h (Nat.le_refl _)
end Go.Proofs.YtjbfjdijgfhjfaaDoor
