/- Plain mathematics of chains and antichains: links of elements to those above them, moved along ways; and that no more links can be made. -/
import Derived.Test.YtjbfjdijgfhjfaaDoorSubPlain
namespace Go.Proofs.YtjbfjdijgfhjfaaDoor

/-- links: nx x is the one that x is linked to, pv y the one that is linked to y -/
structure MatS (up : Nat → Nat → Prop) (nx pv : Nat → Option Nat) : Prop where
  isUp : ∀ {x y}, nx x = some y → up x y
  two : ∀ x y, nx x = some y ↔ pv y = some x
def upd (f : Nat → Option Nat) (a : Nat) (v : Option Nat) : Nat → Option Nat := fun x => if x = a then v else f x
theorem upd_at (f : Nat → Option Nat) (a : Nat) (v : Option Nat) : upd f a v a = v := if_pos rfl
theorem upd_ne {f : Nat → Option Nat} {a x : Nat} {v : Option Nat} (h : x ≠ a) : upd f a v x = f x := if_neg h
/-- no way leads out of D to one that nothing is linked to -/
def Dead (up : Nat → Nat → Prop) (pv : Nat → Option Nat) (D : Nat → Prop) : Prop := ∀ b, D b → ∃ p, pv b = some p ∧ ∀ c, up p c → D c

/-- a has got a next one, by a way over none of S -/
structure Moved (up : Nat → Nat → Prop) (nx pv : Nat → Option Nat) (S : Nat → Prop) (a : Nat) (nx' pv' : Nat → Option Nat) : Prop where
  isUp : ∀ {x y}, nx' x = some y → up x y
  two : ∀ x y, nx a ≠ some y → (nx' x = some y ↔ pv' y = some x)
  old : ∀ x y, nx a = some y → nx' x ≠ some y
  dom : ∀ x, nx' x = none ↔ x ≠ a ∧ nx x = none
  keepP : ∀ y, S y → pv' y = pv y
  keepN : ∀ x, x ≠ a → (∀ y, nx x = some y → S y) → nx' x = nx x
  dead : ∀ D, Dead up pv D → (∀ b, D b → pv' b = pv b) ∧ ¬ ∀ c, up a c → D c

theorem Moved.mono {up : Nat → Nat → Prop} {nx pv nx' pv' : Nat → Option Nat} {S S' : Nat → Prop} {a : Nat} (M : Moved up nx pv S' a nx' pv') (h : ∀ x, S x → S' x) : Moved up nx pv S a nx' pv' :=
  ⟨M.isUp, M.two, M.old, M.dom, fun y hy => M.keepP y (h y hy), fun x hx hy => M.keepN x hx fun y e => h y (hy y e), M.dead⟩

/-- nothing is linked to b -/
theorem moved_free {up : Nat → Nat → Prop} {nx pv : Nat → Option Nat} {S : Nat → Prop} {a b : Nat} (M : MatS up nx pv) (hs : ∀ y, nx a = some y → S y) (hb : ¬ S b) (hu : up a b) (hp : pv b = none) : Moved up nx pv S a (upd nx a (some b)) (upd pv b (some a)) where
  isUp := fun {x y} e => by
    by_cases h : x = a
    · subst h; rw [upd_at] at e; cases e; exact hu
    · rw [upd_ne h] at e; exact M.isUp e
  two := fun x y hy => by
    by_cases h : x = a
    · subst h
      rw [upd_at]
      by_cases g : y = b
      · subst g; rw [upd_at]; exact ⟨fun _ => rfl, fun _ => rfl⟩
      · rw [upd_ne g]
        exact ⟨fun e => absurd (Option.some.inj e).symm g, fun e => absurd ((M.two x y).2 e) hy⟩
    · rw [upd_ne h]
      by_cases g : y = b
      · subst g
        rw [upd_at]
        exact ⟨fun e => (by rw [(M.two x y).1 e] at hp; cases hp), fun e => absurd (Option.some.inj e).symm h⟩
      · rw [upd_ne g]; exact M.two x y
  old := fun x y hy e => by
    by_cases h : x = a
    · subst h; rw [upd_at] at e; cases e; exact hb (hs _ hy)
    · rw [upd_ne h] at e
      have h1 := (M.two x y).1 e
      have h2 := (M.two a y).1 hy
      rw [h1] at h2; exact h (Option.some.inj h2)
  dom := fun x => by
    by_cases h : x = a
    · subst h; rw [upd_at]; exact ⟨fun e => (by cases e), fun e => absurd rfl e.1⟩
    · rw [upd_ne h]; exact ⟨fun e => ⟨h, e⟩, fun e => e.2⟩
  keepP := fun y hy => upd_ne fun e => hb (e ▸ hy)
  keepN := fun x hx _ => upd_ne hx
  dead := fun D hD => by
    have hn : ¬ D b := fun h => by
      obtain ⟨p, e, _⟩ := hD b h
      rw [hp] at e; cases e
    exact ⟨fun c hc => upd_ne fun e => hn (e ▸ hc), fun h => hn (h b hu)⟩

/-- the one that is linked to b has got another one -/
theorem moved_on {up : Nat → Nat → Prop} {nx pv nx' pv' : Nat → Option Nat} {S S' : Nat → Prop} {a b p : Nat} (M : MatS up nx pv) (hs : ∀ y, nx a = some y → S y) (hb : ¬ S b) (hu : up a b) (hp : pv b = some p) (hS : ∀ x, S x → S' x) (hSb : S' b) (K : Moved up nx pv S' p nx' pv') : Moved up nx pv S a (upd nx' a (some b)) (upd pv' b (some a)) := by
  have hnp : nx p = some b := (M.two p b).2 hp
  have hap : a ≠ p := fun e => by subst e; exact hb (hs b hnp)
  have hna : nx' a = nx a := K.keepN a hap fun y e => hS y (hs y e)
  refine ⟨?_, ?_, ?_, ?_, ?_, ?_, ?_⟩
  · intro x y e
    by_cases h : x = a
    · subst h; rw [upd_at] at e; cases e; exact hu
    · rw [upd_ne h] at e; exact K.isUp e
  · intro x y hy
    by_cases h : x = a
    · subst h
      rw [upd_at]
      by_cases g : y = b
      · subst g; rw [upd_at]; exact ⟨fun _ => rfl, fun _ => rfl⟩
      · rw [upd_ne g]
        refine ⟨fun e => absurd (Option.some.inj e).symm g, fun e => ?_⟩
        have := (K.two x y (fun q => g (by rw [hnp] at q; exact (Option.some.inj q).symm))).2 e
        rw [hna] at this; exact absurd this hy
    · rw [upd_ne h]
      by_cases g : y = b
      · subst g
        rw [upd_at]
        exact ⟨fun e => absurd e (K.old x y hnp), fun e => absurd (Option.some.inj e).symm h⟩
      · rw [upd_ne g]
        exact K.two x y (fun q => g (by rw [hnp] at q; exact (Option.some.inj q).symm))
  · intro x y hy e
    by_cases h : x = a
    · subst h; rw [upd_at] at e; cases e; exact hb (hs _ hy)
    · rw [upd_ne h] at e
      by_cases g : y = b
      · subst g; exact K.old x y hnp e
      · have h1 := (K.two x y (fun q => g (by rw [hnp] at q; exact (Option.some.inj q).symm))).1 e
        rw [K.keepP y (hS y (hs y hy)), (M.two a y).1 hy] at h1
        exact h (Option.some.inj h1).symm
  · intro x
    by_cases h : x = a
    · subst h; rw [upd_at]; exact ⟨fun e => (by cases e), fun e => absurd rfl e.1⟩
    · rw [upd_ne h, K.dom x]
      refine ⟨fun e => ⟨h, e.2⟩, fun e => ⟨fun q => ?_, e.2⟩⟩
      subst q; rw [hnp] at e; cases e.2
  · intro y hy
    rw [upd_ne (show y ≠ b from fun e => hb (e ▸ hy))]
    exact K.keepP y (hS y hy)
  · intro x hx hy
    rw [upd_ne hx]
    refine K.keepN x (fun e => ?_) fun y e => hS y (hy y e)
    subst e; exact hb (hy b hnp)
  · intro D hD
    obtain ⟨d1, d2⟩ := K.dead D hD
    have hn : ¬ D b := fun h => by
      obtain ⟨q, e, f⟩ := hD b h
      rw [hp] at e; cases e
      exact d2 f
    refine ⟨fun c hc => ?_, fun h => hn (h b hu)⟩
    rw [upd_ne (show c ≠ b from fun e => hn (e ▸ hc))]
    exact d1 c hc

/-- a has none: all above it are seen, and whatever was seen anew leads nowhere -/
structure Stuck (up : Nat → Nat → Prop) (pv : Nat → Option Nat) (S S' : Nat → Prop) (T : Nat → Prop) : Prop where
  sub : ∀ x, S x → S' x
  all : ∀ c, T c → S' c
  new : ∀ b, S' b → ¬ S b → ∃ p, pv b = some p ∧ ∀ c, up p c → S' c

/-- what is known when the first k elements have been tried -/
def Tried (up : Nat → Nat → Prop) (nx pv : Nat → Option Nat) (k : Nat) : Prop := MatS up nx pv ∧ (∀ x, k ≤ x → nx x = none) ∧ ∃ D, Dead up pv D ∧ ∀ i, i < k → nx i = none → ∀ c, up i c → D c

theorem tried_moved {up : Nat → Nat → Prop} {nx pv nx' pv' : Nat → Option Nat} {k : Nat} {S : Nat → Prop} (H : Tried up nx pv k) (M : Moved up nx pv S k nx' pv') : Tried up nx' pv' (k + 1) := by
  obtain ⟨h1, h2, D, h3, h4⟩ := H
  have hk := h2 k (Nat.le_refl _)
  refine ⟨⟨M.isUp, fun x y => M.two x y (by rw [hk]; intro e; cases e)⟩, fun x hx => (M.dom x).2 ⟨by omega, h2 x (by omega)⟩, D, ?_, ?_⟩
  · intro b hb
    rw [(M.dead D h3).1 b hb]
    exact h3 b hb
  · intro i hi hn
    have := (M.dom i).1 hn
    exact h4 i (by omega) this.2
theorem tried_stuck {up : Nat → Nat → Prop} {nx pv : Nat → Option Nat} {k : Nat} {S' : Nat → Prop} (H : Tried up nx pv k) (M : Stuck up pv (fun _ => False) S' (up k)) : Tried up nx pv (k + 1) := by
  obtain ⟨h1, h2, D, h3, h4⟩ := H
  refine ⟨h1, fun x hx => h2 x (by omega), fun x => D x ∨ S' x, ?_, ?_⟩
  · rintro b (hb | hb)
    · obtain ⟨p, e, f⟩ := h3 b hb
      exact ⟨p, e, fun c hc => .inl (f c hc)⟩
    · obtain ⟨p, e, f⟩ := M.new b hb id
      exact ⟨p, e, fun c hc => .inr (f c hc)⟩
  · intro i hi hn c hc
    by_cases e : i = k
    · subst e; exact .inr (M.all c hc)
    · exact .inl (h4 i (by omega) hn c hc)

/-- how many of the numbers below n have it -/
def cntF (p : Nat → Bool) (n : Nat) : Nat := ((List.range n).filter p).length
theorem cntF_inj {p q : Nat → Bool} {n m : Nat} (f : Nat → Nat) (hf : ∀ x, x < n → p x = true → f x < m ∧ q (f x) = true) (hi : ∀ x y, x < n → y < n → p x = true → p y = true → f x = f y → x = y) : cntF p n ≤ cntF q m := by
  have h := nodup_leN (a := ((List.range n).filter p).map f) (b := (List.range m).filter q) ?_ ?_
  · simpa [cntF] using h
  · rw [List.nodup_iff_pairwise_ne, List.pairwise_map]
    have hn : ((List.range n).filter p).Nodup := List.nodup_range.filter p
    rw [List.nodup_iff_pairwise_ne] at hn
    refine hn.imp_of_mem ?_
    intro x y hx hy hne e
    simp only [List.mem_filter, List.mem_range] at hx hy
    exact hne (hi x y hx.1 hy.1 hx.2 hy.2 e)
  · intro y hy
    obtain ⟨x, hx, rfl⟩ := List.mem_map.1 hy
    simp only [List.mem_filter, List.mem_range] at hx ⊢
    exact hf x hx.1 hx.2
theorem cntF_not (p : Nat → Bool) (n : Nat) : cntF p n + cntF (fun x => !p x) n = n := by
  unfold cntF
  have key : ∀ l : List Nat, (l.filter p).length + (l.filter (fun x => !p x)).length = l.length := by
    intro l
    induction l with
    | nil => rfl
    | cons x l ih => cases h : p x <;> simp [h] <;> omega
  simpa using key (List.range n)

/-- König: those that the ends come to as lower ones and not as upper ones are as many as those that nothing is linked to, or more -/
theorem koenig {up : Nat → Nat → Prop} {nx pv : Nat → Option Nat} {n : Nat} {D : Nat → Prop} (M : MatS up nx pv) (hlt : ∀ {x y}, up x y → x < n ∧ y < n) (lo hi : Nat → Bool) (hD : Dead up pv D) (h1 : ∀ x, x < n → nx x = none → lo x = true) (h3 : ∀ b p, hi b = true → pv b = some p → lo p = true) (h4 : ∀ b, hi b = true → D b) : cntF (fun x => (pv x).isNone) n ≤ cntF (fun x => lo x && !hi x) n := by
  have e1 := cntF_not (fun x => (pv x).isNone) n
  have e2 := cntF_not (fun x => lo x && !hi x) n
  have key : cntF (fun x => !(lo x && !hi x)) n ≤ cntF (fun x => !(pv x).isNone) n := by
    have hpos : ∀ x, hi x = true → ∃ p, pv x = some p := fun x hx => by
      obtain ⟨p, e, _⟩ := hD x (h4 x hx)
      exact ⟨p, e⟩
    have hneg : ∀ x, x < n → hi x = false → (!(lo x && !hi x)) = true → lo x = false ∧ ∃ y, nx x = some y := fun x hx hh hp => by
      have hl : lo x = false := by rw [hh] at hp; simpa using hp
      refine ⟨hl, ?_⟩
      cases e : nx x with
      | none => rw [h1 x hx e] at hl; cases hl
      | some y => exact ⟨y, rfl⟩
    refine cntF_inj (fun x => if hi x then x else (nx x).getD 0) ?_ ?_
    · intro x hx hp
      cases hh : hi x with
      | true =>
        obtain ⟨p, e⟩ := hpos x hh
        simp [hx, e]
      | false =>
        obtain ⟨hl, y, e⟩ := hneg x hx hh hp
        have := (M.two x y).1 e
        simp [e, this, (hlt (M.isUp e)).2]
    · intro x y hx hy hp hq e
      cases hh : hi x with
      | true =>
        cases hg : hi y with
        | true => simpa [hh, hg] using e
        | false =>
          obtain ⟨hl, z, ez⟩ := hneg y hy hg hq
          simp [hh, hg, ez] at e
          subst e
          have := h3 x y hh ((M.two y x).1 ez)
          rw [hl] at this; cases this
      | false =>
        obtain ⟨hl, z, ez⟩ := hneg x hx hh hp
        cases hg : hi y with
        | true =>
          simp [hh, hg, ez] at e
          subst e
          have := h3 z x hg ((M.two x z).1 ez)
          rw [hl] at this; cases this
        | false =>
          obtain ⟨hl2, z2, ez2⟩ := hneg y hy hg hq
          simp [hh, hg, ez, ez2] at e
          subst e
          have a1 := (M.two x z).1 ez
          have a2 := (M.two y z).1 ez2
          rw [a1] at a2; exact Option.some.inj a2
  omega

/-- no set none of which is strictly below another one has more than there are chains that have all -/
theorem loose_le {lt : Nat → Nat → Prop} {n : Nat} (cs : List (List Nat)) (hc : ∀ c ∈ cs, c.Pairwise lt) (hall : ∀ x, x < n → ∃ c ∈ cs, x ∈ c) (A : Nat → Bool) (hA : ∀ x y, A x = true → A y = true → ¬ lt x y) : cntF A n ≤ cs.length := by
  have h := nodup_leN (a := (List.range n).filter A) (b := cs.flatten.filter A) (List.nodup_range.filter A) (fun x hx => by
    simp only [List.mem_filter, List.mem_range] at hx ⊢
    obtain ⟨c, h1, h2⟩ := hall x hx.1
    exact ⟨List.mem_flatten.2 ⟨c, h1, h2⟩, hx.2⟩)
  refine Nat.le_trans h ?_
  clear h hall
  induction cs with
  | nil => simp
  | cons c cs ih =>
    have i := ih fun d hd => hc d (List.mem_cons_of_mem _ hd)
    have one : (c.filter A).length ≤ 1 := by
      have hp : (c.filter A).Pairwise lt := (hc c List.mem_cons_self).filter A
      match h : c.filter A with
      | [] => simp
      | [x] => simp
      | x :: y :: r =>
        rw [h] at hp
        have hx : x ∈ c.filter A := by rw [h]; simp
        have hy : y ∈ c.filter A := by rw [h]; simp
        exact absurd ((List.pairwise_cons.1 hp).1 y (by simp)) (hA x y (List.mem_filter.1 hx).2 (List.mem_filter.1 hy).2)
    rw [List.flatten_cons, List.filter_append, List.length_append, List.length_cons]
    omega
end Go.Proofs.YtjbfjdijgfhjfaaDoor
