/- Plain mathematics of what elements make by joins and meets: the least set that has them and is closed. -/
import Derived.Test.YtjbfjdijgfhjfaaDoorLatPlain
import Derived.Test.YtjbfjdijgfhjfaaDoorWords
namespace Go.Proofs.YtjbfjdijgfhjfaaDoor

/-- what can be made of those for which G holds -/
def Gen (j m : Nat → Nat → Nat) (G : Nat → Prop) (x : Nat) : Prop :=
  ∀ S : Nat → Prop, (∀ y, G y → S y) → (∀ a b, S a → S b → S (j a b) ∧ S (m a b)) → S x
theorem Gen.base {j m : Nat → Nat → Nat} {G : Nat → Prop} {x : Nat} (h : G x) : Gen j m G x := fun _ h1 _ => h1 x h
theorem Gen.two {j m : Nat → Nat → Nat} {G : Nat → Prop} {a b : Nat} (ha : Gen j m G a) (hb : Gen j m G b) : Gen j m G (j a b) ∧ Gen j m G (m a b) :=
  ⟨fun S h1 h2 => (h2 a b (ha S h1 h2) (hb S h1 h2)).1, fun S h1 h2 => (h2 a b (ha S h1 h2) (hb S h1 h2)).2⟩
def Closed (j m : Nat → Nat → Nat) (S : Nat → Prop) : Prop := ∀ a b, S a → S b → S (j a b) ∧ S (m a b)
theorem gen_iff {j m : Nat → Nat → Nat} {G S : Nat → Prop} (h1 : ∀ y, G y → S y) (h2 : Closed j m S) (h3 : ∀ y, S y → Gen j m G y) (x : Nat) : S x ↔ Gen j m G x :=
  ⟨h3 x, fun h => h S h1 h2⟩

/-! ### lists that rise -/
theorem rise_ext : ∀ {l m : List Nat}, l.Pairwise (· < ·) → m.Pairwise (· < ·) → (∀ x, x ∈ l ↔ x ∈ m) → l = m
  | [], [], _, _, _ => rfl
  | [], b :: m, _, _, h => by have := (h b).2 (by simp); simp at this
  | a :: l, [], _, _, h => by have := (h a).1 (by simp); simp at this
  | a :: l, b :: m, h1, h2, h => by
    rw [List.pairwise_cons] at h1 h2
    have e : a = b := by
      rcases Nat.lt_trichotomy a b with hlt | he | hgt
      · rcases List.mem_cons.1 ((h a).1 (by simp)) with e | hm
        · exact e
        · have := h2.1 a hm; omega
      · exact he
      · rcases List.mem_cons.1 ((h b).2 (by simp)) with e | hm
        · exact e.symm
        · have := h1.1 b hm; omega
    subst e
    congr 1
    refine rise_ext h1.2 h2.2 fun x => ?_
    constructor
    · intro hx
      rcases List.mem_cons.1 ((h x).1 (by simp [hx])) with e | hm
      · have := h1.1 x hx; omega
      · exact hm
    · intro hx
      rcases List.mem_cons.1 ((h x).2 (by simp [hx])) with e | hm
      · have := h2.1 x hx; omega
      · exact hm
theorem range_riseN (n : Nat) : (List.range n).Pairwise (· < ·) := List.pairwise_lt_range
theorem filter_riseN (n : Nat) (p : Nat → Bool) : ((List.range n).filter p).Pairwise (· < ·) := (range_riseN n).filter p
theorem nodup_leN : ∀ {a b : List Nat}, a.Nodup → (∀ x ∈ a, x ∈ b) → a.length ≤ b.length
  | [], _, _, _ => by simp
  | x :: a, b, hn, h => by
    rw [List.nodup_cons] at hn
    have hx : x ∈ b := h x (by simp)
    have := nodup_leN (a := a) (b := b.erase x) hn.2 fun y hy => by
      have hne : y ≠ x := fun e => hn.1 (e ▸ hy)
      exact (List.mem_erase_of_ne hne).2 (h y (by simp [hy]))
    rw [List.length_erase_of_mem hx] at this
    have hp : 0 < b.length := List.length_pos_of_mem hx
    simp only [List.length_cons]
    omega
theorem nodup_lt {a : List Nat} {n : Nat} (hn : a.Nodup) (h : ∀ x ∈ a, x < n) : a.length ≤ n := by
  have := nodup_leN (b := List.range n) hn fun x hx => List.mem_range.2 (h x hx)
  simpa using this
/-- what a list becomes by one more -/
def addL (l : List Nat) (x : Nat) : List Nat := if x ∈ l then l else l ++ [x]
theorem mem_addL {l : List Nat} {x y : Nat} : y ∈ addL l x ↔ y ∈ l ∨ y = x := by
  unfold addL
  by_cases h : x ∈ l
  · rw [if_pos h]
    exact ⟨.inl, fun g => g.elim id fun e => e ▸ h⟩
  · rw [if_neg h, List.mem_append, List.mem_singleton]
theorem nodup_addL {l : List Nat} (h : l.Nodup) (x : Nat) : (addL l x).Nodup := by
  unfold addL
  by_cases hx : x ∈ l
  · rw [if_pos hx]; exact h
  · rw [if_neg hx, List.nodup_append]
    refine ⟨h, by simp, fun a ha b hb => ?_⟩
    rw [List.mem_singleton] at hb
    subst hb
    exact fun e => hx (e ▸ ha)
theorem addL_pre (l : List Nat) (x : Nat) : ∃ t, addL l x = l ++ t := by
  unfold addL
  by_cases hx : x ∈ l
  · exact ⟨[], by rw [if_pos hx]; simp⟩
  · exact ⟨[x], by rw [if_neg hx]⟩
theorem wd_append_left {l t : List Nat} {i : Nat} (h : i < l.length) : wd (l ++ t) i = wd l i := by
  unfold wd
  rw [List.getD_eq_getElem?_getD, List.getD_eq_getElem?_getD, List.getElem?_append_left h]
theorem wd_memN {l : List Nat} {i : Nat} (h : i < l.length) : wd l i ∈ l := by
  unfold wd
  rw [List.getD_eq_getElem?_getD, List.getElem?_eq_getElem h]
  exact List.getElem_mem h
theorem mem_wdN {l : List Nat} {x : Nat} (h : x ∈ l) : ∃ i, i < l.length ∧ wd l i = x := by
  obtain ⟨i, hi, e⟩ := List.getElem_of_mem h
  refine ⟨i, hi, ?_⟩
  unfold wd
  rw [List.getD_eq_getElem?_getD, List.getElem?_eq_getElem hi]
  exact e

/-- what the list of what is made has, behind k rounds, and in the next one behind i -/
structure MadeTo (j m : Nat → Nat → Nat) (n : Nat) (G : Nat → Prop) (l : List Nat) (k i : Nat) : Prop where
  nodup : l.Nodup
  lt : ∀ x ∈ l, x < n
  has : ∀ x, G x → x ∈ l
  gen : ∀ x ∈ l, Gen j m G x
  pairs : ∀ p q, p < q → q < k → j (wd l p) (wd l q) ∈ l ∧ m (wd l p) (wd l q) ∈ l
  more : ∀ p, p < i → j (wd l p) (wd l k) ∈ l ∧ m (wd l p) (wd l k) ∈ l
theorem MadeTo.len {j m : Nat → Nat → Nat} {n : Nat} {G : Nat → Prop} {l : List Nat} {k i : Nat} (h : MadeTo j m n G l k i) : l.length ≤ n := nodup_lt h.nodup h.lt
theorem MadeTo.grow {j m : Nat → Nat → Nat} {n : Nat} {G : Nat → Prop} {l : List Nat} {k i x : Nat} (h : MadeTo j m n G l k i) (hk : k < l.length) (hi : i ≤ k) (hx : x < n) (hg : Gen j m G x) : MadeTo j m n G (addL l x) k i := by
  obtain ⟨t, ht⟩ := addL_pre l x
  have hw : ∀ p, p < l.length → wd (addL l x) p = wd l p := fun p hp => by rw [ht]; exact wd_append_left hp
  have hm : ∀ y, y ∈ l → y ∈ addL l x := fun y hy => mem_addL.2 (.inl hy)
  refine ⟨nodup_addL h.nodup x, fun y hy => ?_, fun y hy => hm y (h.has y hy), fun y hy => ?_, fun p q h1 h2 => ?_, fun p hp => ?_⟩
  · rcases mem_addL.1 hy with h1 | rfl
    · exact h.lt y h1
    · exact hx
  · rcases mem_addL.1 hy with h1 | rfl
    · exact h.gen y h1
    · exact hg
  · rw [hw p (by omega), hw q (by omega)]
    exact ⟨hm _ (h.pairs p q h1 h2).1, hm _ (h.pairs p q h1 h2).2⟩
  · rw [hw p (by omega), hw k hk]
    exact ⟨hm _ (h.more p hp).1, hm _ (h.more p hp).2⟩
theorem MadeTo.step {j m : Nat → Nat → Nat} {n : Nat} {G : Nat → Prop} {l : List Nat} {k i : Nat} (h : MadeTo j m n G l k i) (h1 : j (wd l i) (wd l k) ∈ l) (h2 : m (wd l i) (wd l k) ∈ l) : MadeTo j m n G l k (i + 1) :=
  ⟨h.nodup, h.lt, h.has, h.gen, h.pairs, fun p hp => by
    by_cases e : p = i
    · subst e; exact ⟨h1, h2⟩
    · exact h.more p (by omega)⟩
theorem MadeTo.next {j m : Nat → Nat → Nat} {n : Nat} {G : Nat → Prop} {l : List Nat} {k : Nat} (h : MadeTo j m n G l k k) : MadeTo j m n G l (k + 1) 0 :=
  ⟨h.nodup, h.lt, h.has, h.gen, fun p q h1 h2 => by
    by_cases e : q = k
    · subst e; exact h.more p h1
    · exact h.pairs p q h1 (by omega), fun p hp => by omega⟩
theorem MadeTo.all {n : Nat} {le : Nat → Nat → Prop} {j m : Nat → Nat → Nat} {b t : Nat} (L : Lat n le j m b t) {G : Nat → Prop} {l : List Nat} (h : MadeTo j m n G l l.length 0) (x : Nat) : x ∈ l ↔ Gen j m G x := by
  refine gen_iff (S := fun x => x ∈ l) h.has (fun a b ha hb => ?_) h.gen x
  obtain ⟨p, hp, rfl⟩ := mem_wdN ha
  obtain ⟨q, hq, rfl⟩ := mem_wdN hb
  have h1 := h.lt _ ha
  have h2 := h.lt _ hb
  rcases Nat.lt_trichotomy p q with hlt | he | hgt
  · exact h.pairs p q hlt hq
  · subst he
    rw [L.jidem h1, L.midem h1]
    exact ⟨ha, ha⟩
  · rw [L.jcomm h1 h2, L.mcomm h1 h2]
    exact h.pairs q p hgt hp

/-! ### sets as lists of bools -/
def bsd (bs : List Bool) (i : Nat) : Bool := bs.getD i false
theorem bsd_lt {bs : List Bool} {i : Nat} (h : bsd bs i = true) : i < bs.length := by
  apply Nat.lt_of_not_le; intro hle
  unfold bsd at h
  rw [List.getD_eq_getElem?_getD, List.getElem?_eq_none hle] at h
  cases h
theorem bsd_set {bs : List Bool} {i k : Nat} (h : i < bs.length) : bsd (bs.set i true) k = true ↔ k = i ∨ bsd bs k = true := by
  unfold bsd
  rw [List.getD_eq_getElem?_getD, List.getElem?_set, List.getD_eq_getElem?_getD]
  by_cases e : i = k
  · subst e; simp [h]
  · have : ¬ k = i := fun h => e h.symm
    simp [e, this]
def cntS (bs : List Bool) : Nat := bs.countP fun b => b
theorem cntS_le (bs : List Bool) : cntS bs ≤ bs.length := List.countP_le_length
theorem cntB_mono : ∀ {az bs : List Bool}, az.length = bs.length → (∀ i, bsd az i = true → bsd bs i = true) → cntS az ≤ cntS bs
  | [], [], _, _ => Nat.le_refl _
  | [], _ :: _, h, _ => by simp at h
  | _ :: _, [], h, _ => by simp at h
  | a :: az, b :: bs, hl, h => by
    have ih := cntB_mono (az := az) (bs := bs) (by simpa using hl) fun i hi => by have := h (i + 1) (by simpa [bsd] using hi); simpa [bsd] using this
    have h0 := h 0
    simp only [bsd, List.getD_cons_zero] at h0
    unfold cntS at *
    rw [List.countP_cons, List.countP_cons]
    cases a <;> cases b <;> simp_all <;> omega
theorem cntS_lt : ∀ {az bs : List Bool}, az.length = bs.length → (∀ i, bsd az i = true → bsd bs i = true) → (∃ i, bsd az i = false ∧ bsd bs i = true) → cntS az < cntS bs
  | [], [], _, _, ⟨i, _, h⟩ => by simp [bsd] at h
  | [], _ :: _, h, _, _ => by simp at h
  | _ :: _, [], h, _, _ => by simp at h
  | a :: az, b :: bs, hl, h, ⟨i, h1, h2⟩ => by
    have hl' : az.length = bs.length := by simpa using hl
    have hh : ∀ i, bsd az i = true → bsd bs i = true := fun i hi => by have := h (i + 1) (by simpa [bsd] using hi); simpa [bsd] using this
    have im := cntB_mono hl' hh
    have h0 := h 0
    simp only [bsd, List.getD_cons_zero] at h0
    cases i with
    | zero =>
      simp only [bsd, List.getD_cons_zero] at h1 h2
      subst h1; subst h2
      unfold cntS at *
      rw [List.countP_cons, List.countP_cons]
      simp
      omega
    | succ i =>
      have ih := cntS_lt hl' hh ⟨i, by simpa [bsd] using h1, by simpa [bsd] using h2⟩
      unfold cntS at *
      rw [List.countP_cons, List.countP_cons]
      cases a <;> cases b <;> simp_all <;> omega
theorem cntB_zero {bs : List Bool} (h : cntS bs = 0) (i : Nat) : bsd bs i = false := by
  cases hb : bsd bs i with
  | false => rfl
  | true =>
    have hi := bsd_lt hb
    unfold cntS at h
    rw [List.countP_eq_zero] at h
    have := h bs[i] (List.getElem_mem hi)
    unfold bsd at hb
    rw [List.getD_eq_getElem?_getD, List.getElem?_eq_getElem hi] at hb
    simp at hb
    exact absurd hb this
/-- the document's set, behind t turns -/
structure TurnTo (j m : Nat → Nat → Nat) (n : Nat) (G : Nat → Prop) (bs : List Bool) (t : Nat) : Prop where
  len : bs.length = n
  has : ∀ x, G x → bsd bs x = true
  gen : ∀ x, bsd bs x = true → Gen j m G x
  far : Closed j m (fun x => bsd bs x = true) ∨ t + 1 ≤ cntS bs
theorem TurnTo.next {j m : Nat → Nat → Nat} {n : Nat} {G : Nat → Prop} {az bs : List Bool} {t : Nat} (h : TurnTo j m n G az t) (hl : bs.length = n) (hm : ∀ x, bsd az x = true → bsd bs x = true) (hg : ∀ x, bsd bs x = true → Gen j m G x)
    (h2 : ∀ a b, bsd az a = true → bsd az b = true → bsd bs (j a b) = true ∧ bsd bs (m a b) = true) : TurnTo j m n G bs (t + 1) := by
  refine ⟨hl, fun x hx => hm x (h.has x hx), hg, ?_⟩
  by_cases hc : Closed j m (fun x => bsd az x = true)
  · left
    have hall : ∀ x, bsd bs x = true → bsd az x = true := fun x hx => hg x hx (fun x => bsd az x = true) h.has hc
    exact fun a b ha hb => h2 a b (hall a ha) (hall b hb)
  · right
    rcases h.far with h3 | h3
    · exact absurd h3 hc
    · have hex : ∃ i, bsd az i = false ∧ bsd bs i = true := by
        apply Classical.byContradiction
        intro hno
        have hall : ∀ x, bsd bs x = true → bsd az x = true := fun x hx => by
          cases hb : bsd az x with
          | true => rfl
          | false => exact absurd ⟨x, hb, hx⟩ hno
        exact hc fun a b ha hb => ⟨hall _ (h2 a b ha hb).1, hall _ (h2 a b ha hb).2⟩
      have := cntS_lt (by rw [h.len, hl]) hm hex
      omega
theorem TurnTo.start {j m : Nat → Nat → Nat} {n : Nat} {G : Nat → Prop} {bs : List Bool} (hl : bs.length = n) (h : ∀ x, bsd bs x = true ↔ G x) : TurnTo j m n G bs 0 := by
  refine ⟨hl, fun x hx => (h x).2 hx, fun x hx => Gen.base ((h x).1 hx), ?_⟩
  by_cases hz : cntS bs = 0
  · left
    intro a b ha hb
    rw [cntB_zero hz a] at ha; cases ha
  · right; omega
theorem TurnTo.all {j m : Nat → Nat → Nat} {n : Nat} {G : Nat → Prop} {bs : List Bool} (h : TurnTo j m n G bs n) (x : Nat) : bsd bs x = true ↔ Gen j m G x := by
  refine gen_iff (S := fun x => bsd bs x = true) h.has ?_ h.gen x
  rcases h.far with h1 | h1
  · exact h1
  · have := cntS_le bs
    rw [h.len] at this
    omega
end Go.Proofs.YtjbfjdijgfhjfaaDoor
