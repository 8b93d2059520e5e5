/- Plain mathematics of what elements make by joins and meets: the least set that has them and is closed. Plain mathematics of all down-sets: told one by one by leaving out and taking in, they are all that are closed, and rise. -/
import Derived.Test.YtdeglbmoiofpoaaDoorPart12
import Derived.Test.YtdeglbmoiofpoaaDoorPart1
import Derived.Test.YtdeglbmoiofpoaaDoorPart5
import Derived.Test.YtdeglbmoiofpoaaDoorPart4
namespace Go.Proofs.YtdeglbmoiofpoaaDoor

/-- what can be made of those for which G holds -/
def Gen (j m : Nat → Nat → Nat) (G : Nat → Prop) (x : Nat) : Prop :=
  ∀ S : Nat → Prop, (∀ y, G y → S y) → (∀ a b, S a → S b → S (j a b) ∧ S (m a b)) → S x
theorem Gen.base {j m : Nat → Nat → Nat} {G : Nat → Prop} {x : Nat} (h : G x) : Gen j m G x := fun _ h1 _ => h1 x h
theorem Gen.two {j m : Nat → Nat → Nat} {G : Nat → Prop} {a b : Nat} (ha : Gen j m G a) (hb : Gen j m G b) : Gen j m G (j a b) ∧ Gen j m G (m a b) :=
  ⟨fun S h1 h2 => (h2 a b (ha S h1 h2) (hb S h1 h2)).1, fun S h1 h2 => (h2 a b (ha S h1 h2) (hb S h1 h2)).2⟩
def Closed (j m : Nat → Nat → Nat) (S : Nat → Prop) : Prop := ∀ a b, S a → S b → S (j a b) ∧ S (m a b)
theorem gen_iff {j m : Nat → Nat → Nat} {G S : Nat → Prop} (h1 : ∀ y, G y → S y) (h2 : Closed j m S) (h3 : ∀ y, S y → Gen j m G y) (x : Nat) : S x ↔ Gen j m G x :=
  ⟨h3 x, fun h => h S h1 h2⟩

/-! ### lists that rise -/
theorem rise_ext : ∀ {l m : List Nat}, l.Pairwise (· < ·) → m.Pairwise (· < ·) → (∀ x, x ∈ l ↔ x ∈ m) → l = m
  | [], [], _, _, _ => rfl
  | [], b :: m, _, _, h => by have := (h b).2 (by simp); simp at this
  | a :: l, [], _, _, h => by have := (h a).1 (by simp); simp at this
  | a :: l, b :: m, h1, h2, h => by
    rw [List.pairwise_cons] at h1 h2
    have e : a = b := by
      rcases Nat.lt_trichotomy a b with hlt | he | hgt
      · rcases List.mem_cons.1 ((h a).1 (by simp)) with e | hm
        · exact e
        · have := h2.1 a hm; omega
      · exact he
      · rcases List.mem_cons.1 ((h b).2 (by simp)) with e | hm
        · exact e.symm
        · have := h1.1 b hm; omega
    subst e
    congr 1
    refine rise_ext h1.2 h2.2 fun x => ?_
    constructor
    · intro hx
      rcases List.mem_cons.1 ((h x).1 (by simp [hx])) with e | hm
      · have := h1.1 x hx; omega
      · exact hm
    · intro hx
      rcases List.mem_cons.1 ((h x).2 (by simp [hx])) with e | hm
      · have := h2.1 x hx; omega
      · exact hm
theorem range_riseN (n : Nat) : (List.range n).Pairwise (· < ·) := List.pairwise_lt_range
theorem filter_riseN (n : Nat) (p : Nat → Bool) : ((List.range n).filter p).Pairwise (· < ·) := (range_riseN n).filter p
theorem nodup_leN : ∀ {a b : List Nat}, a.Nodup → (∀ x ∈ a, x ∈ b) → a.length ≤ b.length
  | [], _, _, _ => by simp
  | x :: a, b, hn, h => by
    rw [List.nodup_cons] at hn
    have hx : x ∈ b := h x (by simp)
    have := nodup_leN (a := a) (b := b.erase x) hn.2 fun y hy => by
      have hne : y ≠ x := fun e => hn.1 (e ▸ hy)
      exact (List.mem_erase_of_ne hne).2 (h y (by simp [hy]))
    rw [List.length_erase_of_mem hx] at this
    have hp : 0 < b.length := List.length_pos_of_mem hx
    simp only [List.length_cons]
    omega
theorem nodup_lt {a : List Nat} {n : Nat} (hn : a.Nodup) (h : ∀ x ∈ a, x < n) : a.length ≤ n := by
  have := nodup_leN (b := List.range n) hn fun x hx => List.mem_range.2 (h x hx)
  simpa using this
/-- what a list becomes by one more -/
def addL (l : List Nat) (x : Nat) : List Nat := if x ∈ l then l else l ++ [x]
theorem mem_addL {l : List Nat} {x y : Nat} : y ∈ addL l x ↔ y ∈ l ∨ y = x := by
  unfold addL
  by_cases h : x ∈ l
  · rw [if_pos h]
    exact ⟨.inl, fun g => g.elim id fun e => e ▸ h⟩
  · rw [if_neg h, List.mem_append, List.mem_singleton]
theorem nodup_addL {l : List Nat} (h : l.Nodup) (x : Nat) : (addL l x).Nodup := by
  unfold addL
  by_cases hx : x ∈ l
  · rw [if_pos hx]; exact h
  · rw [if_neg hx, List.nodup_append]
    refine ⟨h, by simp, fun a ha b hb => ?_⟩
    rw [List.mem_singleton] at hb
    subst hb
    exact fun e => hx (e ▸ ha)
theorem addL_pre (l : List Nat) (x : Nat) : ∃ t, addL l x = l ++ t := by
  unfold addL
  by_cases hx : x ∈ l
  · exact ⟨[], by rw [if_pos hx]; simp⟩
  · exact ⟨[x], by rw [if_neg hx]⟩
theorem wd_append_left {l t : List Nat} {i : Nat} (h : i < l.length) : wd (l ++ t) i = wd l i := by
  unfold wd
  rw [List.getD_eq_getElem?_getD, List.getD_eq_getElem?_getD, List.getElem?_append_left h]
theorem wd_memN {l : List Nat} {i : Nat} (h : i < l.length) : wd l i ∈ l := by
  unfold wd
  rw [List.getD_eq_getElem?_getD, List.getElem?_eq_getElem h]
  exact List.getElem_mem h
theorem mem_wdN {l : List Nat} {x : Nat} (h : x ∈ l) : ∃ i, i < l.length ∧ wd l i = x := by
  obtain ⟨i, hi, e⟩ := List.getElem_of_mem h
  refine ⟨i, hi, ?_⟩
  unfold wd
  rw [List.getD_eq_getElem?_getD, List.getElem?_eq_getElem hi]
  exact e

/-- what the list of what is made has, behind k rounds, and in the next one behind i -/
structure MadeTo (j m : Nat → Nat → Nat) (n : Nat) (G : Nat → Prop) (l : List Nat) (k i : Nat) : Prop where
  nodup : l.Nodup
  lt : ∀ x ∈ l, x < n
  has : ∀ x, G x → x ∈ l
  gen : ∀ x ∈ l, Gen j m G x
  pairs : ∀ p q, p < q → q < k → j (wd l p) (wd l q) ∈ l ∧ m (wd l p) (wd l q) ∈ l
  more : ∀ p, p < i → j (wd l p) (wd l k) ∈ l ∧ m (wd l p) (wd l k) ∈ l
theorem MadeTo.len {j m : Nat → Nat → Nat} {n : Nat} {G : Nat → Prop} {l : List Nat} {k i : Nat} (h : MadeTo j m n G l k i) : l.length ≤ n := nodup_lt h.nodup h.lt
theorem MadeTo.grow {j m : Nat → Nat → Nat} {n : Nat} {G : Nat → Prop} {l : List Nat} {k i x : Nat} (h : MadeTo j m n G l k i) (hk : k < l.length) (hi : i ≤ k) (hx : x < n) (hg : Gen j m G x) : MadeTo j m n G (addL l x) k i := by
  obtain ⟨t, ht⟩ := addL_pre l x
  have hw : ∀ p, p < l.length → wd (addL l x) p = wd l p := fun p hp => by rw [ht]; exact wd_append_left hp
  have hm : ∀ y, y ∈ l → y ∈ addL l x := fun y hy => mem_addL.2 (.inl hy)
  refine ⟨nodup_addL h.nodup x, fun y hy => ?_, fun y hy => hm y (h.has y hy), fun y hy => ?_, fun p q h1 h2 => ?_, fun p hp => ?_⟩
  · rcases mem_addL.1 hy with h1 | rfl
    · exact h.lt y h1
    · exact hx
  · rcases mem_addL.1 hy with h1 | rfl
    · exact h.gen y h1
    · exact hg
  · rw [hw p (by omega), hw q (by omega)]
    exact ⟨hm _ (h.pairs p q h1 h2).1, hm _ (h.pairs p q h1 h2).2⟩
  · rw [hw p (by omega), hw k hk]
    exact ⟨hm _ (h.more p hp).1, hm _ (h.more p hp).2⟩
theorem MadeTo.step {j m : Nat → Nat → Nat} {n : Nat} {G : Nat → Prop} {l : List Nat} {k i : Nat} (h : MadeTo j m n G l k i) (h1 : j (wd l i) (wd l k) ∈ l) (h2 : m (wd l i) (wd l k) ∈ l) : MadeTo j m n G l k (i + 1) :=
  ⟨h.nodup, h.lt, h.has, h.gen, h.pairs, fun p hp => by
    by_cases e : p = i
    · subst e; exact ⟨h1, h2⟩
    · exact h.more p (by omega)⟩
theorem MadeTo.next {j m : Nat → Nat → Nat} {n : Nat} {G : Nat → Prop} {l : List Nat} {k : Nat} (h : MadeTo j m n G l k k) : MadeTo j m n G l (k + 1) 0 :=
  ⟨h.nodup, h.lt, h.has, h.gen, fun p q h1 h2 => by
    by_cases e : q = k
    · subst e; exact h.more p h1
    · exact h.pairs p q h1 (by omega), fun p hp => by omega⟩
theorem MadeTo.all {n : Nat} {le : Nat → Nat → Prop} {j m : Nat → Nat → Nat} {b t : Nat} (L : Lat n le j m b t) {G : Nat → Prop} {l : List Nat} (h : MadeTo j m n G l l.length 0) (x : Nat) : x ∈ l ↔ Gen j m G x := by
  refine gen_iff (S := fun x => x ∈ l) h.has (fun a b ha hb => ?_) h.gen x
  obtain ⟨p, hp, rfl⟩ := mem_wdN ha
  obtain ⟨q, hq, rfl⟩ := mem_wdN hb
  have h1 := h.lt _ ha
  have h2 := h.lt _ hb
  rcases Nat.lt_trichotomy p q with hlt | he | hgt
  · exact h.pairs p q hlt hq
  · subst he
    rw [L.jidem h1, L.midem h1]
    exact ⟨ha, ha⟩
  · rw [L.jcomm h1 h2, L.mcomm h1 h2]
    exact h.pairs q p hgt hp

/-! ### sets as lists of bools -/
def bd (bs : List Bool) (i : Nat) : Bool := bs.getD i false
theorem bd_lt {bs : List Bool} {i : Nat} (h : bd bs i = true) : i < bs.length := by
  apply Nat.lt_of_not_le; intro hle
  unfold bd at h
  rw [List.getD_eq_getElem?_getD, List.getElem?_eq_none hle] at h
  cases h
theorem bd_set {bs : List Bool} {i k : Nat} (h : i < bs.length) : bd (bs.set i true) k = true ↔ k = i ∨ bd bs k = true := by
  unfold bd
  rw [List.getD_eq_getElem?_getD, List.getElem?_set, List.getD_eq_getElem?_getD]
  by_cases e : i = k
  · subst e; simp [h]
  · have : ¬ k = i := fun h => e h.symm
    simp [e, this]
def cntB (bs : List Bool) : Nat := bs.countP fun b => b
theorem cntB_le (bs : List Bool) : cntB bs ≤ bs.length := List.countP_le_length
theorem cntB_mono : ∀ {az bs : List Bool}, az.length = bs.length → (∀ i, bd az i = true → bd bs i = true) → cntB az ≤ cntB bs
  | [], [], _, _ => Nat.le_refl _
  | [], _ :: _, h, _ => by simp at h
  | _ :: _, [], h, _ => by simp at h
  | a :: az, b :: bs, hl, h => by
    have ih := cntB_mono (az := az) (bs := bs) (by simpa using hl) fun i hi => by have := h (i + 1) (by simpa [bd] using hi); simpa [bd] using this
    have h0 := h 0
    simp only [bd, List.getD_cons_zero] at h0
    unfold cntB at *
    rw [List.countP_cons, List.countP_cons]
    cases a <;> cases b <;> simp_all <;> omega
theorem cntB_lt : ∀ {az bs : List Bool}, az.length = bs.length → (∀ i, bd az i = true → bd bs i = true) → (∃ i, bd az i = false ∧ bd bs i = true) → cntB az < cntB bs
  | [], [], _, _, ⟨i, _, h⟩ => by simp [bd] at h
  | [], _ :: _, h, _, _ => by simp at h
  | _ :: _, [], h, _, _ => by simp at h
  | a :: az, b :: bs, hl, h, ⟨i, h1, h2⟩ => by
    have hl' : az.length = bs.length := by simpa using hl
    have hh : ∀ i, bd az i = true → bd bs i = true := fun i hi => by have := h (i + 1) (by simpa [bd] using hi); simpa [bd] using this
    have im := cntB_mono hl' hh
    have h0 := h 0
    simp only [bd, List.getD_cons_zero] at h0
    cases i with
    | zero =>
      simp only [bd, List.getD_cons_zero] at h1 h2
      subst h1; subst h2
      unfold cntB at *
      rw [List.countP_cons, List.countP_cons]
      simp
      omega
    | succ i =>
      have ih := cntB_lt hl' hh ⟨i, by simpa [bd] using h1, by simpa [bd] using h2⟩
      unfold cntB at *
      rw [List.countP_cons, List.countP_cons]
      cases a <;> cases b <;> simp_all <;> omega
theorem cntB_zero {bs : List Bool} (h : cntB bs = 0) (i : Nat) : bd bs i = false := by
  cases hb : bd bs i with
  | false => rfl
  | true =>
    have hi := bd_lt hb
    unfold cntB at h
    rw [List.countP_eq_zero] at h
    have := h bs[i] (List.getElem_mem hi)
    unfold bd at hb
    rw [List.getD_eq_getElem?_getD, List.getElem?_eq_getElem hi] at hb
    simp at hb
    exact absurd hb this
/-- the document's set, behind t turns -/
structure TurnTo (j m : Nat → Nat → Nat) (n : Nat) (G : Nat → Prop) (bs : List Bool) (t : Nat) : Prop where
  len : bs.length = n
  has : ∀ x, G x → bd bs x = true
  gen : ∀ x, bd bs x = true → Gen j m G x
  far : Closed j m (fun x => bd bs x = true) ∨ t + 1 ≤ cntB bs
theorem TurnTo.next {j m : Nat → Nat → Nat} {n : Nat} {G : Nat → Prop} {az bs : List Bool} {t : Nat} (h : TurnTo j m n G az t) (hl : bs.length = n) (hm : ∀ x, bd az x = true → bd bs x = true) (hg : ∀ x, bd bs x = true → Gen j m G x)
    (h2 : ∀ a b, bd az a = true → bd az b = true → bd bs (j a b) = true ∧ bd bs (m a b) = true) : TurnTo j m n G bs (t + 1) := by
  refine ⟨hl, fun x hx => hm x (h.has x hx), hg, ?_⟩
  by_cases hc : Closed j m (fun x => bd az x = true)
  · left
    have hall : ∀ x, bd bs x = true → bd az x = true := fun x hx => hg x hx (fun x => bd az x = true) h.has hc
    exact fun a b ha hb => h2 a b (hall a ha) (hall b hb)
  · right
    rcases h.far with h3 | h3
    · exact absurd h3 hc
    · have hex : ∃ i, bd az i = false ∧ bd bs i = true := by
        apply Classical.byContradiction
        intro hno
        have hall : ∀ x, bd bs x = true → bd az x = true := fun x hx => by
          cases hb : bd az x with
          | true => rfl
          | false => exact absurd ⟨x, hb, hx⟩ hno
        exact hc fun a b ha hb => ⟨hall _ (h2 a b ha hb).1, hall _ (h2 a b ha hb).2⟩
      have := cntB_lt (by rw [h.len, hl]) hm hex
      omega
theorem TurnTo.start {j m : Nat → Nat → Nat} {n : Nat} {G : Nat → Prop} {bs : List Bool} (hl : bs.length = n) (h : ∀ x, bd bs x = true ↔ G x) : TurnTo j m n G bs 0 := by
  refine ⟨hl, fun x hx => (h x).2 hx, fun x hx => Gen.base ((h x).1 hx), ?_⟩
  by_cases hz : cntB bs = 0
  · left
    intro a b ha hb
    rw [cntB_zero hz a] at ha; cases ha
  · right; omega
theorem TurnTo.all {j m : Nat → Nat → Nat} {n : Nat} {G : Nat → Prop} {bs : List Bool} (h : TurnTo j m n G bs n) (x : Nat) : bd bs x = true ↔ Gen j m G x := by
  refine gen_iff (S := fun x => bd bs x = true) h.has ?_ h.gen x
  rcases h.far with h1 | h1
  · exact h1
  · have := cntB_le bs
    rw [h.len] at this
    omega
end Go.Proofs.YtdeglbmoiofpoaaDoor

namespace Go.Proofs.YtdeglbmoiofpoaaDoor

/-- the sets told from the first k elements on, with i taken in and o left out -/
def tellL (us ds : List Nat) : Nat → Nat → Nat → List Nat
  | 0, i, _ => [i]
  | k + 1, i, o => (if hasB i k then [] else tellL us ds k i (orW o (wd us k))) ++ (if hasB o k then [] else tellL us ds k (orW i (wd ds k)) o)

/-- closed below -/
def IsDown (us : List Nat) (s : Nat) : Prop := Only us.length s ∧ ∀ i j, i < us.length → hasB (wd us i) j = true → hasB s j = true → hasB s i = true
/-- what is below element j, by ds -/
def Dn (us ds : List Nat) : Prop := ds.length = us.length ∧ Fit ds ∧ ∀ j, j < us.length → ∀ i, hasB (wd ds j) i = true ↔ i < us.length ∧ hasB (wd us i) j = true
theorem Dn.of_tur {us ds : List Nat} (h : Tur us us.length [] ds) : Dn us ds := ⟨h.len, h.fit, fun j hj i => by rw [h.has j hj i]; simp⟩

theorem no0 {x : Nat} {p : Prop} (h : hasB 0 x = true) : p := by rw [hasB_zero] at h; cases h
structure Ch (us : List Nat) (k i o : Nat) : Prop where
  onlyI : Only us.length i
  onlyO : Only us.length o
  low : ∀ x y, x < us.length → hasB (wd us x) y = true → hasB i y = true → hasB i x = true
  high : ∀ x y, x < us.length → hasB (wd us x) y = true → hasB o x = true → hasB o y = true
  apart : ∀ x, hasB i x = true → hasB o x = false
  all : ∀ x, k ≤ x → x < us.length → hasB i x = true ∨ hasB o x = true
theorem Ch.start (us : List Nat) : Ch us us.length 0 0 :=
  ⟨fun _ h => no0 h, fun _ h => no0 h, fun _ _ _ _ h => no0 h, fun _ _ _ _ h => no0 h, fun _ h => no0 h, fun x h1 h2 => by omega⟩

section
variable {us ds : List Nat} (hin : Inside us) (ho : IsOrd us) (hf : Fit us) (hd : Dn us ds)
include hin ho hf

theorem Ch.left {k i o : Nat} (h : Ch us (k + 1) i o) (hk : k < us.length) (hi : hasB i k = false) : Ch us k i (orW o (wd us k)) where
  onlyI := h.onlyI
  onlyO := only_or h.onlyO fun x hx => ord_in hin hf hk hx
  low := h.low
  high := fun x y hx hxy hO => by
    rw [hasB_or, Bool.or_eq_true] at hO ⊢
    rcases hO with hO | hO
    · exact .inl (h.high x y hx hxy hO)
    · exact .inr (ord_trans hin ho hf hk hO hxy)
  apart := fun x hx => by
    rw [hasB_or, h.apart x hx, Bool.false_or]
    cases e : hasB (wd us k) x with
    | false => rfl
    | true => rw [h.low k x hk e hx] at hi; cases hi
  all := fun x h1 h2 => by
    by_cases e : x = k
    · subst e; right; rw [hasB_or, ord_refl ho h2, Bool.or_true]
    · rcases h.all x (by omega) h2 with g | g
      · exact .inl g
      · right; rw [hasB_or, g]; rfl
include hd
theorem Ch.take {k i o : Nat} (h : Ch us (k + 1) i o) (hk : k < us.length) (hO : hasB o k = false) : Ch us k (orW i (wd ds k)) o where
  onlyI := only_or h.onlyI fun x hx => ((hd.2.2 k hk x).1 hx).1
  onlyO := h.onlyO
  low := fun x y hx hxy hI => by
    rw [hasB_or, Bool.or_eq_true] at hI ⊢
    rcases hI with hI | hI
    · exact .inl (h.low x y hx hxy hI)
    · refine .inr ((hd.2.2 k hk x).2 ⟨hx, ?_⟩)
      exact ord_trans hin ho hf hx hxy ((hd.2.2 k hk y).1 hI).2
  high := h.high
  apart := fun x hx => by
    rw [hasB_or, Bool.or_eq_true] at hx
    rcases hx with hx | hx
    · exact h.apart x hx
    · have := (hd.2.2 k hk x).1 hx
      cases e : hasB o x with
      | false => rfl
      | true => rw [h.high x k this.1 this.2 e] at hO; cases hO
  all := fun x h1 h2 => by
    by_cases e : x = k
    · subst e; left; rw [hasB_or, (hd.2.2 x h2 x).2 ⟨h2, ord_refl ho h2⟩, Bool.or_true]
    · rcases h.all x (by omega) h2 with g | g
      · left; rw [hasB_or, g]; rfl
      · exact .inr g

theorem mem_tell : ∀ {k i o : Nat}, k ≤ us.length → Ch us k i o → ∀ s, s ∈ tellL us ds k i o ↔ IsDown us s ∧ (∀ x, hasB i x = true → hasB s x = true) ∧ ∀ x, hasB o x = true → hasB s x = false
  | 0, i, o, _, h, s => by
    rw [tellL, List.mem_singleton]
    constructor
    · rintro rfl
      exact ⟨⟨h.onlyI, h.low⟩, fun _ hx => hx, fun x hx => by
        cases e : hasB s x with
        | false => rfl
        | true => rw [h.apart x e] at hx; cases hx⟩
    · rintro ⟨h1, h2, h3⟩
      refine word_ext' fun x => ⟨fun hx => ?_, h2 x⟩
      rcases h.all x (Nat.zero_le _) (h1.1 x hx) with g | g
      · exact g
      · rw [h3 x g] at hx; cases hx
  | k + 1, i, o, hk, h, s => by
    have hk' : k < us.length := hk
    rw [tellL, List.mem_append]
    have g1 : hasB i k = false → (s ∈ tellL us ds k i (orW o (wd us k)) ↔ (IsDown us s ∧ (∀ x, hasB i x = true → hasB s x = true) ∧ ∀ x, hasB o x = true → hasB s x = false) ∧ hasB s k = false) := fun hi => by
      rw [mem_tell (Nat.le_of_lt hk') (h.left hin ho hf hk' hi) s]
      constructor
      · rintro ⟨h1, h2, h3⟩
        exact ⟨⟨h1, h2, fun x hx => h3 x (by rw [hasB_or, hx]; rfl)⟩, h3 k (by rw [hasB_or, ord_refl ho hk', Bool.or_true])⟩
      · rintro ⟨⟨h1, h2, h3⟩, h4⟩
        refine ⟨h1, h2, fun x hx => ?_⟩
        rw [hasB_or, Bool.or_eq_true] at hx
        rcases hx with hx | hx
        · exact h3 x hx
        · cases e : hasB s x with
          | false => rfl
          | true => rw [h1.2 k x hk' hx e] at h4; cases h4
    have g2 : hasB o k = false → (s ∈ tellL us ds k (orW i (wd ds k)) o ↔ (IsDown us s ∧ (∀ x, hasB i x = true → hasB s x = true) ∧ ∀ x, hasB o x = true → hasB s x = false) ∧ hasB s k = true) := fun hO => by
      rw [mem_tell (Nat.le_of_lt hk') (h.take hin ho hf hd hk' hO) s]
      constructor
      · rintro ⟨h1, h2, h3⟩
        exact ⟨⟨h1, fun x hx => h2 x (by rw [hasB_or, hx]; rfl), h3⟩, h2 k (by rw [hasB_or, (hd.2.2 k hk' k).2 ⟨hk', ord_refl ho hk'⟩, Bool.or_true])⟩
      · rintro ⟨⟨h1, h2, h3⟩, h4⟩
        refine ⟨h1, fun x hx => ?_, h3⟩
        rw [hasB_or, Bool.or_eq_true] at hx
        rcases hx with hx | hx
        · exact h2 x hx
        · have := (hd.2.2 k hk' x).1 hx
          exact h1.2 x k this.1 this.2 h4
    cases hi : hasB i k with
    | true =>
      have hO := h.apart k hi
      rw [if_pos rfl, hO, if_neg (by simp), g2 hO]
      simp only [List.not_mem_nil, false_or]
      exact ⟨fun x => x.1, fun x => ⟨x, x.2.1 k hi⟩⟩
    | false =>
      rw [if_neg (by simp), g1 hi]
      cases hO : hasB o k with
      | true =>
        rw [if_pos rfl]
        simp only [List.not_mem_nil, or_false]
        exact ⟨fun x => x.1, fun x => ⟨x, x.2.2 k hO⟩⟩
      | false =>
        rw [if_neg (by simp), g2 hO]
        constructor
        · rintro (x | x) <;> exact x.1
        · intro x
          cases e : hasB s k with
          | false => exact .inl ⟨x, rfl⟩
          | true => exact .inr ⟨x, rfl⟩

omit hin ho hf hd in
/-- of two words that agree above k the one without k is less -/
theorem lt_of_high {a b k : Nat} (h : ∀ x, k < x → hasB a x = hasB b x) (ha : hasB a k = false) (hb : hasB b k = true) : a < b := by
  unfold hasB at *
  have e1 : a / 2 ^ (k + 1) = b / 2 ^ (k + 1) := by
    apply Nat.eq_of_testBit_eq
    intro j
    rw [Nat.testBit_div_two_pow, Nat.testBit_div_two_pow]
    exact h _ (by omega)
  have a1 := Nat.div_add_mod a (2 ^ (k + 1))
  have b1 := Nat.div_add_mod b (2 ^ (k + 1))
  have am : a % 2 ^ (k + 1) < 2 ^ k := by
    apply Nat.lt_pow_two_of_testBit
    intro j hj
    rw [Nat.testBit_mod_two_pow]
    by_cases e : j = k
    · subst e; rw [ha]; simp
    · have : ¬ j < k + 1 := by omega
      simp [this]
  have bm : 2 ^ k ≤ b % 2 ^ (k + 1) := by
    apply Nat.ge_two_pow_of_testBit (i := k)
    rw [Nat.testBit_mod_two_pow, hb]; simp
  rw [e1] at a1
  omega
theorem rise_tell : ∀ {k i o : Nat}, k ≤ us.length → Ch us k i o → (tellL us ds k i o).Pairwise (· < ·)
  | 0, i, o, _, _ => by rw [tellL]; simp
  | k + 1, i, o, hk, h => by
    have hk' : k < us.length := hk
    rw [tellL, List.pairwise_append]
    refine ⟨?_, ?_, ?_⟩
    · cases hi : hasB i k with
      | true => rw [if_pos rfl]; simp
      | false => rw [if_neg (by simp)]; exact rise_tell (Nat.le_of_lt hk') (h.left hin ho hf hk' hi)
    · cases hO : hasB o k with
      | true => rw [if_pos rfl]; simp
      | false => rw [if_neg (by simp)]; exact rise_tell (Nat.le_of_lt hk') (h.take hin ho hf hd hk' hO)
    · intro a ha b hb
      cases hi : hasB i k with
      | true => rw [hi, if_pos rfl] at ha; simp at ha
      | false =>
        cases hO : hasB o k with
        | true => rw [hO, if_pos rfl] at hb; simp at hb
        | false =>
          rw [hi, if_neg (by simp), mem_tell hin ho hf hd (Nat.le_of_lt hk') (h.left hin ho hf hk' hi)] at ha
          rw [hO, if_neg (by simp), mem_tell hin ho hf hd (Nat.le_of_lt hk') (h.take hin ho hf hd hk' hO)] at hb
          have ak : hasB a k = false := ha.2.2 k (by rw [hasB_or, ord_refl ho hk', Bool.or_true])
          have bk : hasB b k = true := hb.2.1 k (by rw [hasB_or, (hd.2.2 k hk' k).2 ⟨hk', ord_refl ho hk'⟩, Bool.or_true])
          refine lt_of_high (k := k) (fun x hx => ?_) ak bk
          by_cases hxn : x < us.length
          · rcases h.all x (by omega) hxn with g | g
            · rw [ha.2.1 x g, hb.2.1 x (by rw [hasB_or, g]; rfl)]
            · rw [ha.2.2 x (by rw [hasB_or, g]; rfl), hb.2.2 x g]
          · have e1 : hasB a x = false := by
              cases e : hasB a x with
              | false => rfl
              | true => exact absurd (ha.1.1 x e) hxn
            have e2 : hasB b x = false := by
              cases e : hasB b x with
              | false => rfl
              | true => exact absurd (hb.1.1 x e) hxn
            rw [e1, e2]
end

/-- the document's closed: for each element of the set all below it -/
def closedB (ds : List Nat) (s : Nat) : Bool := (List.range ds.length).all fun i => !hasB s i || decide (andW s (wd ds i) = wd ds i)
theorem closedB_iff {ds : List Nat} {s : Nat} : closedB ds s = true ↔ ∀ i, i < ds.length → hasB s i = true → andW s (wd ds i) = wd ds i := by
  unfold closedB
  rw [List.all_eq_true]
  constructor
  · intro h i hi hs
    have := h i (List.mem_range.2 hi)
    rw [hs] at this
    simpa using this
  · intro h i hi
    rw [List.mem_range] at hi
    cases e : hasB s i with
    | false => rfl
    | true => simpa using h i hi e
theorem only_lt {n s : Nat} (h : Only n s) : s < 2 ^ n := by
  apply Nat.lt_pow_two_of_testBit
  intro i hi
  cases e : s.testBit i with
  | false => rfl
  | true => have := h i e; omega
theorem lt_only {n s : Nat} (h : s < 2 ^ n) : Only n s := fun i hi => by
  apply Nat.lt_of_not_le; intro hle
  unfold hasB at hi
  rw [Nat.testBit_lt_two_pow (Nat.lt_of_lt_of_le h (Nat.pow_le_pow_right (by decide) hle))] at hi; cases hi
theorem closed_down {us ds : List Nat} (hd : Dn us ds) {s : Nat} (hs : Only us.length s) : closedB ds s = true ↔ IsDown us s := by
  rw [closedB_iff, hd.1]
  constructor
  · refine fun h => ⟨hs, fun i j hi hij hj => ?_⟩
    have hjn := hs j hj
    have e := h j hjn hj
    have : hasB (wd ds j) i = true := (hd.2.2 j hjn i).2 ⟨hi, hij⟩
    rw [← e, hasB_and, Bool.and_eq_true] at this
    exact this.1
  · intro h i hi hsi
    refine word_ext' fun x => ?_
    rw [hasB_and, Bool.and_eq_true]
    refine ⟨fun g => g.2, fun g => ⟨?_, g⟩⟩
    have := (hd.2.2 i hi x).1 g
    exact h.2 x i this.1 this.2 hsi
/-- all down-sets, rising -/
def allD (ds : List Nat) : List Nat := (List.range (2 ^ ds.length)).filter (closedB ds)
theorem rise_allD (ds : List Nat) : (allD ds).Pairwise (· < ·) := filter_riseN _ _
theorem nodup_allD (ds : List Nat) : (allD ds).Nodup := List.nodup_range.filter _
theorem mem_allD {us ds : List Nat} (hd : Dn us ds) {s : Nat} : s ∈ allD ds ↔ IsDown us s := by
  unfold allD
  rw [List.mem_filter, List.mem_range, hd.1]
  constructor
  · rintro ⟨h1, h2⟩; exact (closed_down hd (lt_only h1)).1 h2
  · intro h; exact ⟨only_lt h.1, (closed_down hd h.1).2 h⟩
theorem tell_all {us ds : List Nat} (hin : Inside us) (ho : IsOrd us) (hf : Fit us) (hd : Dn us ds) : tellL us ds us.length 0 0 = allD ds := by
  have hc := Ch.start us
  refine rise_ext (rise_tell hin ho hf hd (Nat.le_refl _) hc) (rise_allD ds) fun s => ?_
  rw [mem_tell hin ho hf hd (Nat.le_refl _) hc, mem_allD hd]
  exact ⟨fun h => h.1, fun h => ⟨h, fun _ hx => no0 hx, fun _ hx => no0 hx⟩⟩
theorem allD_len {ds : List Nat} (h : ds.length ≤ 16) : (allD ds).length ≤ 65536 := by
  unfold allD
  refine Nat.le_trans (List.length_filter_le _ _) ?_
  rw [List.length_range]
  exact Nat.le_trans (Nat.pow_le_pow_right (by decide) h) (by decide)
theorem allD_lt {ds : List Nat} (h : ds.length ≤ 16) {s : Nat} (hs : s ∈ allD ds) : s < 65536 := by
  unfold allD at hs
  rw [List.mem_filter, List.mem_range] at hs
  exact Nat.lt_of_lt_of_le hs.1 (Nat.le_trans (Nat.pow_le_pow_right (by decide) h) (by decide))
end Go.Proofs.YtdeglbmoiofpoaaDoor
