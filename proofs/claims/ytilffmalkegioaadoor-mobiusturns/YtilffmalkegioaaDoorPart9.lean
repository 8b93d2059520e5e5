/- Numbers that go round at 64 bits: sums of them, tables of them by an order, their products and their inverses. Lists of numbers that go round at 64 bits, in memory. -/
import Derived.Test.YtilffmalkegioaaDoorPart7
import Derived.Test.YtilffmalkegioaaDoorPart8
import Derived.Test.YtilffmalkegioaaDoorPart6
namespace Go.Proofs.YtilffmalkegioaaDoor

abbrev B64 := BitVec 64
/-- the sum over a list -/
def sl : List Nat → (Nat → B64) → B64
  | [], _ => 0
  | x :: l, f => f x + sl l f
/-- the sum over all below n -/
def sm : Nat → (Nat → B64) → B64
  | 0, _ => 0
  | n + 1, f => sm n f + f n
theorem sl_append (l m : List Nat) (f : Nat → B64) : sl (l ++ m) f = sl l f + sl m f := by
  induction l with
  | nil => simp [sl]
  | cons x l ih => simp only [List.cons_append, sl, ih]; grind
theorem sl_snoc (l : List Nat) (x : Nat) (f : Nat → B64) : sl (l ++ [x]) f = sl l f + f x := by rw [sl_append]; simp [sl]
theorem sl_range (n : Nat) (f : Nat → B64) : sl (List.range n) f = sm n f := by
  induction n with
  | zero => rfl
  | succ n ih => rw [List.range_succ, sl_snoc, ih]; rfl
theorem sl_perm {l m : List Nat} (h : l.Perm m) (f : Nat → B64) : sl l f = sl m f := by
  induction h with
  | nil => rfl
  | cons x _ ih => simp only [sl, ih]
  | swap x y l => simp only [sl]; grind
  | trans _ _ h1 h2 => rw [h1, h2]
theorem sl_congr {l : List Nat} {f g : Nat → B64} (h : ∀ x ∈ l, f x = g x) : sl l f = sl l g := by
  induction l with
  | nil => rfl
  | cons x l ih => simp only [sl]; rw [h x (by simp), ih fun y hy => h y (by simp [hy])]
theorem sl_neg (l : List Nat) (f : Nat → B64) : sl l (fun x => -f x) = -sl l f := by
  induction l with
  | nil => simp [sl]
  | cons x l ih => simp only [sl, ih]; grind
theorem sl_mul (l : List Nat) (c : B64) (f : Nat → B64) : sl l (fun x => c * f x) = c * sl l f := by
  induction l with
  | nil => simp [sl]
  | cons x l ih => simp only [sl, ih]; grind
theorem sl_zero {l : List Nat} {f : Nat → B64} (h : ∀ x ∈ l, f x = 0) : sl l f = 0 := by
  induction l with
  | nil => rfl
  | cons x l ih => simp only [sl]; rw [h x (by simp), ih fun y hy => h y (by simp [hy])]; simp
theorem sm_congr {n : Nat} {f g : Nat → B64} (h : ∀ x, x < n → f x = g x) : sm n f = sm n g := by
  rw [← sl_range, ← sl_range]; exact sl_congr fun x hx => h x (List.mem_range.1 hx)
theorem sm_zero {n : Nat} {f : Nat → B64} (h : ∀ x, x < n → f x = 0) : sm n f = 0 := by
  rw [← sl_range]; exact sl_zero fun x hx => h x (List.mem_range.1 hx)
theorem sm_add (n : Nat) (f g : Nat → B64) : sm n (fun x => f x + g x) = sm n f + sm n g := by
  induction n with
  | zero => simp [sm]
  | succ n ih => simp only [sm, ih]; grind
theorem sm_mul (n : Nat) (c : B64) (f : Nat → B64) : sm n (fun x => c * f x) = c * sm n f := by
  rw [← sl_range, ← sl_range]; exact sl_mul _ _ _
theorem sm_mulr (n : Nat) (c : B64) (f : Nat → B64) : sm n (fun x => f x * c) = sm n f * c := by
  rw [show (fun x => f x * c) = (fun x => c * f x) from funext fun x => BitVec.mul_comm _ _, sm_mul, BitVec.mul_comm]
theorem sm_neg (n : Nat) (f : Nat → B64) : sm n (fun x => -f x) = -sm n f := by
  rw [← sl_range, ← sl_range]; exact sl_neg _ _
theorem sm_swap (n m : Nat) (f : Nat → Nat → B64) : sm n (fun x => sm m (fun y => f x y)) = sm m (fun y => sm n (fun x => f x y)) := by
  induction n with
  | zero => simp only [sm]; exact (sm_zero fun _ _ => rfl).symm
  | succ n ih => simp only [sm, ih]; rw [← sm_add]
theorem sm_one {n a : Nat} (h : a < n) {f : Nat → B64} (h0 : ∀ x, x < n → x ≠ a → f x = 0) : sm n f = f a := by
  induction n with
  | zero => omega
  | succ n ih =>
    simp only [sm]
    by_cases e : a = n
    · subst e
      rw [sm_zero fun x hx => h0 x (by omega) (by omega)]; simp
    · rw [ih (by omega) fun x hx => h0 x (by omega), h0 n (by omega) (fun h => e h.symm)]; simp

abbrev Mat := Nat → Nat → B64
def one : Mat := fun a b => if a = b then 1 else 0
theorem one_eq (a : Nat) : one a a = 1 := by simp [one]
theorem one_ne {a b : Nat} (h : a ≠ b) : one a b = 0 := by simp [one, h]
/-- the product of two tables -/
def mm (n : Nat) (f g : Mat) : Mat := fun a b => sm n fun x => f a x * g x b
/-- alike where a and b are below n -/
def EqN (n : Nat) (f g : Mat) : Prop := ∀ a, a < n → ∀ b, b < n → f a b = g a b
theorem EqN.refl (n : Nat) (f : Mat) : EqN n f f := fun _ _ _ _ => rfl
theorem EqN.symm {n : Nat} {f g : Mat} (h : EqN n f g) : EqN n g f := fun a ha b hb => (h a ha b hb).symm
theorem EqN.trans {n : Nat} {f g h : Mat} (h1 : EqN n f g) (h2 : EqN n g h) : EqN n f h := fun a ha b hb => (h1 a ha b hb).trans (h2 a ha b hb)
theorem mm_congr {n : Nat} {f f' g g' : Mat} (h1 : EqN n f f') (h2 : EqN n g g') : EqN n (mm n f g) (mm n f' g') := fun a ha b hb =>
  sm_congr fun x hx => by rw [h1 a ha x hx, h2 x hx b hb]
theorem mm_assoc (n : Nat) (f g h : Mat) : mm n (mm n f g) h = mm n f (mm n g h) := by
  funext a b
  unfold mm
  rw [show (fun x => sm n (fun y => f a y * g y x) * h x b) = fun x => sm n fun y => f a y * g y x * h x b from funext fun x => (sm_mulr _ _ _).symm, sm_swap]
  refine sm_congr fun y _ => ?_
  rw [← sm_mul]
  exact sm_congr fun x _ => BitVec.mul_assoc _ _ _
theorem mm_one (n : Nat) (f : Mat) : EqN n (mm n f one) f := fun a _ b hb => by
  unfold mm
  rw [sm_one hb fun x _ hne => by rw [one_ne hne]; simp, one_eq]; simp
theorem one_mm (n : Nat) (f : Mat) : EqN n (mm n one f) f := fun a ha b _ => by
  unfold mm
  rw [sm_one ha fun x _ hne => by rw [one_ne (Ne.symm hne)]; simp, one_eq]; simp
theorem mm_add (n : Nat) (f g h : Mat) : mm n f (fun a b => g a b + h a b) = fun a b => mm n f g a b + mm n f h a b := by
  funext a b
  unfold mm
  rw [← sm_add]
  exact sm_congr fun x _ => BitVec.mul_add
/-- what is the inverse from the left is what is it from the right -/
theorem inv_unique {n : Nat} {f g h : Mat} (h1 : EqN n (mm n h f) one) (h2 : EqN n (mm n f g) one) : EqN n h g :=
  ((mm_one n h).symm.trans (mm_congr (EqN.refl n h) h2.symm)).trans (by
    rw [← mm_assoc]
    exact (mm_congr h1 (EqN.refl n g)).trans (one_mm n g))

/-- what is 0 where a is not below b -/
def Tab (us : List Nat) (f : Mat) : Prop := ∀ a, a < us.length → ∀ b, b < us.length → ¬ leW us a b → f a b = 0
/-- 1 or -1 where a is b -/
def Unit1 (n : Nat) (f : Mat) : Prop := ∀ a, a < n → f a a * f a a = 1
/-- what the program makes of a list: each row by those of what stands behind it -/
def invG (s : Mat) : List Nat → Mat
  | [] => one
  | a :: l => fun r b => if r = a then (one a b + sl l (fun x => -(s a x) * invG s l x b)) * s a a else invG s l r b
theorem invG_row {s : Mat} : ∀ {l : List Nat}, l.Nodup → (l.Pairwise fun x y => s y x = 0) → (∀ x ∈ l, s x x * s x x = 1) → ∀ a ∈ l, ∀ b, sl l (fun x => s a x * invG s l x b) = one a b
  | [], _, _, _, _, ha, _ => by simp at ha
  | c :: l, hn, hp, hu, a, ha, b => by
    rw [List.nodup_cons] at hn
    rw [List.pairwise_cons] at hp
    have hG : ∀ a, sl l (fun x => s a x * invG s (c :: l) x b) = sl l (fun x => s a x * invG s l x b) := fun a => sl_congr fun x hx => by
      have hne : x ≠ c := fun e => hn.1 (e ▸ hx)
      simp only [invG, if_neg hne]
    simp only [sl]
    rw [hG]
    by_cases e : a = c
    · subst e
      simp only [invG, if_pos]
      have h1 := hu a (by simp)
      have h2 : sl l (fun x => -(s a x) * invG s l x b) = - sl l (fun x => s a x * invG s l x b) := by
        rw [← sl_neg]; exact sl_congr fun x _ => by grind
      rw [h2]
      generalize sl l (fun x => s a x * invG s l x b) = S at *
      generalize s a a = d at *
      generalize one a b = o at *
      have : d * ((o + -S) * d) + S = (d * d) * o - (d * d) * S + S := by grind
      rw [this, h1]; grind
    · have ha' : a ∈ l := by
        rcases List.mem_cons.1 ha with h | h
        · exact absurd h e
        · exact h
      rw [hp.1 a ha', invG_row hn.2 hp.2 (fun x hx => hu x (by simp [hx])) a ha' b]; grind
theorem invG_out {s : Mat} : ∀ {l : List Nat} {r : Nat}, r ∉ l → ∀ b, invG s l r b = one r b
  | [], _, _, _ => rfl
  | c :: l, r, h, b => by
    simp only [List.mem_cons, not_or] at h
    simp only [invG, if_neg h.1]
    exact invG_out h.2 b
theorem invG_tab {us : List Nat} (ho : IsOrd us) {s : Mat} (hs : Tab us s) : ∀ {l : List Nat}, (∀ x ∈ l, x < us.length) → Tab us (invG s l)
  | [], _ => fun a ha b hb h => one_ne fun e => h (by subst e; exact leW_refl ho ha)
  | c :: l, hl => fun a ha b hb h => by
    have ih := invG_tab ho hs (l := l) fun x hx => hl x (by simp [hx])
    simp only [invG]
    split
    · next e =>
      subst e
      rw [one_ne fun e => h (by subst e; exact leW_refl ho ha), sl_zero fun x hx => ?_]
      · simp
      · have hx' := hl x (by simp [hx])
        by_cases h1 : leW us a x
        · by_cases h2 : leW us x b
          · exact absurd (leW_trans ho ha hx' hb h1 h2) h
          · rw [ih x hx' b hb h2]; simp
        · rw [hs a ha x hx' h1]; simp
    · exact ih a ha b hb h
theorem invG_diag {us : List Nat} (ho : IsOrd us) {s : Mat} (hs : Tab us s) : ∀ {l : List Nat}, l.Nodup → (∀ x ∈ l, x < us.length) → ∀ a ∈ l, invG s l a a = s a a
  | [], _, _, _, ha => by simp at ha
  | c :: l, hn, hl, a, ha => by
    rw [List.nodup_cons] at hn
    have hl' : ∀ x ∈ l, x < us.length := fun x hx => hl x (by simp [hx])
    simp only [invG]
    split
    · next e =>
      subst e
      have ha' := hl a (by simp)
      rw [one_eq, sl_zero fun x hx => ?_]
      · simp
      · have hx' := hl' x hx
        have hne : a ≠ x := fun e => hn.1 (e ▸ hx)
        by_cases h1 : leW us a x
        · have h2 : ¬ leW us x a := fun h2 => hne (leW_anti ho ha' hx' h1 h2)
          rw [invG_tab ho hs hl' x hx' a ha' h2]; simp
        · rw [hs a ha' x hx' h1]; simp
    · next e =>
      rcases List.mem_cons.1 ha with h | h
      · exact absurd h e
      · exact invG_diag ho hs hn.2 hl' a h
/-- a line of all elements, each behind those strictly below it -/
structure Line (us l : List Nat) : Prop where
  nodup : l.Nodup
  mem : ∀ x, x ∈ l ↔ x < us.length
  up : l.Pairwise fun x y => ¬ leW us y x
theorem Line.perm {us l : List Nat} (h : Line us l) : (List.range us.length).Perm l :=
  (List.perm_ext_iff_of_nodup List.nodup_range h.nodup).2 fun x => by rw [List.mem_range, h.mem]
theorem Line.len {us l : List Nat} (h : Line us l) : l.length = us.length := by have := h.perm.length_eq; simp at this; exact this.symm
theorem inv_right {us l : List Nat} (hL : Line us l) {s : Mat} (hs : Tab us s) (hu : Unit1 us.length s) : EqN us.length (mm us.length s (invG s l)) one := fun a ha b _ => by
  unfold mm
  rw [← sl_range, sl_perm hL.perm]
  exact invG_row hL.nodup (hL.up.imp_of_mem fun hx hy h => hs _ ((hL.mem _).1 hy) _ ((hL.mem _).1 hx) h) (fun x hx => hu x ((hL.mem x).1 hx)) a ((hL.mem a).2 ha) b
theorem inv_tab {us l : List Nat} (ho : IsOrd us) (hL : Line us l) {s : Mat} (hs : Tab us s) : Tab us (invG s l) := invG_tab ho hs fun x hx => (hL.mem x).1 hx
theorem inv_diag {us l : List Nat} (ho : IsOrd us) (hL : Line us l) {s : Mat} (hs : Tab us s) {a : Nat} (ha : a < us.length) : invG s l a a = s a a :=
  invG_diag ho hs hL.nodup (fun x hx => (hL.mem x).1 hx) a ((hL.mem a).2 ha)
theorem inv_unit {us l : List Nat} (ho : IsOrd us) (hL : Line us l) {s : Mat} (hs : Tab us s) (hu : Unit1 us.length s) : Unit1 us.length (invG s l) := fun a ha => by
  rw [inv_diag ho hL hs ha]; exact hu a ha
theorem inv_inv {us l : List Nat} (ho : IsOrd us) (hL : Line us l) {s : Mat} (hs : Tab us s) (hu : Unit1 us.length s) : EqN us.length (invG (invG s l) l) s :=
  (inv_unique (inv_right hL hs hu) (inv_right hL (inv_tab ho hL hs) (inv_unit ho hL hs hu))).symm
theorem inv_left {us l : List Nat} (ho : IsOrd us) (hL : Line us l) {s : Mat} (hs : Tab us s) (hu : Unit1 us.length s) : EqN us.length (mm us.length (invG s l) s) one :=
  (mm_congr (EqN.refl _ _) (inv_inv ho hL hs hu).symm).trans (inv_right hL (inv_tab ho hL hs) (inv_unit ho hL hs hu))
/-- 1 where a is below b -/
def zet (us : List Nat) : Mat := fun a b => if hasB (wd us a) b then 1 else 0
theorem zet_tab (us : List Nat) : Tab us (zet us) := fun a _ b _ h => by unfold zet; exact if_neg h
theorem zet_unit {us : List Nat} (ho : IsOrd us) : Unit1 us.length (zet us) := fun a ha => by
  have := leW_refl ho ha
  unfold leW at this
  unfold zet; rw [if_pos this]; simp
/-- what the document makes: row by row, by what stands further left -/
def leftH (us : List Nat) (f : Mat) (h : Mat) : Prop := ∀ a, a < us.length → ∀ b, b < us.length → h a b = if a = b then f a a else -(sm us.length fun x => if hasB (wd us a) x && underB us x b then h a x * f x b else 0) * f b b
theorem left_inv {us : List Nat} (ho : IsOrd us) {f h : Mat} (hf : Tab us f) (hu : Unit1 us.length f) (hh : leftH us f h) : EqN us.length (mm us.length h f) one := fun a ha b hb => by
  have htab : ∀ x, x < us.length → ¬ leW us a x → h a x = 0 := fun x hx hn => by
    have hne : a ≠ x := fun e => hn (by subst e; exact leW_refl ho ha)
    rw [hh a ha x hx, if_neg hne, sm_zero fun y hy => ?_]
    · simp
    · by_cases h1 : leW us a y
      · have h2 : underB us y x = false := by
          cases hub : underB us y x with
          | false => rfl
          | true =>
            unfold underB at hub
            rw [Bool.and_eq_true] at hub
            exact absurd (leW_trans ho ha hy hx h1 hub.2) hn
        rw [h2]; simp
      · unfold leW at h1
        rw [if_neg (by simp [h1])]
  unfold mm
  have hsplit : (sm us.length fun x => h a x * f x b) = (sm us.length fun x => if hasB (wd us a) x && underB us x b then h a x * f x b else 0) + h a b * f b b := by
    have e1 : (sm us.length fun x => h a x * f x b) = sm us.length fun x => (if hasB (wd us a) x && underB us x b then h a x * f x b else 0) + (if x = b then h a b * f b b else 0) := sm_congr fun x hx => by
      by_cases e : x = b
      · subst e
        have : underB us x x = false := by unfold underB; simp
        rw [this]; simp
      · rw [if_neg e]
        by_cases h1 : leW us a x
        · by_cases h2 : leW us x b
          · have : underB us x b = true := by unfold underB leW at *; simp [e, h2]
            unfold leW at h1
            rw [this, h1]; simp
          · rw [hf x hx b hb h2]; simp
        · rw [htab x hx h1]; simp
    rw [e1, sm_add, sm_one hb fun x _ hne => if_neg hne, if_pos rfl]
  rw [hsplit]
  by_cases e : a = b
  · subst e
    rw [sm_zero fun x hx => ?_, hh a ha a ha, if_pos rfl, hu a ha, one_eq]
    · simp
    · by_cases h1 : leW us a x
      · have h2 : underB us x a = false := by
          cases hub : underB us x a with
          | false => rfl
          | true =>
            unfold underB at hub
            rw [Bool.and_eq_true] at hub
            have := leW_anti ho ha hx h1 hub.2
            subst this; simp at hub
        rw [h2]; simp
      · unfold leW at h1
        rw [if_neg (by simp [h1])]
  · have h1 := hu b hb
    rw [hh a ha b hb, if_neg e, one_ne e]
    generalize (sm us.length fun x => if hasB (wd us a) x && underB us x b then h a x * f x b else 0) = S at *
    generalize f b b = d at *
    have : S + -S * d * d = S - S * (d * d) := by grind
    rw [this, h1]; grind
/-- the document's inverse is the program's -/
theorem left_same {us l : List Nat} (ho : IsOrd us) (hL : Line us l) {f h : Mat} (hf : Tab us f) (hu : Unit1 us.length f) (hh : leftH us f h) : EqN us.length h (invG f l) :=
  inv_unique (left_inv ho hf hu hh) (inv_right hL hf hu)
end Go.Proofs.YtilffmalkegioaaDoor

namespace Go.Proofs.YtilffmalkegioaaDoor
open Go.RowKit Go.Shelf

/-- the numbers as they are read -/
def tiL (l : List B64) : List Int := l.map BitVec.toInt
def bd (l : List B64) (i : Nat) : B64 := l.getD i 0
theorem tiL_len (l : List B64) : (tiL l).length = l.length := by unfold tiL; simp
theorem zd_tiL (l : List B64) (i : Nat) : zd (tiL l) i = (bd l i).toInt := by
  unfold zd tiL bd
  rw [List.getD_eq_getElem?_getD, List.getElem?_map, List.getD_eq_getElem?_getD]
  cases l[i]? <;> simp
theorem tiL_inj {a b : List B64} : tiL a = tiL b ↔ a = b := by
  constructor
  · intro h
    have hl : a.length = b.length := by rw [← tiL_len a, ← tiL_len b, h]
    apply List.ext_getElem hl
    intro i h1 h2
    have := congrArg (fun l => zd l i) h
    simp only [zd_tiL] at this
    have := BitVec.eq_of_toInt_eq this
    unfold bd at this
    simpa [List.getD_eq_getElem?_getD, List.getElem?_eq_getElem h1, List.getElem?_eq_getElem h2] using this
  · intro h; rw [h]
theorem tiL_set (l : List B64) (i : Nat) (x : B64) : (tiL l).set i x.toInt = tiL (l.set i x) := by unfold tiL; rw [List.map_set]
theorem tiL_snoc (l : List B64) (x : B64) : tiL (l ++ [x]) = tiL l ++ [x.toInt] := by unfold tiL; simp
theorem tiL_ofInt {zs : List Int} (h : ∀ z ∈ zs, -9223372036854775808 ≤ z ∧ z ≤ 9223372036854775807) : tiL (zs.map (BitVec.ofInt 64)) = zs := by
  unfold tiL
  rw [List.map_map]
  conv => rhs; rw [← List.map_id zs]
  apply List.map_congr_left
  intro z hz
  have := h z hz
  simp only [Function.comp, BitVec.toInt_ofInt, id_eq]
  rw [Int.bmod_eq_of_le] <;> omega
theorem bd_set {l : List B64} {i j : Nat} {x : B64} (h : i < l.length) : bd (l.set i x) j = if i = j then x else bd l j := by
  unfold bd; rw [List.getD_eq_getElem?_getD, List.getD_eq_getElem?_getD, List.getElem?_set]
  by_cases e : i = j
  · subst e; simp [h]
  · simp [e]
theorem bd_ext {a b : List B64} (hl : a.length = b.length) (h : ∀ i, i < a.length → bd a i = bd b i) : a = b := by
  apply List.ext_getElem hl
  intro i h1 h2
  have := h i h1
  unfold bd at this
  simpa [List.getD_eq_getElem?_getD, List.getElem?_eq_getElem h1, List.getElem?_eq_getElem h2] using this
theorem bd_snoc_lt {a : List B64} {x : B64} {i : Nat} (h : i < a.length) : bd (a ++ [x]) i = bd a i := by
  unfold bd; rw [List.getD_eq_getElem?_getD, List.getD_eq_getElem?_getD, List.getElem?_append_left h]
theorem bd_snoc_eq {a : List B64} {x : B64} : bd (a ++ [x]) a.length = x := by
  unfold bd; rw [List.getD_eq_getElem?_getD, List.getElem?_append_right (Nat.le_refl _)]; simp
theorem bd_range {n : Nat} (f : Nat → B64) {i : Nat} (h : i < n) : bd ((List.range n).map f) i = f i := by
  unfold bd; rw [List.getD_eq_getElem?_getD, List.getElem?_map, List.getElem?_range h]; rfl
theorem bd_replicate (n i : Nat) : bd (List.replicate n 0) i = 0 := by
  unfold bd; rw [List.getD_eq_getElem?_getD, List.getElem?_replicate]; split <;> rfl
theorem bd_out {l : List B64} {i : Nat} (h : l.length ≤ i) : bd l i = 0 := by
  unfold bd; rw [List.getD_eq_getElem?_getD, List.getElem?_eq_none h]; rfl
/-- what lies in memory for them -/
def bvals (l : List B64) : List Value := zvals (tiL l)
theorem bvals_len (l : List B64) : (bvals l).length = l.length := by unfold bvals; rw [zvals_len, tiL_len]
theorem bvals_at {l : List B64} {i : Nat} (h : i < l.length) : (bvals l)[i]? = some (.int .i64 (bd l i).toInt) := by
  unfold bvals; rw [zvals_at (by rw [tiL_len]; exact h), zd_tiL]
theorem bvals_set (l : List B64) (i : Nat) (x : B64) : (bvals l).set i (.int .i64 x.toInt) = bvals (l.set i x) := by
  unfold bvals; rw [zvals_set, tiL_set]
theorem bvals_snoc (l : List B64) (x : B64) : bvals (l ++ [x]) = bvals l ++ [.int .i64 x.toInt] := by
  unfold bvals; rw [tiL_snoc, zvals_snoc]
theorem bvals_replicate (n : Nat) : (madeCells #[Value.int .i64 0] n) = (bvals (List.replicate n 0)).toArray := by
  rw [zvals_replicate]; unfold bvals tiL; simp
theorem Row.b {W : World} {B n₀ : Nat} {t : TypeId} {l : List B64} (h : Row W B t (bvals l)) (hB : B < n₀) : ZInts n₀ W (some ⟨B, 0, none⟩) (tiL l) := Row.z h hB
/-- cells of a slice of such numbers: from off on, m of them -/
def CellsB (W : World) (q off : Nat) (m : Nat) (r : Nat → B64) : Prop := ∀ i, i < m → W.cell? ⟨q, off + i, none⟩ = some (.int .i64 (r i).toInt)
theorem Row.cellsB {W : World} {q : Nat} {t : TypeId} {l : List B64} (h : Row W q t (bvals l)) (off m : Nat) (hm : off + m ≤ l.length) : CellsB W q off m (fun i => bd l (off + i)) := fun i hi => h.cell (bvals_at (by omega))
theorem ZInts.cellsB {n₀ : Nat} {W : World} {a : Option Addr} {l : List B64} (h : ZInts n₀ W a (tiL l)) {i : Nat} (hi : i < l.length) :
    ∃ b off, a = some ⟨b, off, none⟩ ∧ b < n₀ ∧ CellsB W b off l.length (bd l) := by
  obtain ⟨b, off, h1, h2, h3⟩ := h.at (i := i) (by rw [tiL_len]; exact hi)
  exact ⟨b, off, h1, h2, fun i hi => by rw [← zd_tiL]; exact h3 i (by rw [tiL_len]; exact hi)⟩
theorem wrap_bmod (x : Int) : wrap64 x = x.bmod (2 ^ 64) := by
  unfold wrap64
  rw [Int.bmod]
  simp
  omega
theorem wrap_add (x y : B64) : wrap64 (x.toInt + y.toInt) = (x + y).toInt := by rw [wrap_bmod, BitVec.toInt_add]
theorem wrap_mul (x y : B64) : wrap64 (x.toInt * y.toInt) = (x * y).toInt := by rw [wrap_bmod, BitVec.toInt_mul]
theorem wrap_neg (x : B64) : wrap64 (-x.toInt) = (-x).toInt := by rw [wrap_bmod, BitVec.toInt_neg]
theorem wrap_sub (x y : B64) : wrap64 (x.toInt - y.toInt) = (x - y).toInt := by rw [wrap_bmod, BitVec.toInt_sub]
theorem toInt_one : (1 : B64).toInt = 1 := by decide
theorem toInt_zero : (0 : B64).toInt = 0 := by decide
theorem toInt_none : (-1 : B64).toInt = -1 := by decide
theorem toInt_eq {x y : B64} : x.toInt = y.toInt ↔ x = y := BitVec.toInt_inj
/-- a table of n * n numbers -/
def mat (n : Nat) (l : List B64) : Mat := fun a b => bd l (a * n + b)
theorem plc_lt {n a b : Nat} (ha : a < n) (hb : b < n) : a * n + b < n * n := by
  have : (a + 1) * n ≤ n * n := Nat.mul_le_mul_right _ ha
  rw [Nat.succ_mul] at this; omega
theorem plc_inj {n a b c d : Nat} (hb : b < n) (hd : d < n) (h : a * n + b = c * n + d) : a = c ∧ b = d := by
  have h1 : (a * n + b) / n = (c * n + d) / n := by rw [h]
  have h2 : (a * n + b) % n = (c * n + d) % n := by rw [h]
  rw [Nat.mul_comm a, Nat.mul_comm c, Nat.mul_add_div (by omega), Nat.mul_add_div (by omega), Nat.div_eq_of_lt hb, Nat.div_eq_of_lt hd] at h1
  rw [Nat.mul_comm a, Nat.mul_comm c, Nat.mul_add_mod, Nat.mul_add_mod, Nat.mod_eq_of_lt hb, Nat.mod_eq_of_lt hd] at h2
  omega
theorem mat_ext {n : Nat} {k l : List B64} (h1 : k.length = n * n) (h2 : l.length = n * n) (h : EqN n (mat n k) (mat n l)) : k = l := by
  refine bd_ext (h1.trans h2.symm) fun i hi => ?_
  have hn : 0 < n := by
    cases n with
    | zero => rw [h1] at hi; simp at hi
    | succ _ => omega
  have e : i / n * n + i % n = i := Nat.div_add_mod' i n
  have hi' : i < n * n := by rw [← h1]; exact hi
  have := h (i / n) ((Nat.div_lt_iff_lt_mul hn).2 hi') (i % n) (Nat.mod_lt _ hn)
  unfold mat at this
  rwa [e] at this
/-- the list of a table -/
def tabL (n : Nat) (f : Mat) : List B64 := (List.range (n * n)).map fun i => f (i / n) (i % n)
theorem tabL_len (n : Nat) (f : Mat) : (tabL n f).length = n * n := by unfold tabL; simp
theorem mat_tabL {n : Nat} (f : Mat) : EqN n (mat n (tabL n f)) f := fun a ha b hb => by
  unfold mat tabL
  rw [bd_range _ (plc_lt ha hb)]
  have h1 : (a * n + b) / n = a := by rw [Nat.mul_comm, Nat.mul_add_div (by omega), Nat.div_eq_of_lt hb]; omega
  have h2 : (a * n + b) % n = b := by rw [Nat.mul_comm, Nat.mul_add_mod, Nat.mod_eq_of_lt hb]
  rw [h1, h2]
theorem tabL_mat {n : Nat} {l : List B64} (h : l.length = n * n) : tabL n (mat n l) = l := mat_ext (tabL_len _ _) h (mat_tabL _)
theorem tabL_congr {n : Nat} {f g : Mat} (h : EqN n f g) : tabL n f = tabL n g := mat_ext (tabL_len _ _) (tabL_len _ _) ((mat_tabL f).trans (h.trans (mat_tabL g).symm))
end Go.Proofs.YtilffmalkegioaaDoor
