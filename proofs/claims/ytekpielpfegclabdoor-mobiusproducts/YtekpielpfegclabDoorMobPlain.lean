/- Numbers that go round at 64 bits: sums of them, tables of them by an order, their products and their inverses. -/
import Derived.Test.YtekpielpfegclabDoorLatTab
import Derived.Test.YtekpielpfegclabDoorSortPlain
namespace Go.Proofs.YtekpielpfegclabDoor

abbrev B64 := BitVec 64
/-- the sum over a list -/
def sl : List Nat → (Nat → B64) → B64
  | [], _ => 0
  | x :: l, f => f x + sl l f
/-- the sum over all below n -/
def sm : Nat → (Nat → B64) → B64
  | 0, _ => 0
  | n + 1, f => sm n f + f n
theorem sl_append (l m : List Nat) (f : Nat → B64) : sl (l ++ m) f = sl l f + sl m f := by
  induction l with
  | nil => simp [sl]
  | cons x l ih => simp only [List.cons_append, sl, ih]; grind
theorem sl_snoc (l : List Nat) (x : Nat) (f : Nat → B64) : sl (l ++ [x]) f = sl l f + f x := by rw [sl_append]; simp [sl]
theorem sl_range (n : Nat) (f : Nat → B64) : sl (List.range n) f = sm n f := by
  induction n with
  | zero => rfl
  | succ n ih => rw [List.range_succ, sl_snoc, ih]; rfl
theorem sl_perm {l m : List Nat} (h : l.Perm m) (f : Nat → B64) : sl l f = sl m f := by
  induction h with
  | nil => rfl
  | cons x _ ih => simp only [sl, ih]
  | swap x y l => simp only [sl]; grind
  | trans _ _ h1 h2 => rw [h1, h2]
theorem sl_congr {l : List Nat} {f g : Nat → B64} (h : ∀ x ∈ l, f x = g x) : sl l f = sl l g := by
  induction l with
  | nil => rfl
  | cons x l ih => simp only [sl]; rw [h x (by simp), ih fun y hy => h y (by simp [hy])]
theorem sl_neg (l : List Nat) (f : Nat → B64) : sl l (fun x => -f x) = -sl l f := by
  induction l with
  | nil => simp [sl]
  | cons x l ih => simp only [sl, ih]; grind
theorem sl_mul (l : List Nat) (c : B64) (f : Nat → B64) : sl l (fun x => c * f x) = c * sl l f := by
  induction l with
  | nil => simp [sl]
  | cons x l ih => simp only [sl, ih]; grind
theorem sl_zero {l : List Nat} {f : Nat → B64} (h : ∀ x ∈ l, f x = 0) : sl l f = 0 := by
  induction l with
  | nil => rfl
  | cons x l ih => simp only [sl]; rw [h x (by simp), ih fun y hy => h y (by simp [hy])]; simp
theorem sm_congr {n : Nat} {f g : Nat → B64} (h : ∀ x, x < n → f x = g x) : sm n f = sm n g := by
  rw [← sl_range, ← sl_range]; exact sl_congr fun x hx => h x (List.mem_range.1 hx)
theorem sm_zero {n : Nat} {f : Nat → B64} (h : ∀ x, x < n → f x = 0) : sm n f = 0 := by
  rw [← sl_range]; exact sl_zero fun x hx => h x (List.mem_range.1 hx)
theorem sm_add (n : Nat) (f g : Nat → B64) : sm n (fun x => f x + g x) = sm n f + sm n g := by
  induction n with
  | zero => simp [sm]
  | succ n ih => simp only [sm, ih]; grind
theorem sm_mul (n : Nat) (c : B64) (f : Nat → B64) : sm n (fun x => c * f x) = c * sm n f := by
  rw [← sl_range, ← sl_range]; exact sl_mul _ _ _
theorem sm_mulr (n : Nat) (c : B64) (f : Nat → B64) : sm n (fun x => f x * c) = sm n f * c := by
  rw [show (fun x => f x * c) = (fun x => c * f x) from funext fun x => BitVec.mul_comm _ _, sm_mul, BitVec.mul_comm]
theorem sm_neg (n : Nat) (f : Nat → B64) : sm n (fun x => -f x) = -sm n f := by
  rw [← sl_range, ← sl_range]; exact sl_neg _ _
theorem sm_swap (n m : Nat) (f : Nat → Nat → B64) : sm n (fun x => sm m (fun y => f x y)) = sm m (fun y => sm n (fun x => f x y)) := by
  induction n with
  | zero => simp only [sm]; exact (sm_zero fun _ _ => rfl).symm
  | succ n ih => simp only [sm, ih]; rw [← sm_add]
theorem sm_one {n a : Nat} (h : a < n) {f : Nat → B64} (h0 : ∀ x, x < n → x ≠ a → f x = 0) : sm n f = f a := by
  induction n with
  | zero => omega
  | succ n ih =>
    simp only [sm]
    by_cases e : a = n
    · subst e
      rw [sm_zero fun x hx => h0 x (by omega) (by omega)]; simp
    · rw [ih (by omega) fun x hx => h0 x (by omega), h0 n (by omega) (fun h => e h.symm)]; simp

abbrev Mat := Nat → Nat → B64
def one : Mat := fun a b => if a = b then 1 else 0
theorem one_eq (a : Nat) : one a a = 1 := by simp [one]
theorem one_ne {a b : Nat} (h : a ≠ b) : one a b = 0 := by simp [one, h]
/-- the product of two tables -/
def mm (n : Nat) (f g : Mat) : Mat := fun a b => sm n fun x => f a x * g x b
/-- alike where a and b are below n -/
def EqN (n : Nat) (f g : Mat) : Prop := ∀ a, a < n → ∀ b, b < n → f a b = g a b
theorem EqN.refl (n : Nat) (f : Mat) : EqN n f f := fun _ _ _ _ => rfl
theorem EqN.symm {n : Nat} {f g : Mat} (h : EqN n f g) : EqN n g f := fun a ha b hb => (h a ha b hb).symm
theorem EqN.trans {n : Nat} {f g h : Mat} (h1 : EqN n f g) (h2 : EqN n g h) : EqN n f h := fun a ha b hb => (h1 a ha b hb).trans (h2 a ha b hb)
theorem mm_congr {n : Nat} {f f' g g' : Mat} (h1 : EqN n f f') (h2 : EqN n g g') : EqN n (mm n f g) (mm n f' g') := fun a ha b hb =>
  sm_congr fun x hx => by rw [h1 a ha x hx, h2 x hx b hb]
theorem mm_assoc (n : Nat) (f g h : Mat) : mm n (mm n f g) h = mm n f (mm n g h) := by
  funext a b
  unfold mm
  rw [show (fun x => sm n (fun y => f a y * g y x) * h x b) = fun x => sm n fun y => f a y * g y x * h x b from funext fun x => (sm_mulr _ _ _).symm, sm_swap]
  refine sm_congr fun y _ => ?_
  rw [← sm_mul]
  exact sm_congr fun x _ => BitVec.mul_assoc _ _ _
theorem mm_one (n : Nat) (f : Mat) : EqN n (mm n f one) f := fun a _ b hb => by
  unfold mm
  rw [sm_one hb fun x _ hne => by rw [one_ne hne]; simp, one_eq]; simp
theorem one_mm (n : Nat) (f : Mat) : EqN n (mm n one f) f := fun a ha b _ => by
  unfold mm
  rw [sm_one ha fun x _ hne => by rw [one_ne (Ne.symm hne)]; simp, one_eq]; simp
theorem mm_add (n : Nat) (f g h : Mat) : mm n f (fun a b => g a b + h a b) = fun a b => mm n f g a b + mm n f h a b := by
  funext a b
  unfold mm
  rw [← sm_add]
  exact sm_congr fun x _ => BitVec.mul_add
/-- what is the inverse from the left is what is it from the right -/
theorem inv_unique {n : Nat} {f g h : Mat} (h1 : EqN n (mm n h f) one) (h2 : EqN n (mm n f g) one) : EqN n h g :=
  ((mm_one n h).symm.trans (mm_congr (EqN.refl n h) h2.symm)).trans (by
    rw [← mm_assoc]
    exact (mm_congr h1 (EqN.refl n g)).trans (one_mm n g))

/-- what is 0 where a is not below b -/
def Tab (us : List Nat) (f : Mat) : Prop := ∀ a, a < us.length → ∀ b, b < us.length → ¬ leW us a b → f a b = 0
/-- 1 or -1 where a is b -/
def Unit1 (n : Nat) (f : Mat) : Prop := ∀ a, a < n → f a a * f a a = 1
/-- what the program makes of a list: each row by those of what stands behind it -/
def invG (s : Mat) : List Nat → Mat
  | [] => one
  | a :: l => fun r b => if r = a then (one a b + sl l (fun x => -(s a x) * invG s l x b)) * s a a else invG s l r b
theorem invG_row {s : Mat} : ∀ {l : List Nat}, l.Nodup → (l.Pairwise fun x y => s y x = 0) → (∀ x ∈ l, s x x * s x x = 1) → ∀ a ∈ l, ∀ b, sl l (fun x => s a x * invG s l x b) = one a b
  | [], _, _, _, _, ha, _ => by simp at ha
  | c :: l, hn, hp, hu, a, ha, b => by
    rw [List.nodup_cons] at hn
    rw [List.pairwise_cons] at hp
    have hG : ∀ a, sl l (fun x => s a x * invG s (c :: l) x b) = sl l (fun x => s a x * invG s l x b) := fun a => sl_congr fun x hx => by
      have hne : x ≠ c := fun e => hn.1 (e ▸ hx)
      simp only [invG, if_neg hne]
    simp only [sl]
    rw [hG]
    by_cases e : a = c
    · subst e
      simp only [invG, if_pos]
      have h1 := hu a (by simp)
      have h2 : sl l (fun x => -(s a x) * invG s l x b) = - sl l (fun x => s a x * invG s l x b) := by
        rw [← sl_neg]; exact sl_congr fun x _ => by grind
      rw [h2]
      generalize sl l (fun x => s a x * invG s l x b) = S at *
      generalize s a a = d at *
      generalize one a b = o at *
      have : d * ((o + -S) * d) + S = (d * d) * o - (d * d) * S + S := by grind
      rw [this, h1]; grind
    · have ha' : a ∈ l := by
        rcases List.mem_cons.1 ha with h | h
        · exact absurd h e
        · exact h
      rw [hp.1 a ha', invG_row hn.2 hp.2 (fun x hx => hu x (by simp [hx])) a ha' b]; grind
theorem invG_out {s : Mat} : ∀ {l : List Nat} {r : Nat}, r ∉ l → ∀ b, invG s l r b = one r b
  | [], _, _, _ => rfl
  | c :: l, r, h, b => by
    simp only [List.mem_cons, not_or] at h
    simp only [invG, if_neg h.1]
    exact invG_out h.2 b
theorem invG_tab {us : List Nat} (ho : IsOrd us) {s : Mat} (hs : Tab us s) : ∀ {l : List Nat}, (∀ x ∈ l, x < us.length) → Tab us (invG s l)
  | [], _ => fun a ha b hb h => one_ne fun e => h (by subst e; exact leW_refl ho ha)
  | c :: l, hl => fun a ha b hb h => by
    have ih := invG_tab ho hs (l := l) fun x hx => hl x (by simp [hx])
    simp only [invG]
    split
    · next e =>
      subst e
      rw [one_ne fun e => h (by subst e; exact leW_refl ho ha), sl_zero fun x hx => ?_]
      · simp
      · have hx' := hl x (by simp [hx])
        by_cases h1 : leW us a x
        · by_cases h2 : leW us x b
          · exact absurd (leW_trans ho ha hx' hb h1 h2) h
          · rw [ih x hx' b hb h2]; simp
        · rw [hs a ha x hx' h1]; simp
    · exact ih a ha b hb h
theorem invG_diag {us : List Nat} (ho : IsOrd us) {s : Mat} (hs : Tab us s) : ∀ {l : List Nat}, l.Nodup → (∀ x ∈ l, x < us.length) → ∀ a ∈ l, invG s l a a = s a a
  | [], _, _, _, ha => by simp at ha
  | c :: l, hn, hl, a, ha => by
    rw [List.nodup_cons] at hn
    have hl' : ∀ x ∈ l, x < us.length := fun x hx => hl x (by simp [hx])
    simp only [invG]
    split
    · next e =>
      subst e
      have ha' := hl a (by simp)
      rw [one_eq, sl_zero fun x hx => ?_]
      · simp
      · have hx' := hl' x hx
        have hne : a ≠ x := fun e => hn.1 (e ▸ hx)
        by_cases h1 : leW us a x
        · have h2 : ¬ leW us x a := fun h2 => hne (leW_anti ho ha' hx' h1 h2)
          rw [invG_tab ho hs hl' x hx' a ha' h2]; simp
        · rw [hs a ha' x hx' h1]; simp
    · next e =>
      rcases List.mem_cons.1 ha with h | h
      · exact absurd h e
      · exact invG_diag ho hs hn.2 hl' a h
/-- a line of all elements, each behind those strictly below it -/
structure Line (us l : List Nat) : Prop where
  nodup : l.Nodup
  mem : ∀ x, x ∈ l ↔ x < us.length
  up : l.Pairwise fun x y => ¬ leW us y x
theorem Line.perm {us l : List Nat} (h : Line us l) : (List.range us.length).Perm l :=
  (List.perm_ext_iff_of_nodup List.nodup_range h.nodup).2 fun x => by rw [List.mem_range, h.mem]
theorem Line.len {us l : List Nat} (h : Line us l) : l.length = us.length := by have := h.perm.length_eq; simp at this; exact this.symm
theorem inv_right {us l : List Nat} (hL : Line us l) {s : Mat} (hs : Tab us s) (hu : Unit1 us.length s) : EqN us.length (mm us.length s (invG s l)) one := fun a ha b _ => by
  unfold mm
  rw [← sl_range, sl_perm hL.perm]
  exact invG_row hL.nodup (hL.up.imp_of_mem fun hx hy h => hs _ ((hL.mem _).1 hy) _ ((hL.mem _).1 hx) h) (fun x hx => hu x ((hL.mem x).1 hx)) a ((hL.mem a).2 ha) b
theorem inv_tab {us l : List Nat} (ho : IsOrd us) (hL : Line us l) {s : Mat} (hs : Tab us s) : Tab us (invG s l) := invG_tab ho hs fun x hx => (hL.mem x).1 hx
theorem inv_diag {us l : List Nat} (ho : IsOrd us) (hL : Line us l) {s : Mat} (hs : Tab us s) {a : Nat} (ha : a < us.length) : invG s l a a = s a a :=
  invG_diag ho hs hL.nodup (fun x hx => (hL.mem x).1 hx) a ((hL.mem a).2 ha)
theorem inv_unit {us l : List Nat} (ho : IsOrd us) (hL : Line us l) {s : Mat} (hs : Tab us s) (hu : Unit1 us.length s) : Unit1 us.length (invG s l) := fun a ha => by
  rw [inv_diag ho hL hs ha]; exact hu a ha
theorem inv_inv {us l : List Nat} (ho : IsOrd us) (hL : Line us l) {s : Mat} (hs : Tab us s) (hu : Unit1 us.length s) : EqN us.length (invG (invG s l) l) s :=
  (inv_unique (inv_right hL hs hu) (inv_right hL (inv_tab ho hL hs) (inv_unit ho hL hs hu))).symm
theorem inv_left {us l : List Nat} (ho : IsOrd us) (hL : Line us l) {s : Mat} (hs : Tab us s) (hu : Unit1 us.length s) : EqN us.length (mm us.length (invG s l) s) one :=
  (mm_congr (EqN.refl _ _) (inv_inv ho hL hs hu).symm).trans (inv_right hL (inv_tab ho hL hs) (inv_unit ho hL hs hu))
/-- 1 where a is below b -/
def zet (us : List Nat) : Mat := fun a b => if hasB (wd us a) b then 1 else 0
theorem zet_tab (us : List Nat) : Tab us (zet us) := fun a _ b _ h => by unfold zet; exact if_neg h
theorem zet_unit {us : List Nat} (ho : IsOrd us) : Unit1 us.length (zet us) := fun a ha => by
  have := leW_refl ho ha
  unfold leW at this
  unfold zet; rw [if_pos this]; simp
/-- what the document makes: row by row, by what stands further left -/
def leftH (us : List Nat) (f : Mat) (h : Mat) : Prop := ∀ a, a < us.length → ∀ b, b < us.length → h a b = if a = b then f a a else -(sm us.length fun x => if hasB (wd us a) x && underB us x b then h a x * f x b else 0) * f b b
theorem left_inv {us : List Nat} (ho : IsOrd us) {f h : Mat} (hf : Tab us f) (hu : Unit1 us.length f) (hh : leftH us f h) : EqN us.length (mm us.length h f) one := fun a ha b hb => by
  have htab : ∀ x, x < us.length → ¬ leW us a x → h a x = 0 := fun x hx hn => by
    have hne : a ≠ x := fun e => hn (by subst e; exact leW_refl ho ha)
    rw [hh a ha x hx, if_neg hne, sm_zero fun y hy => ?_]
    · simp
    · by_cases h1 : leW us a y
      · have h2 : underB us y x = false := by
          cases hub : underB us y x with
          | false => rfl
          | true =>
            unfold underB at hub
            rw [Bool.and_eq_true] at hub
            exact absurd (leW_trans ho ha hy hx h1 hub.2) hn
        rw [h2]; simp
      · unfold leW at h1
        rw [if_neg (by simp [h1])]
  unfold mm
  have hsplit : (sm us.length fun x => h a x * f x b) = (sm us.length fun x => if hasB (wd us a) x && underB us x b then h a x * f x b else 0) + h a b * f b b := by
    have e1 : (sm us.length fun x => h a x * f x b) = sm us.length fun x => (if hasB (wd us a) x && underB us x b then h a x * f x b else 0) + (if x = b then h a b * f b b else 0) := sm_congr fun x hx => by
      by_cases e : x = b
      · subst e
        have : underB us x x = false := by unfold underB; simp
        rw [this]; simp
      · rw [if_neg e]
        by_cases h1 : leW us a x
        · by_cases h2 : leW us x b
          · have : underB us x b = true := by unfold underB leW at *; simp [e, h2]
            unfold leW at h1
            rw [this, h1]; simp
          · rw [hf x hx b hb h2]; simp
        · rw [htab x hx h1]; simp
    rw [e1, sm_add, sm_one hb fun x _ hne => if_neg hne, if_pos rfl]
  rw [hsplit]
  by_cases e : a = b
  · subst e
    rw [sm_zero fun x hx => ?_, hh a ha a ha, if_pos rfl, hu a ha, one_eq]
    · simp
    · by_cases h1 : leW us a x
      · have h2 : underB us x a = false := by
          cases hub : underB us x a with
          | false => rfl
          | true =>
            unfold underB at hub
            rw [Bool.and_eq_true] at hub
            have := leW_anti ho ha hx h1 hub.2
            subst this; simp at hub
        rw [h2]; simp
      · unfold leW at h1
        rw [if_neg (by simp [h1])]
  · have h1 := hu b hb
    rw [hh a ha b hb, if_neg e, one_ne e]
    generalize (sm us.length fun x => if hasB (wd us a) x && underB us x b then h a x * f x b else 0) = S at *
    generalize f b b = d at *
    have : S + -S * d * d = S - S * (d * d) := by grind
    rw [this, h1]; grind
/-- the document's inverse is the program's -/
theorem left_same {us l : List Nat} (ho : IsOrd us) (hL : Line us l) {f h : Mat} (hf : Tab us f) (hu : Unit1 us.length f) (hh : leftH us f h) : EqN us.length h (invG f l) :=
  inv_unique (left_inv ho hf hu hh) (inv_right hL hf hu)
end Go.Proofs.YtekpielpfegclabDoor
