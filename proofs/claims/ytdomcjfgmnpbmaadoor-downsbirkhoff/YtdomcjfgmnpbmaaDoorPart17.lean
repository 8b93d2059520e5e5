/- Plain mathematics of the order of some elements of an order: its down-sets. The contract of watershedkeep's below. -/
import Derived.Test.YtdomcjfgmnpbmaaDoorPart16
import Derived.Test.YtdomcjfgmnpbmaaDoorPart7
namespace Go.Proofs.YtdomcjfgmnpbmaaDoor

/-- the words of the order of the elements of l, in their order -/
def partW (us l : List Nat) (a k : Nat) : Nat := wordOf (fun j => hasB (wd us a) (wd l j)) k
def partL (us l : List Nat) : List Nat := l.map fun a => partW us l a l.length
theorem partL_len (us l : List Nat) : (partL us l).length = l.length := by unfold partL; simp
theorem wd_partL {us l : List Nat} {i : Nat} (h : i < l.length) : wd (partL us l) i = partW us l (wd l i) l.length := by
  unfold partL wd
  rw [List.getD_eq_getElem?_getD, List.getD_eq_getElem?_getD, List.getElem?_map, List.getElem?_eq_getElem h]; rfl
theorem partW_lt (us l : List Nat) (a : Nat) {k : Nat} (hk : k ≤ 32) : partW us l a k < 4294967296 := wordOf_lt _ hk
theorem partW_yes {us l : List Nat} {a k : Nat} (h : hasB (wd us a) (wd l k) = true) : partW us l a (k + 1) = orW (partW us l a k) (bitW k) := by
  show wordOf _ (k + 1) = _
  unfold wordOf
  rw [if_pos h]; rfl
theorem partW_no {us l : List Nat} {a k : Nat} (h : hasB (wd us a) (wd l k) = false) : partW us l a (k + 1) = partW us l a k := by
  show wordOf _ (k + 1) = _
  unfold wordOf
  rw [if_neg (by rw [h]; simp)]; rfl
def partTo (us l : List Nat) (k : Nat) : List Nat := (l.take k).map fun a => partW us l a l.length
theorem partTo_succ {us l : List Nat} {k : Nat} (h : k < l.length) : partTo us l (k + 1) = partTo us l k ++ [partW us l (wd l k) l.length] := by
  unfold partTo
  rw [List.take_succ_eq_append_getElem h, List.map_append]
  congr 1
  unfold wd
  rw [List.getD_eq_getElem?_getD, List.getElem?_eq_getElem h]; rfl
theorem partTo_all (us l : List Nat) : partTo us l l.length = partL us l := by unfold partTo partL; rw [List.take_length]
theorem fit_partL {us l : List Nat} (hl : l.length ≤ 16) : Fit (partL us l) := fun i => by
  by_cases h : i < l.length
  · rw [wd_partL h]; exact partW_lt us l _ (by omega)
  · unfold wd
    rw [List.getD_eq_getElem?_getD, List.getElem?_eq_none (by rw [partL_len]; omega)]
    decide
theorem mem_part {us l : List Nat} {i j : Nat} (hi : i < l.length) : hasB (wd (partL us l) i) j = true ↔ j < l.length ∧ hasB (wd us (wd l i)) (wd l j) = true := by
  rw [wd_partL hi]
  unfold partW
  rw [hasB_wordOf, Bool.and_eq_true, decide_eq_true_iff]

theorem wd_inj' {L : List Nat} (h : L.Nodup) {i j : Nat} (hi : i < L.length) (hj : j < L.length) (e : wd L i = wd L j) : i = j := by
  unfold wd at e
  rw [List.getD_eq_getElem?_getD, List.getD_eq_getElem?_getD, List.getElem?_eq_getElem hi, List.getElem?_eq_getElem hj] at e
  exact (List.getElem_inj h).1 e
section
variable {us l : List Nat} (hin : Inside us) (ho : IsOrd us) (hf : Fit us) (hn : l.Nodup) (hlt : ∀ x ∈ l, x < us.length)
include hin ho hf hn hlt
theorem part_ord : IsOrd (partL us l) := by
  intro i hi j hj
  rw [partL_len] at hi hj
  have hi' := hlt _ (wd_mem hi)
  refine ⟨⟨fun e => by subst e; exact (mem_part hi).2 ⟨hi, ord_refl ho hi'⟩, fun hne h => ?_⟩, fun k hk h1 h2 => ?_⟩
  · cases e : hasB (wd (partL us l) j) i with
    | false => rfl
    | true => exact absurd (wd_inj' hn hi hj (ord_anti hin ho hf hi' ((mem_part hi).1 h).2 ((mem_part hj).1 e).2)) hne
  · rw [partL_len] at hk
    exact (mem_part hi).2 ⟨hk, ord_trans hin ho hf hi' ((mem_part hi).1 h1).2 ((mem_part hj).1 h2).2⟩
omit hin ho hf hn hlt in
theorem part_inside : Inside (partL us l) := fun i hi j _ h => by
  rw [partL_len] at hi ⊢
  exact ((mem_part hi).1 h).1
theorem part_code (hl : l.length ≤ 16) : codeOf (partL us l).length (partL us l) = 0 := by
  unfold codeOf
  rw [if_neg (by rw [partL_len]; omega), if_neg (by simp), if_neg (by rw [insideB_true.2 part_inside]; simp), if_neg (by rw [isOrdB_true.2 (part_ord hin ho hf hn hlt)]; simp)]
end

/-- the elements that a set of places stands for -/
def imgW (l : List Nat) (n t : Nat) : Nat := wordOf (fun y => (List.range l.length).any fun j => decide (wd l j = y) && hasB t j) n
theorem mem_img {l : List Nat} {n t y : Nat} (hlt : ∀ x ∈ l, x < n) : hasB (imgW l n t) y = true ↔ ∃ j, j < l.length ∧ wd l j = y ∧ hasB t j = true := by
  unfold imgW
  rw [hasB_wordOf, Bool.and_eq_true, decide_eq_true_iff, List.any_eq_true]
  constructor
  · rintro ⟨_, j, hj, h⟩
    rw [Bool.and_eq_true, decide_eq_true_iff] at h
    exact ⟨j, List.mem_range.1 hj, h.1, h.2⟩
  · rintro ⟨j, hj, rfl, h⟩
    exact ⟨hlt _ (wd_mem hj), j, List.mem_range.2 hj, by rw [h]; simp⟩
theorem img_at {l : List Nat} {n t j : Nat} (hn : l.Nodup) (hlt : ∀ x ∈ l, x < n) (hj : j < l.length) : hasB (imgW l n t) (wd l j) = hasB t j := by
  rw [Bool.eq_iff_iff, mem_img hlt]
  constructor
  · rintro ⟨k, hk, e, h⟩
    rw [wd_inj' hn hk hj e] at h; exact h
  · exact fun h => ⟨j, hj, rfl, h⟩
theorem img_inj {l : List Nat} {n t s : Nat} (hn : l.Nodup) (hlt : ∀ x ∈ l, x < n) (ht : Only l.length t) (hs : Only l.length s) (e : imgW l n t = imgW l n s) : t = s := word_ext' fun j => by
  constructor
  · intro h
    have := img_at (t := t) hn hlt (ht j h)
    rw [e, img_at hn hlt (ht j h), h] at this; exact this
  · intro h
    have := img_at (t := s) hn hlt (hs j h)
    rw [← e, img_at hn hlt (hs j h), h] at this; exact this
/-- closed below among the elements of l -/
def RelDown (us l : List Nat) (s : Nat) : Prop := (∀ y, hasB s y = true → y ∈ l) ∧ ∀ a b, a ∈ l → hasB (wd us a) b = true → hasB s b = true → hasB s a = true
theorem img_rel {us l : List Nat} (hn : l.Nodup) (hlt : ∀ x ∈ l, x < us.length) {t : Nat} (h : IsDown (partL us l) t) : RelDown us l (imgW l us.length t) := by
  refine ⟨fun y hy => ?_, fun a b ha hab hb => ?_⟩
  · obtain ⟨j, hj, rfl, _⟩ := (mem_img hlt).1 hy
    exact wd_mem hj
  · obtain ⟨j, hj, rfl, h2⟩ := (mem_img hlt).1 hb
    obtain ⟨i, hi, rfl⟩ := mem_wd ha
    rw [img_at hn hlt hi]
    exact h.2 i j (by rw [partL_len]; exact hi) ((mem_part hi).2 ⟨hj, hab⟩) h2
theorem rel_img {us l : List Nat} (hlt : ∀ x ∈ l, x < us.length) {s : Nat} (h : RelDown us l s) : ∃ t, IsDown (partL us l) t ∧ imgW l us.length t = s := by
  refine ⟨wordOf (fun j => hasB s (wd l j)) l.length, ⟨fun j hj => ?_, fun i j hi hij hj => ?_⟩, word_ext' fun y => ?_⟩
  · rw [hasB_wordOf, Bool.and_eq_true, decide_eq_true_iff] at hj
    rw [partL_len]; exact hj.1
  · rw [partL_len] at hi
    rw [hasB_wordOf, Bool.and_eq_true, decide_eq_true_iff] at hj ⊢
    exact ⟨hi, h.2 _ _ (wd_mem hi) ((mem_part hi).1 hij).2 hj.2⟩
  · rw [mem_img hlt]
    constructor
    · rintro ⟨j, hj, rfl, h2⟩
      rw [hasB_wordOf, Bool.and_eq_true] at h2
      exact h2.2
    · intro hy
      obtain ⟨j, hj, rfl⟩ := mem_wd (h.1 y hy)
      exact ⟨j, hj, rfl, by rw [hasB_wordOf, hy]; simp [hj]⟩
/-- so many down-sets the part has as there are sets closed below among its elements -/
theorem part_count {us l es R : List Nat} (hn : l.Nodup) (hlt : ∀ x ∈ l, x < us.length) (he : Dn (partL us l) es) (hR : R.Nodup) (hm : ∀ s, s ∈ R ↔ RelDown us l s) : (allD es).length = R.length := by
  apply Nat.le_antisymm
  · have := nodup_leN (a := (allD es).map (imgW l us.length)) (b := R) (map_nodup (nodup_allD es) fun x hx y hy e => by
      have h1 := ((mem_allD he).1 hx).1
      have h2 := ((mem_allD he).1 hy).1
      rw [partL_len] at h1 h2
      exact img_inj hn hlt h1 h2 e) fun s hs => by
      obtain ⟨t, ht, rfl⟩ := List.mem_map.1 hs
      exact (hm _).2 (img_rel hn hlt ((mem_allD he).1 ht))
    simpa using this
  · have := nodup_leN (a := R) (b := (allD es).map (imgW l us.length)) hR fun s hs => by
      obtain ⟨t, h1, h2⟩ := rel_img hlt ((hm s).1 hs)
      exact List.mem_map.2 ⟨t, (mem_allD he).2 h1, h2⟩
    simpa using this

/-- the elements that are not above x, and those that are not below it -/
def without (us : List Nat) (x : Nat) : List Nat := (List.range us.length).filter fun i => !hasB (wd us x) i
def withX (us : List Nat) (x : Nat) : List Nat := (List.range us.length).filter fun i => !hasB (wd us i) x
theorem mem_without {us : List Nat} {x i : Nat} : i ∈ without us x ↔ i < us.length ∧ hasB (wd us x) i = false := by unfold without; rw [List.mem_filter, List.mem_range]; simp
theorem mem_withX {us : List Nat} {x i : Nat} : i ∈ withX us x ↔ i < us.length ∧ hasB (wd us i) x = false := by unfold withX; rw [List.mem_filter, List.mem_range]; simp
theorem filter_two (p : Nat → Bool) : ∀ l : List Nat, l.length = (l.filter p).length + (l.filter fun x => !p x).length
  | [] => rfl
  | x :: l => by
    have := filter_two p l
    cases h : p x <;> simp [h] <;> omega
theorem splits_len {us ds es fs : List Nat} (hin : Inside us) (ho : IsOrd us) (hf : Fit us) (hl : us.length ≤ 16) (hd : Dn us ds) {x : Nat} (hx : x < us.length) (he : Dn (partL us (without us x)) es) (hg : Dn (partL us (withX us x)) fs) : (allD ds).length = (allD es).length + (allD fs).length := by
  rw [filter_two (fun s => !hasB s x) (allD ds)]
  congr 1
  · refine (part_count (List.nodup_range.filter _) (fun y hy => (mem_without.1 hy).1) he ((nodup_allD ds).filter _) fun s => ?_).symm
    rw [List.mem_filter, mem_allD hd]
    constructor
    · rintro ⟨h1, h2⟩
      have h2' : hasB s x = false := by simpa using h2
      refine ⟨fun y hy => mem_without.2 ⟨h1.1 y hy, ?_⟩, fun a b ha hab hb => h1.2 a b (mem_without.1 ha).1 hab hb⟩
      cases e : hasB (wd us x) y with
      | false => rfl
      | true => rw [h1.2 x y hx e hy] at h2'; cases h2'
    · rintro ⟨h1, h2⟩
      have hns : hasB s x = false := by
        cases e : hasB s x with
        | false => rfl
        | true => have := (mem_without.1 (h1 x e)).2; rw [ord_refl ho hx] at this; cases this
      refine ⟨⟨fun y hy => (mem_without.1 (h1 y hy)).1, fun a b ha hab hb => ?_⟩, by rw [hns]; rfl⟩
      refine h2 a b (mem_without.2 ⟨ha, ?_⟩) hab hb
      cases e : hasB (wd us x) a with
      | false => rfl
      | true =>
        have := (mem_without.1 (h1 b hb)).2
        rw [ord_trans hin ho hf hx e hab] at this; cases this
  · have hlx := hd.2.1 x
    have hbel : ∀ y, hasB (wd ds x) y = true ↔ y < us.length ∧ hasB (wd us y) x = true := fun y => hd.2.2 x hx y
    have hcut : ∀ {s}, IsDown us s → ∀ y, hasB (andN s (wd ds x)) y = (hasB s y && !hasB (wd ds x) y) := fun hs y => hasB_andN (Nat.lt_of_lt_of_le (only_lt hs.1) (Nat.le_trans (Nat.pow_le_pow_right (by decide) hl) (by decide))) _ y
    have hsub : ∀ {s}, IsDown us s → hasB s x = true → ∀ y, hasB (wd ds x) y = true → hasB s y = true := fun hs h y hy => hs.2 y x ((hbel y).1 hy).1 ((hbel y).1 hy).2 h
    have hmf : ∀ s, s ∈ (allD ds).filter (fun s => !(!hasB s x)) ↔ IsDown us s ∧ hasB s x = true := fun s => by
      rw [List.mem_filter, mem_allD hd]; simp
    rw [show ((allD ds).filter fun s => !(!hasB s x)).length = (((allD ds).filter fun s => !(!hasB s x)).map fun s => andN s (wd ds x)).length from (List.length_map _).symm]
    refine (part_count (List.nodup_range.filter _) (fun y hy => (mem_withX.1 hy).1) hg (map_nodup ((nodup_allD ds).filter _) fun s hs t ht e => ?_) fun s => ?_).symm
    · obtain ⟨s1, s2⟩ := (hmf s).1 hs
      obtain ⟨t1, t2⟩ := (hmf t).1 ht
      refine word_ext' fun y => ?_
      have h1 := hcut s1 y
      rw [e, hcut t1 y] at h1
      cases q : hasB (wd ds x) y with
      | true => rw [hsub s1 s2 y q, hsub t1 t2 y q]
      | false => rw [q] at h1; simp at h1; rw [h1]
    · rw [List.mem_map]
      constructor
      · rintro ⟨t, ht, rfl⟩
        obtain ⟨t1, t2⟩ := (hmf t).1 ht
        refine ⟨fun y hy => ?_, fun a b ha hab hb => ?_⟩
        · rw [hcut t1, Bool.and_eq_true] at hy
          refine mem_withX.2 ⟨t1.1 y hy.1, ?_⟩
          cases q : hasB (wd us y) x with
          | false => rfl
          | true => rw [(hbel y).2 ⟨t1.1 y hy.1, q⟩] at hy; simp at hy
        · rw [hcut t1, Bool.and_eq_true] at hb ⊢
          have ha' := mem_withX.1 ha
          refine ⟨t1.2 a b ha'.1 hab hb.1, ?_⟩
          cases q : hasB (wd ds x) a with
          | false => rfl
          | true => rw [((hbel a).1 q).2] at ha'; cases ha'.2
      · rintro ⟨h1, h2⟩
        have hD : IsDown us (orW s (wd ds x)) := by
          refine ⟨only_or (fun y hy => (mem_withX.1 (h1 y hy)).1) (fun y hy => ((hbel y).1 hy).1), fun a b ha hab hb => ?_⟩
          rw [hasB_or, Bool.or_eq_true] at hb ⊢
          cases q : hasB (wd us a) x with
          | true => exact .inr ((hbel a).2 ⟨ha, q⟩)
          | false =>
            rcases hb with hb | hb
            · exact .inl (h2 a b (mem_withX.2 ⟨ha, q⟩) hab hb)
            · have := ord_trans hin ho hf ha hab ((hbel b).1 hb).2
              rw [q] at this; cases this
        refine ⟨orW s (wd ds x), (hmf _).2 ⟨hD, by rw [hasB_or, (hbel x).2 ⟨hx, ord_refl ho hx⟩, Bool.or_true]⟩, word_ext' fun y => ?_⟩
        rw [hcut hD, hasB_or]
        cases q : hasB s y with
        | false => cases hasB (wd ds x) y <;> simp
        | true =>
          have : hasB (wd ds x) y = false := by
            cases r : hasB (wd ds x) y with
            | false => rfl
            | true => have := (mem_withX.1 (h1 y q)).2; rw [((hbel y).1 r).2] at this; cases this
          simp [this]
end Go.Proofs.YtdomcjfgmnpbmaaDoor

namespace Go.Proofs.YtdomcjfgmnpbmaaDoor
open Go.RowKit Go.Shelf

theorem kbelow_any (n : Int) (a : Option Addr) (cap : Nat) (us : List Nat) (i j n₀ : Nat) (hf : Fit us) (hi : i < us.length) (hj : j < 32) (w : World) (hw : IsWords n₀ w a us) (hn : n₀ ≤ w.heap.size) :
    Calls Tryd.prog 29 #[.agg #[.int .i64 n, .slice a us.length cap], .int .i64 i, .int .i64 j] w fun e w' => e = .returned (.bool (hasB (wd us i) j)) ∧ Below w.heap.size w w' := by
  obtain ⟨b, off, rfl, hb, hc⟩ := hw.at hi
  have hci := hc i hi
  have hfi := hf i
  have hbw : b < w.heap.size := by omega
  clear hc
  go_enter Tryd.func29, Tryd.ntmps29
  go_wp2_with (go_at_call 50; refine (Bit_any _ _ hfi (by omega) _).mono ?_; rintro e w' ⟨rfl, rfl⟩)
  go_ret
  exact ⟨rfl, (Below.refl _ _).alloc (Nat.le_refl _) _⟩
end Go.Proofs.YtdomcjfgmnpbmaaDoor
