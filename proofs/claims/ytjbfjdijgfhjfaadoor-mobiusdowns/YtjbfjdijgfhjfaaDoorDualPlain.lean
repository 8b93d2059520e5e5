/- Plain mathematics of an order turned upside down: it is an order; turned again it is what it was; its covers are the covers turned round. -/
import Derived.Test.YtjbfjdijgfhjfaaDoorSortPlain
namespace Go.Proofs.YtjbfjdijgfhjfaaDoor

theorem tur_inside {us ds : List Nat} (hT : Tur us us.length [] ds) : Inside ds := by
  intro i hi j _ hb
  rw [hT.len] at hi ⊢
  rw [hT.has i hi] at hb
  simp at hb
  exact hb.1
theorem tur_ord {us ds : List Nat} (ho : IsOrd us) (hT : Tur us us.length [] ds) : IsOrd ds := by
  have hh : ∀ i, i < us.length → ∀ j, j < us.length → hasB (wd ds i) j = hasB (wd us j) i := fun i hi j hj => by rw [hT.has i hi]; simp [hj]
  intro i hi j hj
  rw [hT.len] at hi hj
  refine ⟨⟨fun e => ?_, fun hne h1 => ?_⟩, fun k hk h1 h2 => ?_⟩
  · rw [hh i hi i hi]; exact ((ho i hi) i hi).1.1 rfl
  · rw [hh i hi j hj] at h1
    rw [hh j hj i hi]
    cases h2 : hasB (wd us i) j with
    | false => rfl
    | true =>
      have := ((ho i hi) j hj).1.2 hne h2
      rw [this] at h1; cases h1
  · rw [hT.len] at hk
    rw [hh i hi j hj] at h1
    rw [hh j hj k hk] at h2
    rw [hh i hi k hk]
    exact ((ho k hk) j hj).2 i hi h2 h1
theorem tur_code {us ds : List Nat} {n : Int} (hc : codeOf n us = 0) (hT : Tur us us.length [] ds) : codeOf n ds = 0 := by
  obtain ⟨h0, h16, hlen, hin, ho⟩ := code_zero hc
  exact code_ok (by omega) (by rw [hT.len]; exact hlen) (insideB_true.2 (tur_inside hT)) (isOrdB_true.2 (tur_ord ho hT))
theorem tur_back {us ds es : List Nat} (hf : Fit us) (hin : Inside us) (hT : Tur us us.length [] ds) (hT2 : Tur ds ds.length [] es) : es = us := by
  refine wd_ext (by rw [hT2.len, hT.len]) fun i hi => word_ext fun j => ?_
  have hi2 : i < ds.length := by rw [← hT2.len]; exact hi
  have hi3 : i < us.length := by rw [← hT.len]; exact hi2
  rw [hT2.has i hi2, hT.len]
  by_cases hj : j < us.length
  · rw [hT.has j hj]; simp [hj, hi3]
  · have : hasB (wd us i) j = false := by
      cases hb : hasB (wd us i) j with
      | false => rfl
      | true => exact absurd (hin i hi3 j (hasB_lt (hf i) hb) hb) hj
    simp [hj, this]
theorem tur_under {us ds : List Nat} (hT : Tur us us.length [] ds) {a b : Nat} (ha : a < us.length) (hb : b < us.length) : underB ds a b = underB us b a := by
  unfold underB
  rw [hT.has a ha]
  by_cases e : a = b
  · subst e; simp
  · have : ¬ b = a := fun h => e h.symm
    simp [e, this, hb]
theorem tur_cover {us ds : List Nat} (hT : Tur us us.length [] ds) {a b : Nat} (ha : a < us.length) (hb : b < us.length) : coverB ds a b = coverB us b a := by
  rw [Bool.eq_iff_iff, coverB_true, coverB_true, hT.len, tur_under hT ha hb]
  constructor
  · rintro ⟨h1, h2⟩
    refine ⟨h1, fun x hx ⟨h3, h4⟩ => h2 x hx ⟨?_, ?_⟩⟩
    · rw [tur_under hT ha hx]; exact h4
    · rw [tur_under hT hx hb]; exact h3
  · rintro ⟨h1, h2⟩
    refine ⟨h1, fun x hx ⟨h3, h4⟩ => h2 x hx ⟨?_, ?_⟩⟩
    · rw [tur_under hT hx hb] at h4; exact h4
    · rw [tur_under hT ha hx] at h3; exact h3
theorem mem_coverRow {us : List Nat} {a m x y : Nat} : (x, y) ∈ coverRow us a m ↔ x = a ∧ y < m ∧ coverB us a y = true := by
  unfold coverRow
  simp only [List.mem_map, List.mem_filter, List.mem_range, Prod.mk.injEq]
  constructor
  · rintro ⟨b, ⟨h1, h2⟩, rfl, rfl⟩; exact ⟨rfl, h1, h2⟩
  · rintro ⟨rfl, h1, h2⟩; exact ⟨y, ⟨h1, h2⟩, rfl, rfl⟩
theorem mem_coverL {us : List Nat} {x y : Nat} : ∀ {k : Nat}, (x, y) ∈ coverL us k ↔ x < k ∧ y < us.length ∧ coverB us x y = true
  | 0 => by simp [coverL]
  | k + 1 => by
    unfold coverL
    rw [List.mem_append, mem_coverL, mem_coverRow]
    constructor
    · rintro (⟨h1, h2, h3⟩ | ⟨rfl, h2, h3⟩)
      · exact ⟨by omega, h2, h3⟩
      · exact ⟨by omega, h2, h3⟩
    · rintro ⟨h1, h2, h3⟩
      by_cases e : x = k
      · exact .inr ⟨e, h2, e ▸ h3⟩
      · exact .inl ⟨by omega, h2, h3⟩
theorem nodup_coverRow (us : List Nat) (a m : Nat) : (coverRow us a m).Nodup := by
  unfold coverRow
  have h : ((List.range m).filter (coverB us a)).Nodup := List.Pairwise.filter _ List.nodup_range
  exact List.Pairwise.map _ (fun x y hne e => hne (by cases e; rfl)) h
theorem nodup_coverL (us : List Nat) : ∀ k, (coverL us k).Nodup
  | 0 => by simp [coverL]
  | k + 1 => by
    unfold coverL
    rw [List.nodup_append]
    refine ⟨nodup_coverL us k, nodup_coverRow us k _, fun p hp q hq e => ?_⟩
    subst e
    obtain ⟨x, y⟩ := p
    have h1 := (mem_coverL.1 hp).1
    have h2 := (mem_coverRow.1 hq).1
    omega
theorem nodup_leP : ∀ {a b : List (Nat × Nat)}, a.Nodup → (∀ x ∈ a, x ∈ b) → a.length ≤ b.length
  | [], _, _, _ => by simp
  | x :: a, b, hn, hs => by
    rw [List.nodup_cons] at hn
    have hx : x ∈ b := hs x (by simp)
    have h1 := nodup_leP (b := b.erase x) hn.2 (fun y hy => by
      have hne : y ≠ x := fun e => hn.1 (by rw [← e]; exact hy)
      exact (List.mem_erase_of_ne hne).2 (hs y (by simp [hy])))
    have h2 := List.length_erase_of_mem hx
    have h3 := List.length_pos_of_mem hx
    simp only [List.length_cons]; omega
def swapP (p : Nat × Nat) : Nat × Nat := (p.2, p.1)
theorem swap_len_le {us ds : List Nat} (hl : ds.length = us.length) (hc : ∀ a b, a < us.length → b < us.length → coverB us a b = true → coverB ds b a = true) : (coverL us us.length).length ≤ (coverL ds ds.length).length := by
  have hn : ((coverL us us.length).map swapP).Nodup := List.Pairwise.map _ (fun x y hne e => hne (by
    obtain ⟨a, b⟩ := x; obtain ⟨c, d⟩ := y
    simp only [swapP, Prod.mk.injEq] at e
    rw [e.1, e.2])) (nodup_coverL us us.length)
  have h := nodup_leP (b := coverL ds ds.length) hn (fun p hp => by
    obtain ⟨⟨a, b⟩, hm, rfl⟩ := List.mem_map.1 hp
    obtain ⟨h1, h2, h3⟩ := mem_coverL.1 hm
    exact mem_coverL.2 ⟨by rw [hl]; exact h2, by rw [hl]; exact h1, hc a b h1 h2 h3⟩)
  simpa using h
theorem swap_len {us ds : List Nat} (hT : Tur us us.length [] ds) : (coverL ds ds.length).length = (coverL us us.length).length := by
  have h1 := swap_len_le (us := us) (ds := ds) hT.len (fun a b ha hb h => by rw [tur_cover hT hb ha]; exact h)
  have h2 := swap_len_le (us := ds) (ds := us) hT.len.symm (fun a b ha hb h => by rw [hT.len] at ha hb; rw [← tur_cover hT ha hb]; exact h)
  omega
theorem swap_mem {us ds : List Nat} (hT : Tur us us.length [] ds) {a b : Nat} (h : (a, b) ∈ coverL us us.length) : (b, a) ∈ coverL ds ds.length := by
  obtain ⟨h1, h2, h3⟩ := mem_coverL.1 h
  exact mem_coverL.2 ⟨by rw [hT.len]; exact h2, by rw [hT.len]; exact h1, by rw [tur_cover hT h2 h1]; exact h3⟩
end Go.Proofs.YtjbfjdijgfhjfaaDoor
