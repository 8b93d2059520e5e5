/- Plain: an order is what its covers come to; without one of them it is not. -/
import Derived.Test.YtbdigkjahfdmjaaDoorLeastPlain
import Derived.Test.YtbdigkjahfdmjaaDoorCoverMore
import Derived.Test.YtbdigkjahfdmjaaDoorDualPlain
import Derived.Test.YtbdigkjahfdmjaaDoorPairMem
namespace Go.Proofs.YtbdigkjahfdmjaaDoor

/-- pairs of elements as pairs of numbers -/
def toP (l : List (Nat × Nat)) : List (Int × Int) := l.map fun p => (((p.1 : Nat) : Int), ((p.2 : Nat) : Int))
theorem toP_len (l : List (Nat × Nat)) : (toP l).length = l.length := by unfold toP; simp
theorem zp_toP {l : List (Nat × Nat)} {k : Nat} (h : k < l.length) : zp (toP l) k = (((l[k].1 : Nat) : Int), ((l[k].2 : Nat) : Int)) := by
  unfold zp toP
  rw [List.getD_eq_getElem?_getD, List.getElem?_map, List.getElem?_eq_getElem h]
  rfl
theorem IsPairs.z {n₀ : Nat} {W : World} {a : Option Addr} {l : List (Nat × Nat)} (h : IsPairs n₀ W a l) : ZPairs n₀ W a (toP l) := by
  rcases h with h | ⟨b, h1, h2, h3⟩
  · exact .inl (by subst h; rfl)
  · refine .inr ⟨b, 0, h1, h2, fun i hi => ?_⟩
    rw [toP_len] at hi
    rw [zp_toP hi, Nat.zero_add]
    exact h3 i hi
/-- all are covers of the order -/
def AllCov (us : List Nat) (l : List (Nat × Nat)) : Prop := ∀ p ∈ l, p.1 < us.length ∧ p.2 < us.length ∧ coverB us p.1 p.2 = true
theorem AllCov.pairs {us : List Nat} {l : List (Nat × Nat)} (h : AllCov us l) : PairsIn us (toP l) := by
  intro k hk
  rw [toP_len] at hk
  obtain ⟨h1, h2, h3⟩ := h _ (List.getElem_mem hk)
  rw [zp_toP hk]
  refine ⟨⟨by omega, by simpa using h1, by omega, by simpa using h2⟩, ?_⟩
  simp only [Int.toNat_natCast]
  exact (underB_true.1 (coverB_true.1 h3).1).2
theorem allCov_coverL (us : List Nat) : AllCov us (coverL us us.length) := by
  rintro ⟨x, y⟩ hp
  obtain ⟨h1, h2, h3⟩ := mem_coverL.1 hp
  exact ⟨h1, h2, h3⟩
theorem nx_mem {us nx : List Nat} {l : List (Nat × Nat)} (hN : NxTo (toP l) us.length (toP l).length nx) {x y : Nat} : hasB (wd nx x) y = true ↔ (x, y) ∈ l := by
  rw [hN.has]
  constructor
  · rintro ⟨j, hj, _, e1, e2⟩
    rw [toP_len] at hj
    rw [zp_toP hj] at e1 e2
    have h1 : l[j].1 = x := Int.ofNat.inj (show ((l[j].1 : Nat) : Int) = (x : Int) from e1)
    have h2 : l[j].2 = y := Int.ofNat.inj (show ((l[j].2 : Nat) : Int) = (y : Int) from e2)
    rw [← h1, ← h2]
    exact List.getElem_mem hj
  · intro h
    obtain ⟨j, hj, e⟩ := List.getElem_of_mem h
    refine ⟨j, by rw [toP_len]; exact hj, by rw [toP_len]; exact hj, ?_, ?_⟩
    · rw [zp_toP hj, e]
    · rw [zp_toP hj, e]
/-- what is below is come to by covers -/
theorem le_reach {us nx : List Nat} (ho : IsOrd us) (hN : NxTo (toP (coverL us us.length)) us.length (toP (coverL us us.length)).length nx) : ∀ (m : Nat) {i z : Nat}, i < us.length → z < us.length → leW us i z → downs us z ≤ m → Reach nx i z
  | 0, i, z, hi, hz, h, hm => by
    exfalso
    have : z ∈ (List.range us.length).filter fun v => hasB (wd us v) z := List.mem_filter.2 ⟨List.mem_range.2 hz, leW_refl ho hz⟩
    have := List.length_pos_of_mem this
    unfold downs at hm
    omega
  | m + 1, i, z, hi, hz, h, hm => by
    by_cases e : i = z
    · subst e; exact .here i
    · obtain ⟨c, hc, hcv, hic⟩ := cover_ex ho hi hz (underB_true.2 ⟨e, h⟩)
      have hlt := downs_lt ho hc hz (coverB_true.1 hcv).1
      exact (le_reach ho hN m hi hc hic (by omega)).snoc ((nx_mem hN).2 (mem_coverL.2 ⟨hc, hz, hcv⟩))
theorem hasse_up {us nx up : List Nat} (hf : Fit us) (hin : Inside us) (ho : IsOrd us) (hN : NxTo (toP (coverL us us.length)) us.length (toP (coverL us us.length)).length nx) (hl : up.length = us.length) (hu : ∀ i, i < us.length → ∀ z, hasB (wd up i) z = true ↔ Reach nx i z) : up = us := by
  refine wd_ext hl fun i hi => word_ext fun z => ?_
  rw [hl] at hi
  rw [Bool.eq_iff_iff, hu i hi z]
  constructor
  · intro h; exact (reach_le ho hN (allCov_coverL us).pairs hi h).1
  · intro h
    have hz : z < us.length := hin i hi z (hasB_lt (hf i) h) h
    exact le_reach ho hN _ hi hz h (Nat.le_refl _)
/-- the first j pairs, but not that at i -/
def lessTo (l : List (Nat × Nat)) (i : Nat) : Nat → List (Nat × Nat)
  | 0 => []
  | j + 1 => lessTo l i j ++ if j = i then [] else [l.getD j (0, 0)]
theorem lessTo_len (l : List (Nat × Nat)) (i : Nat) : ∀ j, (lessTo l i j).length ≤ j
  | 0 => Nat.le_refl _
  | j + 1 => by
    have := lessTo_len l i j
    unfold lessTo
    rw [List.length_append]
    split <;> simp <;> omega
theorem mem_lessTo {l : List (Nat × Nat)} {i : Nat} {p : Nat × Nat} : ∀ {j : Nat}, j ≤ l.length → (p ∈ lessTo l i j ↔ ∃ k, ∃ h : k < l.length, k < j ∧ k ≠ i ∧ l[k] = p)
  | 0, _ => by
    constructor
    · intro h; cases h
    · rintro ⟨k, _, h, _⟩; omega
  | j + 1, hj => by
    unfold lessTo
    have hd : l.getD j (0, 0) = l[j] := by rw [List.getD_eq_getElem?_getD, List.getElem?_eq_getElem (by omega)]; rfl
    rw [List.mem_append, mem_lessTo (j := j) (by omega), hd]
    constructor
    · rintro (⟨k, h1, h2, h3, h4⟩ | h)
      · exact ⟨k, h1, by omega, h3, h4⟩
      · by_cases e : j = i
        · rw [if_pos e] at h; cases h
        · rw [if_neg e] at h
          exact ⟨j, by omega, by omega, e, (List.mem_singleton.1 h).symm⟩
    · rintro ⟨k, h1, h2, h3, h4⟩
      by_cases e : k = j
      · subst e; right; rw [if_neg h3]; exact List.mem_singleton.2 h4.symm
      · left; exact ⟨k, h1, by omega, h3, h4⟩
theorem allCov_less {us : List Nat} {l : List (Nat × Nat)} (h : AllCov us l) (i : Nat) {j : Nat} (hj : j ≤ l.length) : AllCov us (lessTo l i j) := by
  intro p hp
  obtain ⟨k, hk, _, _, e⟩ := (mem_lessTo hj).1 hp
  rw [← e]
  exact h _ (List.getElem_mem hk)
theorem nodup_index {l : List (Nat × Nat)} (h : l.Nodup) {i k : Nat} (hi : i < l.length) (hk : k < l.length) (e : l[i] = l[k]) : i = k := (List.getElem_inj h).1 e
/-- without one cover what it says is not come to -/
theorem hasse_less {us nx up : List Nat} (ho : IsOrd us) {i : Nat} (hi : i < (coverL us us.length).length) (hN : NxTo (toP (lessTo (coverL us us.length) i (coverL us us.length).length)) us.length (toP (lessTo (coverL us us.length) i (coverL us us.length).length)).length nx) (hu : ∀ i, i < us.length → ∀ z, hasB (wd up i) z = true ↔ Reach nx i z) : up ≠ us := by
  intro e
  generalize hp : (coverL us us.length)[i] = p at *
  obtain ⟨x, y⟩ := p
  have hm := List.getElem_mem hi
  rw [hp] at hm
  obtain ⟨hx, hy, hcv⟩ := mem_coverL.1 hm
  have hne := (underB_true.1 (coverB_true.1 hcv).1).1
  have hr : Reach nx x y := by
    rw [← hu x hx y, e]
    exact (underB_true.1 (coverB_true.1 hcv).1).2
  have hcl := (allCov_less (allCov_coverL us) i (Nat.le_refl _)).pairs
  cases hr with
  | here => exact hne rfl
  | step _ v _ h1 h2 =>
    obtain ⟨k, hk, _, hki, ek⟩ := (mem_lessTo (Nat.le_refl _)).1 ((nx_mem hN).1 h1)
    have hv := mem_coverL.1 (ek ▸ List.getElem_mem hk)
    have hvy := reach_le ho hN hcl hv.2.1 h2
    by_cases ev : v = y
    · subst ev
      exact hki (nodup_index (nodup_coverL us us.length) hk hi (ek.trans hp.symm))
    · exact (coverB_true.1 hcv).2 v hv.2.1 ⟨(coverB_true.1 hv.2.2).1, underB_true.2 ⟨ev, hvy.1⟩⟩
theorem coverL_256 {us : List Nat} (hl : us.length ≤ 16) : (coverL us us.length).length ≤ 256 :=
  Nat.le_trans (coverL_len us us.length) (Nat.mul_le_mul hl hl)
end Go.Proofs.YtbdigkjahfdmjaaDoor
