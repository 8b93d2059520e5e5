/- Plain: each element of a lattice is the join of those below it that cover just one. -/
import Derived.Test.YtjbfjdijgfhjfaaDoorCoverMore
import Derived.Test.YtjbfjdijgfhjfaaDoorDualPlain
namespace Go.Proofs.YtjbfjdijgfhjfaaDoor

/-- the elements that x covers, and those that cover x: how many -/
def lowCnt (us : List Nat) (x : Nat) : Nat := ((List.range us.length).filter fun c => coverB us c x).length
def highCnt (us : List Nat) (x : Nat) : Nat := ((List.range us.length).filter fun c => coverB us x c).length
def lowIrr (us : List Nat) : List Nat := (List.range us.length).filter fun x => decide (lowCnt us x = 1)
def highIrr (us : List Nat) : List Nat := (List.range us.length).filter fun x => decide (highCnt us x = 1)
theorem mem_lowIrr {us : List Nat} {x : Nat} : x ∈ lowIrr us ↔ x < us.length ∧ lowCnt us x = 1 := by unfold lowIrr; rw [List.mem_filter, List.mem_range]; simp
theorem mem_highIrr {us : List Nat} {x : Nat} : x ∈ highIrr us ↔ x < us.length ∧ highCnt us x = 1 := by unfold highIrr; rw [List.mem_filter, List.mem_range]; simp
theorem one_of_all {l : List Nat} (hd : l.Nodup) {c : Nat} (hc : c ∈ l) (h : ∀ x ∈ l, x = c) : l.length = 1 := by
  match l, hd, hc, h with
  | [x], _, _, _ => rfl
  | x :: y :: l, hd, _, h =>
    exfalso
    have e1 := h x (List.mem_cons_self ..)
    have e2 := h y (List.mem_cons_of_mem _ (List.mem_cons_self ..))
    rw [List.nodup_cons] at hd
    exact hd.1 (by rw [e1, ← e2]; exact List.mem_cons_self ..)
theorem two_low {us : List Nat} (ho : IsOrd us) {z x : Nat} (hz : z < us.length) (hx : x < us.length) (h : underB us z x = true) (hn : lowCnt us x ≠ 1) : ∃ c d, c < us.length ∧ d < us.length ∧ c ≠ d ∧ coverB us c x = true ∧ coverB us d x = true := by
  obtain ⟨c, hc, hcv, _⟩ := cover_ex ho hz hx h
  apply Classical.byContradiction
  intro hno
  refine hn (one_of_all (List.Nodup.sublist List.filter_sublist List.nodup_range) (List.mem_filter.2 ⟨List.mem_range.2 hc, hcv⟩) fun d hd => ?_)
  obtain ⟨h1, h2⟩ := List.mem_filter.1 hd
  apply Classical.byContradiction
  intro hne
  exact hno ⟨c, d, hc, List.mem_range.1 h1, fun e => hne e.symm, hcv, h2⟩
/-- what is above all irreducible elements below x is above x -/
theorem irr_le {us : List Nat} {le : Nat → Nat → Prop} {j m : Nat → Nat → Nat} {b t : Nat} (ho : IsOrd us) (L : Lat us.length le j m b t) (hle : ∀ x y, x < us.length → y < us.length → (le x y ↔ leW us x y)) : ∀ (k : Nat) {x u : Nat}, downs us x ≤ k → x < us.length → u < us.length → (∀ y, y ∈ lowIrr us → le y x → le y u) → le x u
  | 0, x, u, hk, hx, hu, h => by
    exfalso
    have : x ∈ (List.range us.length).filter fun z => hasB (wd us z) x := List.mem_filter.2 ⟨List.mem_range.2 hx, leW_refl ho hx⟩
    have := List.length_pos_of_mem this
    unfold downs at hk
    omega
  | k + 1, x, u, hk, hx, hu, h => by
    by_cases h1 : lowCnt us x = 1
    · exact h x (mem_lowIrr.2 ⟨hx, h1⟩) (L.refl hx)
    by_cases hb : b = x
    · rw [← hb]; exact L.ble hu
    have hub : underB us b x = true := underB_true.2 ⟨hb, (hle _ _ L.blt hx).1 (L.ble hx)⟩
    obtain ⟨c, d, hc, hd, hne, hcc, hdc⟩ := two_low ho L.blt hx hub h1
    have cx := (coverB_true.1 hcc).1
    have dx := (coverB_true.1 hdc).1
    have lcx := (hle _ _ hc hx).2 (underB_true.1 cx).2
    have ldx := (hle _ _ hd hx).2 (underB_true.1 dx).2
    have ic := irr_le ho L hle k (x := c) (u := u) (by have := downs_lt ho hc hx cx; omega) hc hu fun y hy hyc => h y hy (L.trans (mem_lowIrr.1 hy).1 hc hx hyc lcx)
    have id := irr_le ho L hle k (x := d) (u := u) (by have := downs_lt ho hd hx dx; omega) hd hu fun y hy hyd => h y hy (L.trans (mem_lowIrr.1 hy).1 hd hx hyd ldx)
    have hj := L.jlt hc hd
    have hjx : le (j c d) x := (L.jle hc hd hx).2 ⟨lcx, ldx⟩
    have key : ∀ e, e < us.length → coverB us e x = true → le e (j c d) → j c d ≠ x → e = j c d := by
      intro e he hce hej hnx
      apply Classical.byContradiction
      intro hne'
      exact (coverB_true.1 hce).2 _ hj ⟨underB_true.2 ⟨hne', (hle _ _ he hj).1 hej⟩, underB_true.2 ⟨hnx, (hle _ _ hj hx).1 hjx⟩⟩
    have ex : j c d = x := by
      apply Classical.byContradiction
      intro hnx
      exact hne ((key c hc hcc (L.jl hc hd) hnx).trans (key d hd hdc (L.jr hc hd) hnx).symm)
    rw [← ex]
    exact (L.jle hc hd hu).2 ⟨ic, id⟩
/-- joined with those of a list that are chosen -/
def genF (j : Nat → Nat → Nat) (sel : Nat → Bool) (b : Nat) (l : List Nat) : Nat := l.foldl (fun acc y => if sel y then j acc y else acc) b
theorem genF_snoc (j : Nat → Nat → Nat) (sel : Nat → Bool) (b : Nat) (l : List Nat) (y : Nat) : genF j sel b (l ++ [y]) = if sel y then j (genF j sel b l) y else genF j sel b l := by unfold genF; rw [List.foldl_append]; rfl
theorem genF_spec {n : Nat} {le : Nat → Nat → Prop} {j m : Nat → Nat → Nat} {b t : Nat} (L : Lat n le j m b t) (sel : Nat → Bool) {x : Nat} (hx : x < n) (hsel : ∀ y, y < n → (sel y = true ↔ le y x)) : ∀ (l : List Nat) {s : Nat}, (∀ y ∈ l, y < n) → s < n → le s x → l.foldl (fun acc y => if sel y then j acc y else acc) s < n ∧ le (l.foldl (fun acc y => if sel y then j acc y else acc) s) x ∧ le s (l.foldl (fun acc y => if sel y then j acc y else acc) s) ∧ ∀ y ∈ l, le y x → le y (l.foldl (fun acc y => if sel y then j acc y else acc) s)
  | [], s, _, hs, hsx => ⟨hs, hsx, L.refl hs, fun y hy => by cases hy⟩
  | y :: l, s, hl, hs, hsx => by
    have hy := hl y (List.mem_cons_self ..)
    have hl' : ∀ y ∈ l, y < n := fun z hz => hl z (List.mem_cons_of_mem _ hz)
    rw [List.foldl_cons]
    by_cases h : sel y = true
    · have hyx := (hsel y hy).1 h
      have hjs := L.jlt hs hy
      simp only [h, if_true]
      obtain ⟨h1, h2, h3, h4⟩ := genF_spec L sel hx hsel l (s := j s y) hl' hjs ((L.jle hs hy hx).2 ⟨hsx, hyx⟩)
      refine ⟨h1, h2, L.trans hs hjs h1 (L.jl hs hy) h3, fun z hz hzx => ?_⟩
      rcases List.mem_cons.1 hz with e | e
      · subst e; exact L.trans hy hjs h1 (L.jr hs hy) h3
      · exact h4 z e hzx
    · have h' : sel y = false := by simpa using h
      simp only [h', Bool.false_eq_true, if_false]
      obtain ⟨h1, h2, h3, h4⟩ := genF_spec L sel hx hsel l (s := s) hl' hs hsx
      refine ⟨h1, h2, h3, fun z hz hzx => ?_⟩
      rcases List.mem_cons.1 hz with e | e
      · subst e; exact absurd ((hsel z hy).2 hzx) h
      · exact h4 z e hzx
theorem gen_low {us : List Nat} {le : Nat → Nat → Prop} {j m : Nat → Nat → Nat} {b t : Nat} (ho : IsOrd us) (L : Lat us.length le j m b t) (hle : ∀ x y, x < us.length → y < us.length → (le x y ↔ leW us x y)) {x : Nat} (hx : x < us.length) (sel : Nat → Bool) (hsel : ∀ y, y < us.length → (sel y = true ↔ le y x)) : genF j sel b (lowIrr us) = x := by
  obtain ⟨h1, h2, _, h4⟩ := genF_spec L sel hx hsel (lowIrr us) (s := b) (fun y hy => (mem_lowIrr.1 hy).1) L.blt (L.ble hx)
  exact L.anti h1 hx h2 (irr_le ho L hle _ (Nat.le_refl _) hx h1 h4)
theorem high_low {us ds : List Nat} (hT : Tur us us.length [] ds) : highIrr us = lowIrr ds := by
  have hl := hT.len
  unfold highIrr lowIrr
  rw [hl]
  apply List.filter_congr
  intro x hx
  have hx' := List.mem_range.1 hx
  have : highCnt us x = lowCnt ds x := by
    unfold highCnt lowCnt
    rw [hl]
    congr 1
    apply List.filter_congr
    intro c hc
    exact (tur_cover hT (List.mem_range.1 hc) hx').symm
  rw [this]
theorem gen_high {us ds : List Nat} {j m : Nat → Nat → Nat} {b t : Nat} (ho : IsOrd us) (hT : Tur us us.length [] ds) (L : Lat us.length (leW us) j m b t) {x : Nat} (hx : x < us.length) (sel : Nat → Bool) (hsel : ∀ y, y < us.length → (sel y = true ↔ leW us x y)) : genF m sel t (highIrr us) = x := by
  have hl := hT.len
  rw [high_low hT]
  have L' : Lat ds.length (fun x y => leW us y x) m j t b := by rw [hl]; exact L.turn
  exact gen_low (tur_ord ho hT) L' (fun x y h1 h2 => by rw [hl] at h1 h2; exact (tur_le hT h1 h2).symm) (by rw [hl]; exact hx) sel (fun y hy => by rw [hl] at hy; exact hsel y hy)
end Go.Proofs.YtjbfjdijgfhjfaaDoor
