/- Plain mathematics of the order of all down-sets, as the program's Inclusion tells it: what Kind and Irreducible say of it. A region that draws its order, whose loads nobody in it writes, within a round of a range over a function. -/
import Derived.Test.YtdomcjfgmnpbmaaDoorPart26
import Derived.Test.YtdomcjfgmnpbmaaDoorPart24
import Derived.Deep.RegionHeld
namespace Go.Proofs.YtdomcjfgmnpbmaaDoor

theorem byIncl_incl {L : List Nat} (hn : L.Nodup) (hlt : ∀ i, wd L i < 4294967296) : ByIncl L (inclL L) :=
  ⟨hn, inclL_len L, fun _ hi _ => mem_incl hlt hi⟩
theorem byIncl_inj {L P : List Nat} (H : ByIncl L P) {i j : Nat} (hi : i < L.length) (hj : j < L.length) (e : wd P i = wd P j) : i = j := by
  have h1 := (H.has j hj i).1 (by rw [← e]; exact (H.has i hi i).2 ⟨hi, Sub.refl _⟩)
  have h2 := (H.has i hi j).1 (by rw [e]; exact (H.has j hj j).2 ⟨hj, Sub.refl _⟩)
  exact wd_inj H.nodup hi hj (Sub.anti h2.2 h1.2)
/-- of the union of two sets stands what is above both -/
theorem union_at {L P : List Nat} (H : ByIncl L P) {a b i : Nat} (ha : a < L.length) (hb : b < L.length) (hi : i < L.length) (e : wd L i = orW (wd L a) (wd L b)) : wd P i = andW (wd P a) (wd P b) := word_ext' fun j => by
  rw [hasB_and, Bool.and_eq_true, H.has i hi j, H.has a ha j, H.has b hb j, e, sub_or]
  exact ⟨fun h => ⟨⟨h.1, h.2.1⟩, ⟨h.1, h.2.2⟩⟩, fun h => ⟨h.1.1, h.1.2, h.2.2⟩⟩
theorem near_of {L P : List Nat} (H : ByIncl L P) (hu : ∀ a b, a < L.length → b < L.length → ∃ i, i < L.length ∧ wd L i = orW (wd L a) (wd L b)) : nearB P = true := by
  unfold nearB
  rw [List.all_eq_true]
  intro a ha
  rw [List.all_eq_true]
  intro b hb
  rw [List.any_eq_true]
  rw [List.mem_range, H.len] at ha hb
  obtain ⟨i, hi, e⟩ := hu a b ha hb
  exact ⟨i, List.mem_range.2 (by rw [H.len]; exact hi), decide_eq_true (union_at H ha hb hi e)⟩
theorem near_union {us L P js : List Nat} (hA : AllDown us L) (H : ByIncl L P) (hj : NearTo P js (P.length * P.length)) {a b : Nat} (ha : a < L.length) (hb : b < L.length) : at2 js P.length a b < L.length ∧ wd L (at2 js P.length a b) = orW (wd L a) (wd L b) := by
  obtain ⟨h1, h2⟩ := hj.at (show a < P.length by rw [H.len]; exact ha) (show b < P.length by rw [H.len]; exact hb)
  have h1' : at2 js P.length a b < L.length := Nat.lt_of_lt_of_eq h1 H.len
  obtain ⟨i, hi, e⟩ := hA.at (down_union (hA.down ha) (hA.down hb))
  have := byIncl_inj H hi h1' ((union_at H ha hb hi e).trans h2.symm)
  rw [← this]; exact ⟨hi, e⟩

/-- the sets turned round: what is not in them -/
def restL (n : Nat) (L : List Nat) : List Nat := L.map (restW n)
theorem restL_len (n : Nat) (L : List Nat) : (restL n L).length = L.length := by unfold restL; simp
theorem wd_restL {n : Nat} {L : List Nat} {i : Nat} (h : i < L.length) : wd (restL n L) i = restW n (wd L i) := by
  unfold restL wd
  rw [List.getD_eq_getElem?_getD, List.getD_eq_getElem?_getD, List.getElem?_map, List.getElem?_eq_getElem h]; rfl
theorem sub_rest {n a b : Nat} (hn : n ≤ 16) (hb : Only n b) : Sub (restW n a) (restW n b) ↔ Sub b a := by
  constructor
  · intro h x hx
    have hxn := hb x hx
    cases e : hasB a x with
    | true => rfl
    | false =>
      have := h x (by rw [hasB_rest hn, e]; simp [hxn])
      rw [hasB_rest hn, hx] at this
      simp at this
  · intro h x hx
    rw [hasB_rest hn, Bool.and_eq_true] at hx ⊢
    refine ⟨hx.1, ?_⟩
    cases e : hasB b x with
    | false => rfl
    | true => rw [h x e] at hx; simp at hx
section
variable {us ds L P es : List Nat} (hl : us.length ≤ 16) (hin : Inside us) (ho : IsOrd us) (hf : Fit us) (hd : Dn us ds) (hA : AllDown us L) (H : ByIncl L P) (hT : Tur P P.length [] es)
include hl hd hA
theorem down_rests : AllDown ds (restL us.length L) := fun s => by
  unfold restL
  rw [List.mem_map]
  constructor
  · rintro ⟨x, hx, rfl⟩; exact rest_down hl hd ((hA x).1 hx)
  · intro h
    exact ⟨restW us.length s, (hA _).2 (down_rest hl hd h), rest_rest hl (by rw [← hd.1]; exact h.1)⟩
include H hT
omit hd in
theorem byIncl_turned : ByIncl (restL us.length L) es := by
  refine ⟨map_nodup H.nodup fun x hx y hy e => ?_, by rw [restL_len, hT.len, H.len], fun i hi j => ?_⟩
  · rw [← rest_rest hl ((hA x).1 hx).1, e, rest_rest hl ((hA y).1 hy).1]
  · rw [restL_len] at hi ⊢
    rw [hT.has i (by rw [H.len]; exact hi) j, H.len]
    simp only [List.not_mem_nil, decide_false, Bool.and_false, Bool.or_false, Bool.and_eq_true, decide_eq_true_iff]
    constructor
    · rintro ⟨hj, h⟩
      have := ((H.has j hj i).1 h).2
      refine ⟨hj, ?_⟩
      rw [wd_restL hi, wd_restL hj]
      exact (sub_rest hl (hA.down hj).1).2 this
    · rintro ⟨hj, h⟩
      rw [wd_restL hi, wd_restL hj] at h
      exact ⟨hj, (H.has j hj i).2 ⟨hi, (sub_rest hl (hA.down hj).1).1 h⟩⟩
theorem incl_lat : latB P es = true := by
  have hB := byIncl_turned hl hA H hT
  have hR := down_rests hl hd hA
  unfold latB
  rw [Bool.and_eq_true, Bool.and_eq_true]
  refine ⟨⟨?_, near_of H fun a b ha hb => hA.at (down_union (hA.down ha) (hA.down hb))⟩, near_of hB fun a b ha hb => hR.at (down_union (hR.down ha) (hR.down hb))⟩
  obtain ⟨i, hi, _⟩ := hA.at (s := 0) ⟨fun _ h => no0 h, fun _ _ _ _ h => no0 h⟩
  rw [H.len]
  have : L.length ≠ 0 := by omega
  simpa using this
theorem incl_distr {js ms : List Nat} (hj : NearTo P js (P.length * P.length)) (hm : NearTo es ms (P.length * P.length)) : Distr P.length (at2 js P.length) (at2 ms P.length) := by
  have hB := byIncl_turned hl hA H hT
  have hR := down_rests hl hd hA
  have hel := hT.len
  have hm' : NearTo es ms (es.length * es.length) := by rw [hel]; exact hm
  have hjj : ∀ {a b}, a < L.length → b < L.length → at2 js P.length a b < L.length ∧ wd L (at2 js P.length a b) = orW (wd L a) (wd L b) := fun ha hb => near_union hA H hj ha hb
  have hmm : ∀ {a b}, a < L.length → b < L.length → at2 ms P.length a b < L.length ∧ wd L (at2 ms P.length a b) = andW (wd L a) (wd L b) := fun {a b} ha hb => by
    have h1 := near_union hR hB hm' (a := a) (b := b) (by rw [restL_len]; exact ha) (by rw [restL_len]; exact hb)
    rw [restL_len, hel] at h1
    refine ⟨h1.1, ?_⟩
    have h2 := h1.2
    rw [wd_restL h1.1, wd_restL ha, wd_restL hb] at h2
    have hoi := (hA.down h1.1).1
    rw [← rest_rest hl hoi, h2]
    refine word_ext' fun x => ?_
    have oa := (hA.down ha).1 x
    rw [hasB_rest hl, hasB_or, hasB_rest hl, hasB_rest hl, hasB_and]
    by_cases hx : x < us.length
    · simp [hx]
    · have : hasB (wd L a) x = false := by
        cases e : hasB (wd L a) x with
        | false => rfl
        | true => exact absurd (oa e) hx
      simp [hx, this]
  intro a ha b hb c hc
  rw [H.len] at ha hb hc
  have j1 := hjj hb hc
  have m1 := hmm ha j1.1
  have m2 := hmm ha hb
  have m3 := hmm ha hc
  have j2 := hjj m2.1 m3.1
  refine wd_inj H.nodup m1.1 j2.1 ?_
  rw [m1.2, j1.2, j2.2, m2.2, m3.2]
  refine word_ext fun x => ?_
  rw [hasB_and, hasB_or, hasB_or, hasB_and, hasB_and, Bool.and_or_distrib_left]
include hin ho hf
theorem incl_irr : (lowIrr P).length = us.length ∧ (highIrr P).length = us.length := by
  refine ⟨low_count hin ho hf hd hA H, ?_⟩
  have hB := byIncl_turned hl hA H hT
  have hR := down_rests hl hd hA
  rw [high_low hT]
  have hin' : Inside ds := fun i hi j _ h => by rw [hd.1] at hi ⊢; exact ((hd.2.2 i hi j).1 h).1
  have ho' : IsOrd ds := by
    intro i hi j hj
    rw [hd.1] at hi hj
    refine ⟨⟨fun e => by subst e; exact (hd.2.2 i hi i).2 ⟨hi, ord_refl ho hi⟩, fun hne h => ?_⟩, fun k hk h1 h2 => ?_⟩
    · cases e : hasB (wd ds j) i with
      | false => rfl
      | true => exact absurd (ord_anti hin ho hf hi ((hd.2.2 j hj i).1 e).2 ((hd.2.2 i hi j).1 h).2) hne
    · rw [hd.1] at hk
      exact (hd.2.2 i hi k).2 ⟨hk, ord_trans hin ho hf hk ((hd.2.2 j hj k).1 h2).2 ((hd.2.2 i hi j).1 h1).2⟩
  have hdd : Dn ds us := ⟨hd.1.symm, hf, fun j hj i => by
    rw [hd.1] at hj ⊢
    constructor
    · intro h
      have hi := ord_in hin hf hj h
      exact ⟨hi, (hd.2.2 i hi j).2 ⟨hj, h⟩⟩
    · rintro ⟨hi, h⟩
      exact ((hd.2.2 i hi j).1 h).2⟩
  rw [← hd.1]
  exact low_count hin' ho' hd.2.1 hdd hR hB
end
theorem incl_code {L P : List Nat} (H : ByIncl L P) (hl : L.length ≤ 16) : codeOf P.length P = 0 := by
  unfold codeOf
  rw [if_neg (by rw [H.len]; omega), if_neg (by simp), if_neg (by rw [insideB_true.2 H.inside]; simp), if_neg (by rw [isOrdB_true.2 H.ord]; simp)]
end Go.Proofs.YtdomcjfgmnpbmaaDoor

namespace Go.Proofs.YtdomcjfgmnpbmaaDoor
open Go

section
variable {P : Program}
theorem region_heldR {id : Nat} {Q : Exit → Act → World → Prop} {a : Act} {w : World} {l : List Oper} (S : World → Prop) (r k : Nat) (hnd : noDefer l = true) (hm : P.follows .mixedOrders = true)
    (h : wpAnyH P .any l.toArray (plainQ Q) S l.toArray.size (Array.replicate l.toArray.size false) a w.drew) : (Code.region id l.toArray true).wpIn (Fence.wide.inRound r) k P Q a w :=
  wpIn_region_any hm (any_round r k hnd _ _ _ _ (wpAny_of_held _ _ _ _ h))
theorem plain_no {Q : Exit → Act → World → Prop} {a b : Act} : ∀ c (_ : Act) w, plainQ Q (.panic c) a w → plainQ Q (.panic c) b w := fun _ _ _ h => absurd h.1 (by simp)
theorem plain_no' {Q : Exit → Act → World → Prop} {o : Oper} {v : Value} : ∀ c a w, plainQ Q (.panic c) (Act.put a o.dst v) w → plainQ Q (.panic c) a w := fun _ _ _ h => absurd h.1 (by simp)
end
end Go.Proofs.YtdomcjfgmnpbmaaDoor
