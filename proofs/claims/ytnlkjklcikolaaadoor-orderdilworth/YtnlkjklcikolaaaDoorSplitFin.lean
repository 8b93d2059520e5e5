/- Plain mathematics of Dilworth: what the links, the chains and the antichain say together. -/
import Derived.Test.YtnlkjklcikolaaaDoorChainsAny
import Derived.Test.YtnlkjklcikolaaaDoorAntiAny
import Derived.Test.YtnlkjklcikolaaaDoorOthPlain
import Derived.Test.YtnlkjklcikolaaaDoorCoverMore
namespace Go.Proofs.YtnlkjklcikolaaaDoor

theorem upE_oth {us : List Nat} (hf : Fit us) {x y : Nat} : upE (othL us) x y ↔ x < us.length ∧ x ≠ y ∧ hasB (wd us x) y = true := by
  unfold upE
  rw [othL_len]
  constructor
  · rintro ⟨h1, h2⟩
    rw [hasB_othL hf h1, Bool.and_eq_true] at h2
    exact ⟨h1, by simpa using h2.2, h2.1⟩
  · rintro ⟨h1, h2, h3⟩
    exact ⟨h1, by rw [hasB_othL hf h1, h3]; simpa using h2⟩
theorem oth_inside {us : List Nat} (hf : Fit us) (hin : Inside us) : Inside (othL us) := fun i hi j hj h => by
  rw [othL_len] at hi ⊢
  rw [hasB_othL hf hi, Bool.and_eq_true] at h
  exact hin i hi j hj h.1
def rkO (us : List Nat) (x : Nat) : Nat := cntF (fun y => hasB (wd (othL us) x) y) us.length
theorem rise_oth {us : List Nat} (hf : Fit us) (hin : Inside us) (ho : IsOrd us) : Rise (upE (othL us)) us.length (rkO us) := by
  have hlt : ∀ {x y}, upE (othL us) x y → x < us.length ∧ y < us.length := fun {x y} h => by
    have := (upE_oth hf).1 h
    exact ⟨this.1, hin x this.1 y (hasB_lt (hf x) this.2.2) this.2.2⟩
  have htr : ∀ {x y z}, upE (othL us) x y → upE (othL us) y z → upE (othL us) x z := fun {x y z} h1 h2 => by
    have a1 := (upE_oth hf).1 h1
    have a2 := (upE_oth hf).1 h2
    have hy := (hlt h1).2
    have hz := (hlt h2).2
    refine (upE_oth hf).2 ⟨a1.1, fun e => ?_, (ho x a1.1 y hy).2 z hz a1.2.2 a2.2.2⟩
    subst e
    have := (ho x a1.1 y hy).1.2 a1.2.1 a1.2.2
    rw [a2.2.2] at this; cases this
  refine ⟨hlt, htr, fun {x y} h => ?_⟩
  have hy := (hlt h).2
  have hx := (hlt h).1
  unfold rkO cntF
  refine flen_lt _ _ _ (fun z _ hz => (htr h ⟨by rw [othL_len]; exact hy, hz⟩).2) ⟨y, List.mem_range.2 hy, ?_, h.2⟩
  rw [hasB_othL hf hy]; simp
/-- what Split tells -/
structure SplitP (us : List Nat) (A : List Nat) (cs : List (List Nat)) : Prop where
  len : A.length = cs.length
  rise : A.Pairwise (· < ·)
  lt : ∀ x ∈ A, x < us.length
  loose : ∀ x ∈ A, ∀ y ∈ A, ¬ upE (othL us) x y
  up : ∀ c ∈ cs, c.Pairwise (upE (othL us))
  clt : ∀ c ∈ cs, ∀ x ∈ c, x < us.length
  all : ∀ x, x < us.length → ∃ c ∈ cs, x ∈ c
  flat : cs.flatten.length = us.length
theorem split_p {us : List Nat} (hf : Fit us) (hin : Inside us) (ho : IsOrd us) {nx pv : Nat → Option Nat} (hTr : Tried (upE (othL us)) nx pv us.length) {lo hi : Nat} (hL : Lows (upE (othL us)) nx pv us.length lo hi) {cs : List (List Nat)} (hC : Chs nx pv us.length cs) : SplitP us (elems (andN lo hi)) cs := by
  have R := rise_oth hf hin ho
  obtain ⟨M, _, D, hD, hDe⟩ := hTr
  have hN : ∀ x, rkO us x ≤ us.length := fun x => by unfold rkO; exact cntF_leN _ _
  obtain ⟨h1, h2, h3, h4⟩ := Chs.whole M R hC hN
  have hl4 : andN lo hi < 18446744073709551616 := by have := andN_lt (b := hi) hL.lt1; omega
  have hmem : ∀ x, x ∈ elems (andN lo hi) ↔ hasB lo x = true ∧ hasB hi x = false := fun x => by
    rw [mem_elems hl4, hasB_andN hL.lt1, Bool.and_eq_true]; simp
  have hlon : ∀ x, hasB lo x = true → x < us.length := fun x hx => by
    rcases hL.org x hx with q | ⟨b, e⟩
    · exact q
    · exact (R.lt (M.isUp ((M.two x b).2 e))).1
  have hfil : elems (andN lo hi) = (List.range us.length).filter fun x => hasB lo x && !hasB hi x := by
    refine rise_ext (sorted_elems hl4) (filter_riseN _ _) fun x => ?_
    rw [hmem, List.mem_filter, List.mem_range]
    constructor
    · rintro ⟨a1, a2⟩; exact ⟨hlon x a1, by rw [a1, a2]; rfl⟩
    · rintro ⟨_, a2⟩; rw [Bool.and_eq_true] at a2; exact ⟨a2.1, by simpa using a2.2⟩
  have hloose : ∀ x ∈ elems (andN lo hi), ∀ y ∈ elems (andN lo hi), ¬ upE (othL us) x y := fun x hx y hy h => by
    have := hL.ups x ((hmem x).1 hx).1 y h
    rw [((hmem y).1 hy).2] at this; cases this
  have k1 := koenig M R.lt (fun x => hasB lo x) (fun x => hasB hi x) hD hL.ends hL.back (hL.dead D hD hDe)
  have k2 := loose_le cs h2 h1 (fun x => hasB lo x && !hasB hi x) fun x y hx hy => by
    rw [Bool.and_eq_true] at hx hy
    exact hloose x ((hmem x).2 ⟨hx.1, by simpa using hx.2⟩) y ((hmem y).2 ⟨hy.1, by simpa using hy.2⟩)
  have hlen : (elems (andN lo hi)).length = cntF (fun x => hasB lo x && !hasB hi x) us.length := by rw [hfil]; rfl
  refine ⟨?_, sorted_elems hl4, fun x hx => hlon x ((hmem x).1 hx).1, hloose, h2, h3, h1, h4⟩
  have := hC.len
  omega
end Go.Proofs.YtnlkjklcikolaaaDoor
