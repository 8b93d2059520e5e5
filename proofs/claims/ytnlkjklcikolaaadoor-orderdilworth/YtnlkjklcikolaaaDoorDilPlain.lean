/- Plain mathematics of the law OrderDilworth: words of lists, and what Split's answer says in the law's words. -/
import Derived.Test.YtnlkjklcikolaaaDoorSplitAny
import Derived.Test.YtnlkjklcikolaaaDoorKeepChain
import Derived.Test.YtnlkjklcikolaaaDoorKeepLoose
import Derived.Test.YtnlkjklcikolaaaDoorCoversPlain
namespace Go.Proofs.YtnlkjklcikolaaaDoor

def setW (l : List Nat) : Nat := l.foldl (fun w x => orW w (bitW x)) 0
theorem setW_snoc (l : List Nat) (x : Nat) : setW (l ++ [x]) = orW (setW l) (bitW x) := by unfold setW; rw [List.foldl_append]; rfl
theorem mem_setAux (x : Nat) : ∀ (l : List Nat) (w : Nat), hasB (l.foldl (fun w x => orW w (bitW x)) w) x = true ↔ hasB w x = true ∨ x ∈ l
  | [], w => by simp
  | y :: l, w => by
    rw [List.foldl_cons, mem_setAux x l, hasB_or, hasB_bitW, Bool.or_eq_true, decide_eq_true_iff, List.mem_cons]
    constructor
    · rintro ((h | h) | h)
      · exact .inl h
      · exact .inr (.inl h.symm)
      · exact .inr (.inr h)
    · rintro (h | h | h)
      · exact .inl (.inl h)
      · exact .inl (.inr h.symm)
      · exact .inr h
theorem mem_setW {l : List Nat} {x : Nat} : hasB (setW l) x = true ↔ x ∈ l := by
  unfold setW; rw [mem_setAux, hasB_zero]; simp
theorem setW_lt {l : List Nat} (h : ∀ x ∈ l, x < 32) : setW l < 4294967296 := by
  rw [← pow32]
  apply Nat.lt_pow_two_of_testBit
  intro i hi
  cases e : (setW l).testBit i with
  | false => rfl
  | true => have := h i (mem_setW.1 e); omega
theorem cnt_below {p : Nat → Bool} {n : Nat} (hn : n ≤ 32) (h : ∀ x, p x = true → x < n) : cntF p 32 = cntF p n := by
  unfold cntF
  congr 1
  refine rise_ext (filter_riseN _ _) (filter_riseN _ _) fun x => ?_
  rw [List.mem_filter, List.mem_filter, List.mem_range, List.mem_range]
  exact ⟨fun g => ⟨h x g.2, g.2⟩, fun g => ⟨by omega, g.2⟩⟩
theorem cnt_all {p : Nat → Bool} {n : Nat} (h : ∀ x, x < n → p x = true) : cntF p n = n := by
  have := cntF_not p n
  have h0 : cntF (fun x => !p x) n = 0 := by
    unfold cntF
    rw [List.length_eq_zero_iff, List.filter_eq_nil_iff]
    intro x hx
    rw [h x (List.mem_range.1 hx)]; simp
  omega
section
variable {us A : List Nat} {cs : List (List Nat)} (hf : Fit us) (hl : us.length ≤ 16) (P : SplitP us A cs)
include hf P
theorem SplitP.isLoose : looseB us (setW A) = true := by
  rw [looseB_true]
  intro i hi j hj h1 h2
  apply underB_false
  rintro ⟨h3, h4⟩
  exact P.loose i (mem_setW.1 h1) j (mem_setW.1 h2) ((upE_oth hf).2 ⟨hi, h3, h4⟩)
include hl
omit hf in
theorem SplitP.seen : cntF (hasB (setW cs.flatten)) 32 = us.length := by
  rw [cnt_below (n := us.length) (by omega) fun x hx => by
    obtain ⟨c, hc, q⟩ := List.mem_flatten.1 (mem_setW.1 hx)
    exact P.clt c hc x q]
  exact cnt_all fun x hx => by
    obtain ⟨c, hc, q⟩ := P.all x hx
    exact mem_setW.2 (List.mem_flatten.2 ⟨c, hc, q⟩)
theorem SplitP.most {s : Nat} (hs : ∀ x, hasB s x = true → x < us.length) (hlo : looseB us s = true) : cntF (hasB s) 32 ≤ A.length := by
  rw [cnt_below (n := us.length) (by omega) hs, P.len]
  rw [looseB_true] at hlo
  refine loose_le cs P.up P.all (hasB s) fun x y hx hy h => ?_
  have a1 := (upE_oth hf).1 h
  have := hlo x (hs x hx) y (hs y hy) hx hy
  rw [underB_true.2 ⟨a1.2.1, a1.2.2⟩] at this
  cases this
omit hl in
theorem SplitP.chain {c : List Nat} (hc : c ∈ cs) : chainZB us (toZ c) = true := by
  rw [chainZB_true]
  refine ⟨fun i hi => ?_, fun i hi h0 => ?_⟩
  · rw [toZ_len] at hi
    rw [zd_toZ hi]
    have := P.clt c hc _ (wd_mem hi)
    omega
  · rw [toZ_len] at hi
    rw [zd_toZ hi, zd_toZ (show i - 1 < c.length by omega), Int.toNat_natCast, Int.toNat_natCast]
    have hp := List.pairwise_iff_getElem.1 (P.up c hc) (i - 1) i (by omega) hi (by omega)
    have e1 : wd c (i - 1) = c[i - 1] := by unfold wd; rw [List.getD_eq_getElem?_getD, List.getElem?_eq_getElem (show i - 1 < c.length by omega)]; rfl
    have e2 : wd c i = c[i] := by unfold wd; rw [List.getD_eq_getElem?_getD, List.getElem?_eq_getElem hi]; rfl
    rw [e1, e2]
    have a1 := (upE_oth hf).1 hp
    exact underB_true.2 ⟨a1.2.1, a1.2.2⟩
end
end Go.Proofs.YtnlkjklcikolaaaDoor
