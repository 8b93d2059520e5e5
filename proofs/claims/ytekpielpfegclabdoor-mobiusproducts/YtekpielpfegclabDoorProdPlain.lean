/- The product of two orders: pairs, each below where both are below. -/
import Derived.Test.YtekpielpfegclabDoorDownPlain
import Derived.Test.YtekpielpfegclabDoorMobMore
namespace Go.Proofs.YtekpielpfegclabDoor

/-- what is above a pair, of the first k pairs -/
def pairW (us ps : List Nat) (i j k : Nat) : Nat := wordOf (fun t => hasB (wd us i) (t / ps.length) && hasB (wd ps j) (t % ps.length)) k
theorem pairW_zero (us ps : List Nat) (i j : Nat) : pairW us ps i j 0 = 0 := rfl
theorem pairW_yes {us ps : List Nat} {i j k : Nat} (h : (hasB (wd us i) (k / ps.length) && hasB (wd ps j) (k % ps.length)) = true) : pairW us ps i j (k + 1) = orW (pairW us ps i j k) (bitW k) := by
  show (if _ then _ else _) = _
  rw [if_pos h]; rfl
theorem pairW_no {us ps : List Nat} {i j k : Nat} (h : (hasB (wd us i) (k / ps.length) && hasB (wd ps j) (k % ps.length)) = false) : pairW us ps i j (k + 1) = pairW us ps i j k := by
  show (if _ then _ else _) = _
  rw [if_neg (by simp [h])]; rfl
theorem pairW_lt (us ps : List Nat) (i j : Nat) {k : Nat} (hk : k ≤ 32) : pairW us ps i j k < 4294967296 := wordOf_lt _ hk
/-- of as many pairs, what is above each -/
def prodTo (us ps : List Nat) (c : Nat) : List Nat := (List.range c).map fun t => pairW us ps (t / ps.length) (t % ps.length) (us.length * ps.length)
theorem prodTo_len (us ps : List Nat) (c : Nat) : (prodTo us ps c).length = c := by unfold prodTo; simp
theorem prodTo_snoc {us ps : List Nat} {i j : Nat} (hj : j < ps.length) : prodTo us ps (i * ps.length + j + 1) = prodTo us ps (i * ps.length + j) ++ [pairW us ps i j (us.length * ps.length)] := by
  unfold prodTo
  rw [List.range_succ, List.map_append, List.map_singleton, pair_div hj, pair_mod hj]
theorem wd_prodTo {us ps : List Nat} {c t : Nat} (h : t < c) : wd (prodTo us ps c) t = pairW us ps (t / ps.length) (t % ps.length) (us.length * ps.length) := by
  unfold prodTo wd
  rw [List.getD_eq_getElem?_getD, List.getElem?_map, List.getElem?_range h]; rfl
/-- the product -/
def prodL (us ps : List Nat) : List Nat := prodTo us ps (us.length * ps.length)
theorem prodL_len (us ps : List Nat) : (prodL us ps).length = us.length * ps.length := prodTo_len _ _ _
theorem fit_prodL {us ps : List Nat} (hl : us.length * ps.length ≤ 16) : Fit (prodL us ps) := fun i => by
  by_cases h : i < us.length * ps.length
  · unfold prodL
    rw [wd_prodTo h]; exact pairW_lt us ps _ _ (by omega)
  · unfold wd
    rw [List.getD_eq_getElem?_getD, List.getElem?_eq_none (by rw [prodL_len]; omega)]
    decide
theorem mem_prod {us ps : List Nat} {k : Nat} (hk : k < us.length * ps.length) (l : Nat) : hasB (wd (prodL us ps) k) l = (decide (l < us.length * ps.length) && (hasB (wd us (k / ps.length)) (l / ps.length) && hasB (wd ps (k % ps.length)) (l % ps.length))) := by
  unfold prodL
  rw [wd_prodTo hk]
  unfold pairW
  rw [hasB_wordOf]
section
variable {us ps : List Nat} (hin : Inside us) (ho : IsOrd us) (hf : Fit us) (hin' : Inside ps) (ho' : IsOrd ps) (hf' : Fit ps)
include hin ho hf hin' ho' hf'
theorem prod_ord : IsOrd (prodL us ps) := by
  intro i hi j hj
  rw [prodL_len] at hi hj
  have hM : 0 < ps.length := by
    cases h0 : ps.length with
    | zero => rw [h0] at hi; omega
    | succ _ => omega
  have hdiv : ∀ k, k < us.length * ps.length → k / ps.length < us.length := fun k hk => (Nat.div_lt_iff_lt_mul hM).2 (by omega)
  have hmod : ∀ k, k % ps.length < ps.length := fun k => Nat.mod_lt _ hM
  refine ⟨⟨fun _ => ?_, fun hne h => ?_⟩, fun k hk h1 h2 => ?_⟩
  · rw [mem_prod hi, ord_refl ho (hdiv i hi), ord_refl ho' (hmod i)]; simp [hi]
  · rw [mem_prod hi, Bool.and_eq_true, Bool.and_eq_true] at h
    cases e : hasB (wd (prodL us ps) j) i with
    | false => rfl
    | true =>
      rw [mem_prod hj, Bool.and_eq_true, Bool.and_eq_true] at e
      have e1 := ord_anti hin ho hf (hdiv i hi) h.2.1 e.2.1
      have e2 := ord_anti hin' ho' hf' (hmod i) h.2.2 e.2.2
      exact absurd (by rw [← Nat.div_add_mod i ps.length, ← Nat.div_add_mod j ps.length, e1, e2]) hne
  · rw [prodL_len] at hk
    rw [mem_prod hi, Bool.and_eq_true, Bool.and_eq_true] at h1
    rw [mem_prod hj, Bool.and_eq_true, Bool.and_eq_true] at h2
    rw [mem_prod hi, ord_trans hin ho hf (hdiv i hi) h1.2.1 h2.2.1, ord_trans hin' ho' hf' (hmod i) h1.2.2 h2.2.2]
    simp [hk]
omit hin ho hf hin' ho' hf' in
theorem prod_inside : Inside (prodL us ps) := fun i hi j _ h => by
  rw [prodL_len] at hi ⊢
  rw [mem_prod hi, Bool.and_eq_true] at h
  exact of_decide_eq_true h.1
theorem prod_code (hl : us.length * ps.length ≤ 16) : codeOf (us.length * ps.length : Nat) (prodL us ps) = 0 := by
  unfold codeOf
  rw [if_neg (by omega), if_neg (by rw [prodL_len]; simp), if_neg (by rw [insideB_true.2 prod_inside]; simp), if_neg (by rw [isOrdB_true.2 (prod_ord hin ho hf hin' ho' hf')]; simp)]
/-- of pairs Mu is the product of both -/
theorem prod_mu : EqN (us.length * ps.length) (fun k l => muM us (k / ps.length) (l / ps.length) * muM ps (k % ps.length) (l % ps.length)) (muM (prodL us ps)) := by
  have h := mu_pairs ho ho' (prod_ord hin ho hf hin' ho' hf') (prodL_len us ps) (fun k hk l hl => by
    rw [prodL_len] at hk hl
    rw [mem_prod hk]; simp [hl])
  rwa [prodL_len] at h
end
end Go.Proofs.YtekpielpfegclabDoor
