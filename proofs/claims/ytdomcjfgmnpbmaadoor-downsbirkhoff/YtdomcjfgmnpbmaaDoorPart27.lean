/- Lists of pairs in memory, two cells each. Plain: how many covers an element has, counted over the list of all of them. -/
import Derived.Test.YtdomcjfgmnpbmaaDoorPart9
import Derived.Test.YtdomcjfgmnpbmaaDoorPart19
namespace Go.Proofs.YtdomcjfgmnpbmaaDoor
open Go.RowKit Go.Shelf

/-- pairs as values, two cells each -/
def pvals (l : List (Nat × Nat)) : List Value := l.flatMap fun p => [.int .i64 ((p.1 : Nat) : Int), .int .i64 ((p.2 : Nat) : Int)]
theorem pvals_snoc (l : List (Nat × Nat)) (a b : Nat) : pvals (l ++ [(a, b)]) = pvals l ++ [.int .i64 ((a : Nat) : Int), .int .i64 ((b : Nat) : Int)] := by
  unfold pvals; simp
theorem info_pair : (Tryd.prog.info? 82).map (fun i => (i.zero, i.size, i.bytes)) = some (some (.agg #[.int .i64 0, .int .i64 0]), 2, 16) := by kernel_rfl
/-- a slice over pairs -/
def IsPairs (n₀ : Nat) (W : World) (a : Option Addr) (l : List (Nat × Nat)) : Prop :=
  l = [] ∨ ∃ b, a = some ⟨b, 0, none⟩ ∧ b < n₀ ∧ ∀ i (h : i < l.length), W.cell? ⟨b, i * 2, none⟩ = some (.int .i64 ((l[i].1 : Nat) : Int)) ∧ W.cell? ⟨b, i * 2 + 1, none⟩ = some (.int .i64 ((l[i].2 : Nat) : Int))
theorem pvals_len (l : List (Nat × Nat)) : (pvals l).length = 2 * l.length := by
  induction l with
  | nil => rfl
  | cons p l ih => unfold pvals at *; rw [List.flatMap_cons, List.length_append, ih]; simp; omega
theorem pvals_at : ∀ (l : List (Nat × Nat)) (i : Nat) (h : i < l.length), (pvals l)[2 * i]? = some (.int .i64 ((l[i].1 : Nat) : Int)) ∧ (pvals l)[2 * i + 1]? = some (.int .i64 ((l[i].2 : Nat) : Int))
  | [], i, h => by simp at h
  | p :: l, 0, _ => by unfold pvals; simp
  | p :: l, i + 1, h => by
    have ih := pvals_at l i (by simpa using h)
    have e : pvals (p :: l) = [.int .i64 ((p.1 : Nat) : Int), .int .i64 ((p.2 : Nat) : Int)] ++ pvals l := by unfold pvals; simp
    have h1 : 2 * (i + 1) = 2 * i + 2 := by omega
    have h2 : 2 * (i + 1) + 1 = (2 * i + 1) + 2 := by omega
    rw [e, h1]
    constructor
    · rw [List.getElem?_append_right (by simp)]; simpa using ih.1
    · rw [List.getElem?_append_right (by simp)]; simpa using ih.2
theorem ownsRow_pairs {W : World} {base : Nat} {av : Option Addr} {k cv : Nat} {l : List (Nat × Nat)} (h : W.ownsRow base 82 2 (.slice av k cv) k (pvals l)) : IsPairs W.heap.size W av l := by
  have hlen : l.length = k := by have := h.1; rw [pvals_len] at this; omega
  rcases h.2 with ⟨h1, h2⟩ | ⟨g, cap, cur, h1, h2, h3, h4, h5, h6, h7⟩
  · exact .inl (List.length_eq_zero_iff.1 (by omega))
  · cases h1
    refine .inr ⟨g, rfl, (Array.getElem?_eq_some_iff.1 h3).1, fun i hi => ?_⟩
    have hp := pvals_at l i hi
    rw [← h7, List.getElem?_take, List.getElem?_take, if_pos (by omega), if_pos (by omega)] at hp
    rw [Nat.mul_comm 2 i] at hp
    simp only [World.cell?, h3]
    simp [← Array.getElem?_toList, hp]

theorem IsPairs.below {n₀ : Nat} {A B : World} {a : Option Addr} {l : List (Nat × Nat)} (h : IsPairs n₀ A a l) (hb : Below n₀ A B) : IsPairs n₀ B a l := by
  rcases h with h | ⟨b, h1, h2, h3⟩
  · exact .inl h
  · exact .inr ⟨b, h1, h2, fun i hi => ⟨(hb.cell (p := ⟨b, i * 2, none⟩) h2).trans (h3 i hi).1, (hb.cell (p := ⟨b, i * 2 + 1, none⟩) h2).trans (h3 i hi).2⟩⟩
theorem IsPairs.at {n₀ : Nat} {A : World} {a : Option Addr} {l : List (Nat × Nat)} (h : IsPairs n₀ A a l) {i : Nat} (hi : i < l.length) :
    ∃ b, a = some ⟨b, 0, none⟩ ∧ b < n₀ ∧ A.cell? ⟨b, i * 2, none⟩ = some (.int .i64 ((l[i].1 : Nat) : Int)) ∧ A.cell? ⟨b, i * 2 + 1, none⟩ = some (.int .i64 ((l[i].2 : Nat) : Int)) := by
  rcases h with h | ⟨b, h1, h2, h3⟩
  · subst h; simp at hi
  · exact ⟨b, h1, h2, (h3 i hi).1, (h3 i hi).2⟩
end Go.Proofs.YtdomcjfgmnpbmaaDoor

namespace Go.Proofs.YtdomcjfgmnpbmaaDoor

/-- how many of the first k pairs have x at the side f -/
def cntTo (f : Nat × Nat → Nat) (L : List (Nat × Nat)) (x : Nat) : Nat → Nat
  | 0 => 0
  | k + 1 => cntTo f L x k + if f (L.getD k (0, 0)) = x then 1 else 0
theorem cntTo_le (f : Nat × Nat → Nat) (L : List (Nat × Nat)) (x : Nat) : ∀ k, cntTo f L x k ≤ k
  | 0 => Nat.le_refl _
  | k + 1 => by have := cntTo_le f L x k; unfold cntTo; split <;> omega
theorem cntTo_append (f : Nat × Nat → Nat) (L M : List (Nat × Nat)) (x : Nat) : ∀ k, k ≤ L.length → cntTo f (L ++ M) x k = cntTo f L x k
  | 0, _ => rfl
  | k + 1, h => by
    unfold cntTo
    rw [cntTo_append f L M x k (by omega)]
    have : (L ++ M).getD k (0, 0) = L.getD k (0, 0) := by
      rw [List.getD_eq_getElem?_getD, List.getD_eq_getElem?_getD, List.getElem?_append_left (by omega)]
    rw [this]
theorem cntTo_snoc (f : Nat × Nat → Nat) (L : List (Nat × Nat)) (p : Nat × Nat) (x : Nat) : cntTo f (L ++ [p]) x (L ++ [p]).length = cntTo f L x L.length + if f p = x then 1 else 0 := by
  rw [List.length_append]
  have : (L ++ [p]).getD L.length (0, 0) = p := by rw [List.getD_eq_getElem?_getD]; simp
  show (cntTo f (L ++ [p]) x L.length + if f ((L ++ [p]).getD L.length (0, 0)) = x then 1 else 0) = _
  rw [cntTo_append f L [p] x L.length (Nat.le_refl _), this]
/-- counted at once -/
theorem cntTo_filter (f : Nat × Nat → Nat) (x : Nat) (L : List (Nat × Nat)) : cntTo f L x L.length = (L.filter fun p => decide (f p = x)).length := by
  obtain ⟨M, rfl⟩ : ∃ M, L = M.reverse := ⟨L.reverse, by simp⟩
  induction M with
  | nil => rfl
  | cons p M ih =>
    rw [List.reverse_cons, cntTo_snoc, ih, List.filter_append, List.length_append]
    by_cases h : f p = x
    · simp [h]
    · simp [h]
theorem filter_eq_one (g : Nat → Bool) (x : Nat) : ∀ m, ((List.range m).filter fun y => g y && decide (y = x)).length = if x < m ∧ g x = true then 1 else 0
  | 0 => by simp
  | m + 1 => by
    rw [List.range_succ, List.filter_append, List.length_append, filter_eq_one g x m]
    by_cases e : m = x
    · subst e
      cases h : g m <;> simp [h]
    · by_cases h : x < m
      · have h2 : x < m + 1 := by omega
        simp [e, h, h2]
      · have h2 : ¬ x < m + 1 := by omega
        simp [e, h, h2]
theorem row_snd (us : List Nat) (k x : Nat) (hx : x < us.length) : ((coverRow us k us.length).filter fun p => decide (p.2 = x)).length = if coverB us k x then 1 else 0 := by
  unfold coverRow
  rw [List.filter_map, List.length_map, List.filter_filter]
  have := filter_eq_one (coverB us k) x us.length
  have e : ((List.range us.length).filter fun y => ((fun p : Nat × Nat => decide (p.2 = x)) ∘ fun b => (k, b)) y && coverB us k y) = ((List.range us.length).filter fun y => coverB us k y && decide (y = x)) := List.filter_congr fun y _ => by simp [Bool.and_comm]
  rw [e, this]
  simp [hx]
theorem row_fst (us : List Nat) (k x : Nat) : ((coverRow us k us.length).filter fun p => decide (p.1 = x)).length = if k = x then highCnt us x else 0 := by
  unfold coverRow highCnt
  rw [List.filter_map, List.length_map]
  by_cases e : k = x
  · subst e
    rw [if_pos rfl]
    congr 1
    rw [List.filter_filter]
    exact List.filter_congr fun y _ => by simp
  · rw [if_neg e, List.length_eq_zero_iff, List.filter_eq_nil_iff]
    intro y _
    simp [e]
theorem cover_snd (us : List Nat) (x : Nat) (hx : x < us.length) : ∀ m, ((coverL us m).filter fun p => decide (p.2 = x)).length = ((List.range m).filter fun c => coverB us c x).length
  | 0 => rfl
  | m + 1 => by
    unfold coverL
    rw [List.filter_append, List.length_append, cover_snd us x hx m, row_snd us m x hx, List.range_succ, List.filter_append, List.length_append]
    cases h : coverB us m x <;> simp [h]
theorem cover_fst (us : List Nat) (x : Nat) : ∀ m, ((coverL us m).filter fun p => decide (p.1 = x)).length = if x < m then highCnt us x else 0
  | 0 => by simp [coverL]
  | m + 1 => by
    unfold coverL
    rw [List.filter_append, List.length_append, cover_fst us x m, row_fst]
    by_cases e : m = x
    · subst e; simp
    · by_cases h : x < m
      · have : x < m + 1 := by omega
        simp [e, h, this]
      · have : ¬ x < m + 1 := by omega
        simp [e, h, this]
theorem cnt_low {us : List Nat} {x : Nat} (hx : x < us.length) : cntTo Prod.snd (coverL us us.length) x (coverL us us.length).length = lowCnt us x := by
  rw [cntTo_filter]; exact cover_snd us x hx us.length
theorem cnt_high {us : List Nat} {x : Nat} (hx : x < us.length) : cntTo Prod.fst (coverL us us.length) x (coverL us us.length).length = highCnt us x := by
  rw [cntTo_filter]
  have := cover_fst us x us.length
  rw [if_pos hx] at this
  exact this
/-- the places of the first k at which there is a 1 -/
def onesTo (l : List Nat) (k : Nat) : List Nat := (List.range k).filter fun i => decide (wd l i = 1)
theorem onesTo_succ (l : List Nat) (k : Nat) : onesTo l (k + 1) = onesTo l k ++ if wd l k = 1 then [k] else [] := by
  unfold onesTo
  rw [List.range_succ, List.filter_append]
  by_cases h : wd l k = 1 <;> simp [h]
theorem onesTo_len (l : List Nat) (k : Nat) : (onesTo l k).length ≤ k := by
  unfold onesTo
  have := List.length_filter_le (fun i => decide (wd l i = 1)) (List.range k)
  simpa using this
theorem ones_low {us l : List Nat} (hl : l.length = us.length) (h : ∀ x, x < us.length → wd l x = lowCnt us x) : onesTo l l.length = lowIrr us := by
  unfold onesTo lowIrr
  rw [hl]
  exact List.filter_congr fun x hx => by rw [h x (List.mem_range.1 hx)]
theorem ones_high {us l : List Nat} (hl : l.length = us.length) (h : ∀ x, x < us.length → wd l x = highCnt us x) : onesTo l l.length = highIrr us := by
  unfold onesTo highIrr
  rw [hl]
  exact List.filter_congr fun x hx => by rw [h x (List.mem_range.1 hx)]
end Go.Proofs.YtdomcjfgmnpbmaaDoor
