/- Plain: how many covers an element has, counted over the list of all of them. The contract of the program's others: each word without its own element. -/
import Derived.Test.YtdomcjfgmnpbmaaDoorPart19
import Derived.Test.YtdomcjfgmnpbmaaDoorPart28
import Derived.Test.YtdomcjfgmnpbmaaDoorPart15
namespace Go.Proofs.YtdomcjfgmnpbmaaDoor

/-- how many of the first k pairs have x at the side f -/
def cntTo (f : Nat × Nat → Nat) (L : List (Nat × Nat)) (x : Nat) : Nat → Nat
  | 0 => 0
  | k + 1 => cntTo f L x k + if f (L.getD k (0, 0)) = x then 1 else 0
theorem cntTo_le (f : Nat × Nat → Nat) (L : List (Nat × Nat)) (x : Nat) : ∀ k, cntTo f L x k ≤ k
  | 0 => Nat.le_refl _
  | k + 1 => by have := cntTo_le f L x k; unfold cntTo; split <;> omega
theorem cntTo_append (f : Nat × Nat → Nat) (L M : List (Nat × Nat)) (x : Nat) : ∀ k, k ≤ L.length → cntTo f (L ++ M) x k = cntTo f L x k
  | 0, _ => rfl
  | k + 1, h => by
    unfold cntTo
    rw [cntTo_append f L M x k (by omega)]
    have : (L ++ M).getD k (0, 0) = L.getD k (0, 0) := by
      rw [List.getD_eq_getElem?_getD, List.getD_eq_getElem?_getD, List.getElem?_append_left (by omega)]
    rw [this]
theorem cntTo_snoc (f : Nat × Nat → Nat) (L : List (Nat × Nat)) (p : Nat × Nat) (x : Nat) : cntTo f (L ++ [p]) x (L ++ [p]).length = cntTo f L x L.length + if f p = x then 1 else 0 := by
  rw [List.length_append]
  have : (L ++ [p]).getD L.length (0, 0) = p := by rw [List.getD_eq_getElem?_getD]; simp
  show (cntTo f (L ++ [p]) x L.length + if f ((L ++ [p]).getD L.length (0, 0)) = x then 1 else 0) = _
  rw [cntTo_append f L [p] x L.length (Nat.le_refl _), this]
/-- counted at once -/
theorem cntTo_filter (f : Nat × Nat → Nat) (x : Nat) (L : List (Nat × Nat)) : cntTo f L x L.length = (L.filter fun p => decide (f p = x)).length := by
  obtain ⟨M, rfl⟩ : ∃ M, L = M.reverse := ⟨L.reverse, by simp⟩
  induction M with
  | nil => rfl
  | cons p M ih =>
    rw [List.reverse_cons, cntTo_snoc, ih, List.filter_append, List.length_append]
    by_cases h : f p = x
    · simp [h]
    · simp [h]
theorem filter_eq_one (g : Nat → Bool) (x : Nat) : ∀ m, ((List.range m).filter fun y => g y && decide (y = x)).length = if x < m ∧ g x = true then 1 else 0
  | 0 => by simp
  | m + 1 => by
    rw [List.range_succ, List.filter_append, List.length_append, filter_eq_one g x m]
    by_cases e : m = x
    · subst e
      cases h : g m <;> simp [h]
    · by_cases h : x < m
      · have h2 : x < m + 1 := by omega
        simp [e, h, h2]
      · have h2 : ¬ x < m + 1 := by omega
        simp [e, h, h2]
theorem row_snd (us : List Nat) (k x : Nat) (hx : x < us.length) : ((coverRow us k us.length).filter fun p => decide (p.2 = x)).length = if coverB us k x then 1 else 0 := by
  unfold coverRow
  rw [List.filter_map, List.length_map, List.filter_filter]
  have := filter_eq_one (coverB us k) x us.length
  have e : ((List.range us.length).filter fun y => ((fun p : Nat × Nat => decide (p.2 = x)) ∘ fun b => (k, b)) y && coverB us k y) = ((List.range us.length).filter fun y => coverB us k y && decide (y = x)) := List.filter_congr fun y _ => by simp [Bool.and_comm]
  rw [e, this]
  simp [hx]
theorem row_fst (us : List Nat) (k x : Nat) : ((coverRow us k us.length).filter fun p => decide (p.1 = x)).length = if k = x then highCnt us x else 0 := by
  unfold coverRow highCnt
  rw [List.filter_map, List.length_map]
  by_cases e : k = x
  · subst e
    rw [if_pos rfl]
    congr 1
    rw [List.filter_filter]
    exact List.filter_congr fun y _ => by simp
  · rw [if_neg e, List.length_eq_zero_iff, List.filter_eq_nil_iff]
    intro y _
    simp [e]
theorem cover_snd (us : List Nat) (x : Nat) (hx : x < us.length) : ∀ m, ((coverL us m).filter fun p => decide (p.2 = x)).length = ((List.range m).filter fun c => coverB us c x).length
  | 0 => rfl
  | m + 1 => by
    unfold coverL
    rw [List.filter_append, List.length_append, cover_snd us x hx m, row_snd us m x hx, List.range_succ, List.filter_append, List.length_append]
    cases h : coverB us m x <;> simp [h]
theorem cover_fst (us : List Nat) (x : Nat) : ∀ m, ((coverL us m).filter fun p => decide (p.1 = x)).length = if x < m then highCnt us x else 0
  | 0 => by simp [coverL]
  | m + 1 => by
    unfold coverL
    rw [List.filter_append, List.length_append, cover_fst us x m, row_fst]
    by_cases e : m = x
    · subst e; simp
    · by_cases h : x < m
      · have : x < m + 1 := by omega
        simp [e, h, this]
      · have : ¬ x < m + 1 := by omega
        simp [e, h, this]
theorem cnt_low {us : List Nat} {x : Nat} (hx : x < us.length) : cntTo Prod.snd (coverL us us.length) x (coverL us us.length).length = lowCnt us x := by
  rw [cntTo_filter]; exact cover_snd us x hx us.length
theorem cnt_high {us : List Nat} {x : Nat} (hx : x < us.length) : cntTo Prod.fst (coverL us us.length) x (coverL us us.length).length = highCnt us x := by
  rw [cntTo_filter]
  have := cover_fst us x us.length
  rw [if_pos hx] at this
  exact this
/-- the places of the first k at which there is a 1 -/
def onesTo (l : List Nat) (k : Nat) : List Nat := (List.range k).filter fun i => decide (wd l i = 1)
theorem onesTo_succ (l : List Nat) (k : Nat) : onesTo l (k + 1) = onesTo l k ++ if wd l k = 1 then [k] else [] := by
  unfold onesTo
  rw [List.range_succ, List.filter_append]
  by_cases h : wd l k = 1 <;> simp [h]
theorem onesTo_len (l : List Nat) (k : Nat) : (onesTo l k).length ≤ k := by
  unfold onesTo
  have := List.length_filter_le (fun i => decide (wd l i = 1)) (List.range k)
  simpa using this
theorem ones_low {us l : List Nat} (hl : l.length = us.length) (h : ∀ x, x < us.length → wd l x = lowCnt us x) : onesTo l l.length = lowIrr us := by
  unfold onesTo lowIrr
  rw [hl]
  exact List.filter_congr fun x hx => by rw [h x (List.mem_range.1 hx)]
theorem ones_high {us l : List Nat} (hl : l.length = us.length) (h : ∀ x, x < us.length → wd l x = highCnt us x) : onesTo l l.length = highIrr us := by
  unfold onesTo highIrr
  rw [hl]
  exact List.filter_congr fun x hx => by rw [h x (List.mem_range.1 hx)]
end Go.Proofs.YtdomcjfgmnpbmaaDoor

namespace Go.Proofs.YtdomcjfgmnpbmaaDoor
open Go.RowKit Go.Shelf

set_option maxRecDepth 100000 in
set_option maxHeartbeats 1000000 in
theorem others_any (a : Option Addr) (cap : Nat) (us : List Nat) (n₀ : Nat) (hf : Fit us) (hl : us.length ≤ 16) (w : World) (hw : IsWords n₀ w a us) (hn₀ : n₀ ≤ w.heap.size) :
    Calls Tryd.prog 65 #[.slice a us.length cap] w fun e w' => e = .returned (.slice (some ⟨w.heap.size, 0, none⟩) us.length us.length) ∧ Below w.heap.size w w' ∧ Row w' w.heap.size 53 (wvals (othL us)) := by
  have hmk := run_make_row' (P := Tryd.prog) 22 53 (.int .u32 0) 4 Tryd.underlying22 info_u32 rfl .i64 .i64 us.length (by omega) (by omega)
  go_enter Tryd.func65, Tryd.ntmps65
  go_wp2
  go_loopw [11] (fun i wr => ∃ (k : Nat) (ds : List Nat), k ≤ us.length ∧ i = .int .i64 k ∧ ds.length = us.length ∧ (∀ j, j < k → wd ds j = andN (wd us j) (bitW j)) ∧ Row wr w.heap.size 53 (wvals ds) ∧ Below w.heap.size w wr) (fun i _ => us.length - (intOf i).toNat)
  case atStart =>
    have h1 := Row.new w 53 (wvals (List.replicate us.length 0))
    rw [← wvals_replicate] at h1
    exact ⟨0, _, Nat.zero_le _, rfl, by simp, fun j h => by omega, h1, (Below.refl _ _).alloc (Nat.le_refl _) _⟩
  case round =>
    clear hmk
    obtain ⟨k, ds, hk, rfl, hdl, hall, rD, hB⟩ := hrel
    by_cases hlt : k < us.length
    · obtain ⟨b, off, rfl, hb, hc⟩ := (hw.below (hB.mono hn₀)).at hlt
      have hck := hc k hlt
      clear hc
      have cK := rD.cell (wvals_at (us := ds) (i := k) (by omega))
      have fK := rD.frozen k
      have hbits := bits_andN32 (wd us k) (bitW k) (hf k) (bitW_lt (by omega))
      go_wp2_with (go_at_call 67; refine (bit_any _ (by omega) _).mono ?_; rintro e w' ⟨rfl, rfl⟩)
      refine ⟨⟨k + 1, ds.set k (andN (wd us k) (bitW k)), by omega, by go_num, by simp [hdl], fun j hj => ?_, by rw [← wvals_set]; exact rD.set k _, hB.setCell (p := ⟨w.heap.size, k, none⟩) (Nat.le_refl _) _⟩, by simp [intOf]; omega⟩
      rw [wd_set (by omega)]
      by_cases e : k = j
      · rw [if_pos e, e]
      · rw [if_neg e]; exact hall j (by omega)
    · obtain rfl : ds = othL us := wd_ext (by rw [othL_len]; exact hdl) fun i hi => by rw [hall i (by omega), wd_othL (by omega)]
      go_wp2
      go_ret
      exact ⟨rfl, hB, rD⟩
end Go.Proofs.YtdomcjfgmnpbmaaDoor
