/- Plain mathematics of the order of sets: which is within which. The contracts of the closure of package polar's Complete, and of ordered at it. -/
import Derived.Test.YtdeglbmoiofpoaaDoorPart13
import Derived.Test.YtdeglbmoiofpoaaDoorPart10
import Derived.Test.YtdeglbmoiofpoaaDoorPart6
import Derived.StillTailTactics
namespace Go.Proofs.YtdeglbmoiofpoaaDoor

/-- is a within b? -/
def subB (a b : Nat) : Bool := decide (andN a b = 0)
theorem subB_iff {a b : Nat} (ha : a < 4294967296) : subB a b = true ↔ ∀ x, hasB a x = true → hasB b x = true := by
  unfold subB
  rw [decide_eq_true_iff, word_zero]
  constructor
  · intro h x hx
    have := h x
    rw [hasB_andN ha, hx] at this
    simpa using this
  · intro h x
    rw [hasB_andN ha]
    cases e : hasB a x with
    | false => rfl
    | true => rw [h x e]; rfl
theorem subB_or {a b : Nat} (ha : a < 4294967296) : (orW a b = b) ↔ subB a b = true := by
  rw [subB_iff ha]
  constructor
  · intro h x hx
    rw [← h, hasB_or, hx]; rfl
  · intro h
    exact word_ext' fun x => by
      rw [hasB_or, Bool.or_eq_true]
      exact ⟨fun g => g.elim (h x) id, .inr⟩
def inclW (l : List Nat) (t k : Nat) : Nat := wordOf (fun x => subB (wd l t) (wd l x)) k
/-- the words of the order, made as far as row i, and there as far as j -/
def inclTo (l : List Nat) (i j : Nat) : List Nat := (List.range l.length).map fun t => inclW l t (if t < i then l.length else if t = i then j else 0)
def inclL (l : List Nat) : List Nat := (List.range l.length).map fun t => inclW l t l.length
theorem inclTo_len (l : List Nat) (i j : Nat) : (inclTo l i j).length = l.length := by unfold inclTo; simp
theorem inclL_len (l : List Nat) : (inclL l).length = l.length := by unfold inclL; simp
theorem wd_map {f : Nat → Nat} {n t : Nat} (h : t < n) : wd ((List.range n).map f) t = f t := by
  unfold wd
  rw [List.getD_eq_getElem?_getD, List.getElem?_map, List.getElem?_range h]; rfl
theorem list_wd {a b : List Nat} (hl : a.length = b.length) (h : ∀ i, i < a.length → wd a i = wd b i) : a = b := by
  apply List.ext_getElem hl
  intro i h1 h2
  have := h i h1
  unfold wd at this
  rw [List.getD_eq_getElem?_getD, List.getD_eq_getElem?_getD, List.getElem?_eq_getElem h1, List.getElem?_eq_getElem h2] at this
  exact this
theorem inclTo_zero (l : List Nat) : inclTo l 0 0 = List.replicate l.length 0 := by
  refine list_wd (by simp [inclTo_len]) fun i hi => ?_
  rw [inclTo_len] at hi
  unfold inclTo
  rw [wd_map hi, wd_replicate, if_neg (by omega), ite_self]; rfl
theorem inclTo_next (l : List Nat) (i : Nat) : inclTo l i l.length = inclTo l (i + 1) 0 := by
  refine list_wd (by simp [inclTo_len]) fun t ht => ?_
  rw [inclTo_len] at ht
  unfold inclTo
  rw [wd_map ht, wd_map ht]
  by_cases h : t < i
  · rw [if_pos h, if_pos (by omega)]
  · by_cases e : t = i
    · rw [if_neg h, if_pos e, if_pos (by omega)]
    · rw [if_neg h, if_neg e, if_neg (by omega)]
      split <;> rfl
theorem inclTo_done (l : List Nat) : inclTo l l.length 0 = inclL l := by
  refine list_wd (by simp [inclTo_len, inclL_len]) fun t ht => ?_
  rw [inclTo_len] at ht
  unfold inclTo inclL
  rw [wd_map ht, wd_map ht, if_pos ht]
theorem inclTo_at {l : List Nat} {i j : Nat} (hi : i < l.length) : wd (inclTo l i j) i = inclW l i j := by
  unfold inclTo; rw [wd_map hi, if_neg (by omega), if_pos rfl]
theorem inclTo_yes {l : List Nat} {i j : Nat} (hi : i < l.length) (h : subB (wd l i) (wd l j) = true) : inclTo l i (j + 1) = (inclTo l i j).set i (orW (inclW l i j) (bitW j)) := by
  refine list_wd (by simp [inclTo_len]) fun t ht => ?_
  rw [inclTo_len] at ht
  rw [wd_set (by rw [inclTo_len]; exact hi)]
  unfold inclTo
  rw [wd_map ht, wd_map ht]
  by_cases e : i = t
  · subst e
    rw [if_neg (by omega), if_pos rfl, if_pos rfl]
    show wordOf _ (j + 1) = _
    unfold wordOf
    rw [if_pos h]; rfl
  · rw [if_neg e]
    by_cases h2 : t < i
    · rw [if_pos h2, if_pos h2]
    · rw [if_neg h2, if_neg h2, if_neg (fun q => e q.symm), if_neg (fun q => e q.symm)]
theorem inclTo_no {l : List Nat} {i j : Nat} (h : subB (wd l i) (wd l j) = false) : inclTo l i (j + 1) = inclTo l i j := by
  refine list_wd (by simp [inclTo_len]) fun t ht => ?_
  rw [inclTo_len] at ht
  unfold inclTo
  rw [wd_map ht, wd_map ht]
  by_cases h2 : t < i
  · rw [if_pos h2, if_pos h2]
  · rw [if_neg h2, if_neg h2]
    by_cases e : t = i
    · subst e
      rw [if_pos rfl, if_pos rfl]
      show wordOf _ (j + 1) = _
      unfold wordOf
      rw [if_neg (by rw [h]; simp)]; rfl
    · rw [if_neg e, if_neg e]
theorem inclW_lt (l : List Nat) (t : Nat) {k : Nat} (hk : k ≤ 32) : inclW l t k < 4294967296 := wordOf_lt _ hk
theorem inclW_yes {l : List Nat} {i j : Nat} (h : subB (wd l i) (wd l j) = true) : inclW l i (j + 1) = orW (inclW l i j) (bitW j) := by
  show wordOf _ (j + 1) = _
  unfold wordOf
  rw [if_pos h]; rfl
theorem inclW_no {l : List Nat} {i j : Nat} (h : subB (wd l i) (wd l j) = false) : inclW l i (j + 1) = inclW l i j := by
  show wordOf _ (j + 1) = _
  unfold wordOf
  rw [if_neg (by rw [h]; simp)]; rfl
/-- the rows made so far -/
def inclUp (l : List Nat) (i : Nat) : List Nat := (List.range i).map fun t => inclW l t l.length
theorem inclUp_succ (l : List Nat) (i : Nat) : inclUp l (i + 1) = inclUp l i ++ [inclW l i l.length] := by
  unfold inclUp; rw [List.range_succ, List.map_append]; rfl
theorem inclUp_len (l : List Nat) (i : Nat) : (inclUp l i).length = i := by unfold inclUp; simp
theorem fit_inclL {l : List Nat} (hl : l.length ≤ 16) : Fit (inclL l) := fun i => by
  by_cases h : i < l.length
  · unfold inclL; rw [wd_map h]; exact inclW_lt l i (by omega)
  · unfold wd
    rw [List.getD_eq_getElem?_getD, List.getElem?_eq_none (by rw [inclL_len]; omega)]
    decide
theorem mem_incl {l : List Nat} (hl : ∀ i, wd l i < 4294967296) {i j : Nat} (hi : i < l.length) : hasB (wd (inclL l) i) j = true ↔ j < l.length ∧ ∀ x, hasB (wd l i) x = true → hasB (wd l j) x = true := by
  unfold inclL inclW
  rw [wd_map hi, hasB_wordOf, Bool.and_eq_true, decide_eq_true_iff, subB_iff (hl i)]
end Go.Proofs.YtdeglbmoiofpoaaDoor

namespace Go.Proofs.YtdeglbmoiofpoaaDoor
open Go.RowKit Go.Shelf

/-- the rows of the i'th concept -/
def rowsP (P : List (Nat × Nat)) : List Nat := P.map (·.1)
theorem rowsP_len (P : List (Nat × Nat)) : (rowsP P).length = P.length := by unfold rowsP; simp
theorem rowsP_at {P : List (Nat × Nat)} {i : Nat} (h : i < P.length) : wd (rowsP P) i = P[i].1 := by
  unfold rowsP wd; simp [List.getD_eq_getElem?_getD, List.getElem?_map, List.getElem?_eq_getElem h]
theorem cons_rows {W : World} {B : Nat} {P : List (Nat × Nat)} (h : Cons W B P) {i : Nat} (hi : i < P.length) : W.cell? ⟨B, i * 2, none⟩ = some (.int .u32 ((wd (rowsP P) i : Nat) : Int)) := by
  rw [rowsP_at hi]; exact (h i hi).1

set_option maxRecDepth 100000 in
set_option maxHeartbeats 1000000 in
theorem com1_any (Lb B N cp : Nat) (P : List (Nat × Nat)) (hN : P.length = N) (i j : Nat) (hi : i < N) (hj : j < N) (hlt : ∀ i, i < N → wd (rowsP P) i < 4294967296) (w : World) (hc : w.cell? ⟨Lb, 0, none⟩ = some (.slice (some ⟨B, 0, none⟩) N cp)) (hP : Cons w B P) :
    Calls Tryd.prog 34 #[.int .i64 i, .int .i64 j, .pointer (some ⟨Lb, 0, none⟩)] w fun e w' => e = .returned (.bool (subB (wd (rowsP P) i) (wd (rowsP P) j))) ∧ w' = w.drew := by
  have ci := cons_rows hP (i := i) (by omega)
  have cj := cons_rows hP (i := j) (by omega)
  have hw := fun W : World => pwithin_any (wd (rowsP P) i) (wd (rowsP P) j) (hlt i hi) (hlt j hj) W
  have hs : withB (wd (rowsP P) i) (wd (rowsP P) j) = subB (wd (rowsP P) i) (wd (rowsP P) j) := rfl
  rw [hs] at hw
  clear hs hlt hP
  generalize subB (wd (rowsP P) i) (wd (rowsP P) j) = b at *
  generalize wd (rowsP P) i = x at *
  generalize wd (rowsP P) j = y at *
  go_enter Tryd.func34, Tryd.ntmps34
  go_wp2_with fail
  refine wp_region_still_lit (by kernel_rfl) (by kernel_rfl) ?_
  repeat (first | (refine no_implicit_lambda% (wpStill_step ?_); intro K hK; go_simp; refine hK _ ?_; clear hK K) | still_call (hw _))
  refine no_implicit_lambda% (wpStill_nil ?_)
  go_wp2_with fail
  go_ret
  exact ⟨rfl, rfl⟩

set_option maxRecDepth 100000 in
set_option maxHeartbeats 4000000 in
theorem ordered_any (Lb B N cp : Nat) (h16 : N ≤ 16) (P : List (Nat × Nat)) (hN : P.length = N) (hlt : ∀ i, i < N → wd (rowsP P) i < 4294967296) (w : World) (hc : w.cell? ⟨Lb, 0, none⟩ = some (.slice (some ⟨B, 0, none⟩) N cp)) (hP : Cons w B P) (hLb : Lb < w.heap.size) (hB : B < w.heap.size) :
    Calls Tryd.prog 33 #[.int .i64 N, .func (.func 34) #[] #[.pointer (some ⟨Lb, 0, none⟩)]] w fun e w' => ∃ g, e = .returned (.agg #[.int .i64 N, .slice (some ⟨g, 0, none⟩) N N]) ∧ Below w.heap.size w w' ∧ w.heap.size ≤ g ∧ Row w' g 65 (wvals (inclL (rowsP P))) := by
  have hcall : ∀ W, Below w.heap.size w W → ∀ i j, i < N → j < N → _ := fun W hW i j hi hj => com1_any Lb B N cp P hN i j hi hj hlt W ((hW.cell (p := ⟨Lb, 0, none⟩) hLb).trans hc) (hP.below hW hB)
  have hmk := run_make_row' (P := Tryd.prog) 22 65 (.int .u32 0) 4 Tryd.underlying22 info_u32 rfl .i64 .i64 N (by omega) (by omega)
  have hln : (rowsP P).length = N := by rw [rowsP_len]; exact hN
  have HLN := hide hln
  have HLT := hide hlt
  have r0 : Row (((w.alloc (.cells #[.int .i64 0, .slice none 0 0] 24)).alloc (.cells (wvals (List.replicate N 0)).toArray 65)).alloc (.cells #[.int .i64 N, .slice (some ⟨w.heap.size + 1, 0, none⟩) N N] 24)) w.heap.size 24 [.int .i64 0, .slice none 0 0] := ((Row.new w 24 [.int .i64 0, .slice none 0 0]).alloc _).alloc _
  have rR := (Row.new (w.alloc (.cells #[.int .i64 0, .slice none 0 0] 24)) 65 (wvals (List.replicate N 0))).alloc (.cells #[.int .i64 N, .slice (some ⟨w.heap.size + 1, 0, none⟩) N N] 24)
  rw [World.size_alloc] at rR
  have ro := Row.new ((w.alloc (.cells #[.int .i64 0, .slice none 0 0] 24)).alloc (.cells (wvals (List.replicate N 0)).toArray 65)) 24 [.int .i64 N, .slice (some ⟨w.heap.size + 1, 0, none⟩) N N]
  rw [World.size_alloc, World.size_alloc] at ro
  have hb0 : Below w.heap.size w (((w.alloc (.cells #[.int .i64 0, .slice none 0 0] 24)).alloc (.cells (wvals (List.replicate N 0)).toArray 65)).alloc (.cells #[.int .i64 N, .slice (some ⟨w.heap.size + 1, 0, none⟩) N N] 24)) := (((Below.refl _ _).alloc (Nat.le_refl _) _).alloc (by simp) _).alloc (by simp; omega) _
  have hz : inclTo (rowsP P) 0 0 = List.replicate N 0 := by rw [inclTo_zero, hln]
  rw [← hz] at r0 rR ro hb0
  rw [wvals_replicate, ← hz] at hmk
  clear hlt hP hc hln hz
  go_enter Tryd.func33, Tryd.ntmps33
  go_wp2_with fail
  go_loopw [13] (fun x wr => ∃ k : Nat, k ≤ N ∧ x = .int .i64 k ∧ Below w.heap.size w wr ∧ Row wr w.heap.size 24 [.int .i64 0, .slice none 0 0] ∧ Row wr (w.heap.size + 1) 65 (wvals (inclTo (rowsP P) k 0)) ∧ Row wr (w.heap.size + 1 + 1) 24 [.int .i64 N, .slice (some ⟨w.heap.size + 1, 0, none⟩) N N]) (fun x _ => N - (intOf x).toNat)
  case atStart => exact ⟨0, Nat.zero_le _, rfl, hb0, r0, rR, ro⟩
  case round =>
    clear r0 rR ro hb0 hmk
    obtain ⟨k, hk, rfl, hB1, r0, rR, ro⟩ := hrel
    by_cases hlk : k < N
    · obtain ⟨wk, hwk⟩ : ∃ V, V = wr := ⟨_, rfl⟩
      rw [← hwk] at hB1 r0 rR ro ⊢
      clear hwk wr
      go_wp2_with fail
      go_loopw [17] (fun x wr => ∃ j : Nat, j ≤ N ∧ x = .int .i64 j ∧ Below w.heap.size w wr ∧ Row wr w.heap.size 24 [.int .i64 0, .slice none 0 0] ∧ Row wr (w.heap.size + 1) 65 (wvals (inclTo (rowsP P) k j)) ∧ Row wr (w.heap.size + 1 + 1) 24 [.int .i64 N, .slice (some ⟨w.heap.size + 1, 0, none⟩) N N]) (fun x _ => N - (intOf x).toNat)
      case atStart => exact ⟨0, Nat.zero_le _, rfl, hB1, r0, rR, ro⟩
      case round =>
        clear r0 rR ro hB1
        obtain ⟨j, hj, rfl, hB2, r0, rR, ro⟩ := hrel
        by_cases hlj : j < N
        · have hc := hcall wr hB2 k j hlk hlj
          have hkl : k < (rowsP P).length := by rw [HLN.out]; exact hlk
          have HY := hide (fun h => inclTo_yes (l := rowsP P) (i := k) (j := j) hkl h)
          have HN := hide (fun h => inclTo_no (l := rowsP P) (i := k) (j := j) h)
          have cU := rR.cell (i := k) (wvals_at (by rw [inclTo_len]; exact hkl))
          rw [inclTo_at hkl] at cU
          have fU := rR.frozen k
          have o1 := ro.cell (i := 1) rfl
          have hor := bits_or32 (inclW (rowsP P) k j) (bitW j) (inclW_lt (rowsP P) k (by omega)) (bitW_lt (by omega))
          have hbit := pbit_any j (by omega)
          have hss : subB (wd (rowsP P) k) (wd (rowsP P) j) = false ∨ subB (wd (rowsP P) k) (wd (rowsP P) j) = true := by cases subB (wd (rowsP P) k) (wd (rowsP P) j) <;> simp
          rcases hss with hs | hs
          · have HT := hide (HN.out hs)
            rw [hs] at hc
            clear hs
            go_wp2_with (refine hc.mono ?_; rintro e w5 ⟨rfl, hww⟩; rw [hww]; clear hww w5)
            exact ⟨⟨j + 1, by omega, by go_num, hB2.drew, r0, by rw [HT.out]; exact rR, ro⟩, by simp [intOf]; omega⟩
          · have HT := hide (HY.out hs)
            rw [hs] at hc
            clear hs
            generalize inclW (rowsP P) k j = x at *
            obtain ⟨wd5, hwd⟩ : ∃ V, wr.drew = V := ⟨_, rfl⟩
            have hbd : Below w.heap.size w wd5 := hwd ▸ hB2.drew
            have rR : Row wd5 (w.heap.size + 1) 65 (wvals (inclTo (rowsP P) k j)) := hwd ▸ rR
            have r0 : Row wd5 w.heap.size 24 [.int .i64 0, .slice none 0 0] := hwd ▸ r0
            have ro : Row wd5 (w.heap.size + 1 + 1) 24 [.int .i64 N, .slice (some ⟨w.heap.size + 1, 0, none⟩) N N] := hwd ▸ ro
            have cU : wd5.cell? ⟨w.heap.size + 1, k, none⟩ = some (.int .u32 (x : Nat)) := hwd ▸ cU
            have fU : wd5.frozen? ⟨w.heap.size + 1, k, none⟩ = false := hwd ▸ fU
            have o1 : wd5.cell? ⟨w.heap.size + 1 + 1, 1, none⟩ = some (.slice (some ⟨w.heap.size + 1, 0, none⟩) N N) := hwd ▸ o1
            rw [hwd] at hc
            clear hwd
            go_wp2_with (refine hc.mono ?_; rintro e w5 ⟨rfl, hww⟩; rw [hww]; clear hww w5)
            refine wp_region_still_tail 9 (by kernel_rfl) (by kernel_rfl) ?_
            simp only [List.take_succ_cons, List.take_zero, List.drop_succ_cons, List.drop_zero]
            repeat (first | (refine no_implicit_lambda% (wpStill_step ?_); intro K hK; go_simp; refine hK _ ?_; clear hK K) | still_call (hbit _))
            refine no_implicit_lambda% (wpStill_nil ?_)
            show wpList _ _ _ _ _ _
            go_wp2_with fail
            have rS := rR.set k (.int .u32 (orW x (bitW j) : Nat))
            rw [wvals_set] at rS
            exact ⟨⟨j + 1, by omega, by go_num, (hbd.setCell (p := ⟨w.heap.size + 1, k, none⟩) (by simp) _).drew, r0.other (by omega) _ _, by rw [HT.out]; exact rS, ro.other (by omega) _ _⟩, by simp [intOf]; omega⟩
        · have hjn : j = (rowsP P).length := by rw [HLN.out]; omega
          rw [hjn, inclTo_next] at rR
          clear hjn
          go_wp2_with fail
          exact ⟨⟨k + 1, by omega, by go_num, hB2, r0, rR, ro⟩, by simp [intOf]; omega⟩
    · have hkn : k = (rowsP P).length := by rw [HLN.out]; omega
      rw [hkn, inclTo_done] at rR
      clear hkn
      have o0 := ro.cell (i := 0) rfl
      have o1 := ro.cell (i := 1) rfl
      have p0 := r0.cell (i := 0) rfl
      have p1 := r0.cell (i := 1) rfl
      have g0 := r0.frozen 0
      have g1 := r0.frozen 1
      go_wp2_with fail
      have q3 := (r0.set 0 (.int .i64 N)).set 1 (.slice (some ⟨w.heap.size + 1, 0, none⟩) N N)
      have e0 := q3.cell (i := 0) (v := .int .i64 N) rfl
      have e1 := q3.cell (i := 1) (v := .slice (some ⟨w.heap.size + 1, 0, none⟩) N N) rfl
      refine bodyPost_ret (v := .agg #[.int .i64 N, .slice (some ⟨w.heap.size + 1, 0, none⟩) N N]) (by simp [results, Tryd.results33, go_sem, e0, e1]) rfl ⟨w.heap.size + 1, rfl, ?_, by omega, ?_⟩
      · exact (hB1.setCell (p := ⟨w.heap.size, 0, none⟩) (by simp) _).setCell (p := ⟨w.heap.size, 1, none⟩) (by simp) _
      · exact (rR.other (by omega) _ _).other (by omega) _ _
end Go.Proofs.YtdeglbmoiofpoaaDoor
