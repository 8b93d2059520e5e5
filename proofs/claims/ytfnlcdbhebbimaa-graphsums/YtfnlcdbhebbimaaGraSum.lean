/- The contracts of package graph's Sum, and of the document's NodeSum. -/
import Derived.Test.YtfnlcdbhebbimaaGraNode
namespace Go.Proofs.Ytfnlcdbhebbimaa
open Go.RowKit Go.Shelf

/-- what a node does to a time -/
def sumN (k d : Int) : Sm := if k = 4 then ⟨d, 0, [0]⟩ else if k = 5 then ⟨d - 1, 0, []⟩ else if k = 6 then ⟨d, 1, []⟩ else ⟨d, 0, []⟩
theorem sumN_4 (d : Int) : sumN 4 d = ⟨d, 0, [0]⟩ := rfl
theorem sumN_5 (d : Int) : sumN 5 d = ⟨d - 1, 0, []⟩ := rfl
theorem sumN_6 (d : Int) : sumN 6 d = ⟨d, 1, []⟩ := rfl
theorem sumN_e {k d : Int} (h4 : k ≠ 4) (h5 : k ≠ 5) (h6 : k ≠ 6) : sumN k d = ⟨d, 0, []⟩ := by unfold sumN; rw [if_neg h4, if_neg h5, if_neg h6]
theorem node_rows (w : World) (p0 p1 p2 p3 p4 : Value) {W : World} (h : (w.alloc (.cells #[p0, p1, p2, p3, p4] 34)).alloc (.cells #[.int .i64 0, .int .i64 0, .slice none 0 0] 37) = W) :
    Row W w.heap.size 34 [p0, p1, p2, p3, p4] ∧ Row W (w.heap.size + 1) 37 [.int .i64 0, .int .i64 0, .slice none 0 0] ∧ Below w.heap.size w W ∧ W.heap.size = w.heap.size + 2 := by
  subst h
  have r0 := Row.new w 34 [p0, p1, p2, p3, p4]
  have r1 := Row.new (w.alloc (.cells #[p0, p1, p2, p3, p4] 34)) 37 [.int .i64 0, .int .i64 0, .slice none 0 0]
  rw [World.size_alloc] at r1
  exact ⟨r0.alloc _, r1, ((Below.refl _ _).alloc (Nat.le_refl _) _).alloc (by simp) _, by simp⟩
theorem below_set3 {n B : Nat} {w W : World} (h : Below n w W) (hB : n ≤ B) (v0 v1 v2 : Value) :
    Below n w (((W.setCell ⟨B, 0, none⟩ v0).setCell ⟨B, 1, none⟩ v1).setCell ⟨B, 2, none⟩ v2) :=
  ((h.setCell (p := ⟨B, 0, none⟩) hB _).setCell (p := ⟨B, 1, none⟩) hB _).setCell (p := ⟨B, 2, none⟩) hB _
theorem row_new3 (W : World) (b : Nat) (t : TypeId) (vs : List Value) (v0 v1 v2 : Value) (A : Nat) (hA : A = W.heap.size) :
    Row ((((W.setCell ⟨b, 0, none⟩ v0).setCell ⟨b, 1, none⟩ v1).setCell ⟨b, 2, none⟩ v2).alloc (.cells vs.toArray t)) A t vs := by
  have h := Row.new (((W.setCell ⟨b, 0, none⟩ v0).setCell ⟨b, 1, none⟩ v1).setCell ⟨b, 2, none⟩ v2) t vs
  have e : (((W.setCell ⟨b, 0, none⟩ v0).setCell ⟨b, 1, none⟩ v1).setCell ⟨b, 2, none⟩ v2).heap.size = W.heap.size := by simp
  rw [e] at h
  rw [hA]
  exact h
set_option maxRecDepth 100000 in
set_option maxHeartbeats 4000000 in
theorem gsum_any (k d : Int) (o x y : Value) (hm : mayN k d = true) (w : World) :
    Calls Try.prog 8 #[.agg #[.int .i64 k, .int .i64 d, o, x, y]] w fun e w' => (∃ a cap, e = .returned (.tuple #[.agg #[.int .i64 (sumN k d).k, .int .i64 (sumN k d).d, .slice a (sumN k d).z.length cap], .int .i64 0]) ∧ ZInts w'.heap.size w' a (sumN k d).z) ∧ Below w.heap.size w w' := by
  obtain ⟨r0, r1, hb0, hs0⟩ := node_rows w (.int .i64 k) (.int .i64 d) o x y rfl
  obtain ⟨W0, hW0⟩ : ∃ V, (w.alloc (.cells #[.int .i64 k, .int .i64 d, o, x, y] 34)).alloc (.cells #[.int .i64 0, .int .i64 0, .slice none 0 0] 37) = V := ⟨_, rfl⟩
  rw [hW0] at r0 r1 hb0 hs0
  have lt0 := r0.lt
  have lt1 := r1.lt
  have s1 := gmay_any k d o x y W0
  rw [hm] at s1
  have hd := mayN_true.1 hm
  obtain ⟨a1, a2, a3, a4, a5, a6, a7⟩ := hd
  clear hm
  go_enter Try.func8, Try.ntmps8
  have b0 := r0.cell (i := 0) rfl
  have b1 := r0.cell (i := 1) rfl
  have b2 := r0.cell (i := 2) rfl
  have b3 := r0.cell (i := 3) rfl
  have b4 := r0.cell (i := 4) rfl
  go_wp2_with fail
  with_reducible refine s1.mono ?_
  rintro e w1 ⟨rfl, hb1⟩
  clear b0 b1 b2 b3 b4 s1
  have p0 := row_below r0 hb1 lt0
  have p2 := row_below r1 hb1 lt1
  have hB1 : Below w.heap.size w w1 := hb0.trans (hb1.mono hb0.size)
  clear hW0
  have l2 := p2.lt
  have l0 := p0.lt
  have c0 := p0.cell (i := 0) rfl
  have c1 := p0.cell (i := 1) rfl
  have m0 := p2.cell (i := 0) rfl
  have m1 := p2.cell (i := 1) rfl
  have m2 := p2.cell (i := 2) rfl
  have f0 := p2.frozen 0
  have f1 := p2.frozen 1
  have f2 := p2.frozen 2
  by_cases h4 : k = 4
  · subst h4
    have HK := hide (show sumN 4 d = ⟨d, 0, [0]⟩ from rfl)
    go_wp2_with fail
    have q1 := (((p2.set 0 (.int .i64 d)).set 1 (.int .i64 0)).set 2 (.slice (some ⟨w1.heap.size, 0, none⟩) 1 1)).alloc (.cells #[.int .i64 0] 3)
    have v0 := q1.cell (i := 0) (v := .int .i64 d) rfl
    have v1 := q1.cell (i := 1) (v := .int .i64 0) rfl
    have v2 := q1.cell (i := 2) (v := .slice (some ⟨w1.heap.size, 0, none⟩) 1 1) rfl
    have hbb := below_set3 hB1 (show w.heap.size ≤ w.heap.size + 1 by omega) (.int .i64 d) (.int .i64 0) (.slice (some ⟨w1.heap.size, 0, none⟩) 1 1)
    have rz := row_new3 w1 (w.heap.size + 1) 3 (zvals [0]) (.int .i64 d) (.int .i64 0) (.slice (some ⟨w1.heap.size, 0, none⟩) 1 1) w1.heap.size (by omega)
    have hbb := hbb.alloc hbb.size (.cells #[.int .i64 0] 3)
    refine bodyPost_ret (v := .tuple #[.agg #[.int .i64 d, .int .i64 0, .slice (some ⟨w1.heap.size, 0, none⟩) 1 1], .int .i64 0]) (by simp [results, Try.results8, go_sem, v0, v1, v2]) rfl ⟨⟨some ⟨w1.heap.size, 0, none⟩, 1, by rw [HK.out]; rfl, ?_⟩, hbb⟩
    rw [HK.out]
    exact Row.z rz rz.lt
  by_cases h5 : k = 5
  · subst h5
    have HK := hide (show sumN 5 d = ⟨d - 1, 0, []⟩ from rfl)
    go_wp2_with fail
    have q1 := (((p2.set 0 (.int .i64 (d - 1))).set 1 (.int .i64 0)).set 2 (.slice none 0 0))
    have v0 := q1.cell (i := 0) (v := .int .i64 (d - 1)) rfl
    have v1 := q1.cell (i := 1) (v := .int .i64 0) rfl
    have v2 := q1.cell (i := 2) (v := .slice none 0 0) rfl
    have hbb := below_set3 hB1 (show w.heap.size ≤ w.heap.size + 1 by omega) (.int .i64 (d - 1)) (.int .i64 0) (.slice none 0 0)
    refine bodyPost_ret (v := .tuple #[.agg #[.int .i64 (d - 1), .int .i64 0, .slice none 0 0], .int .i64 0]) (by simp [results, Try.results8, go_sem, v0, v1, v2]) rfl ⟨⟨none, 0, by rw [HK.out]; rfl, ?_⟩, hbb⟩
    rw [HK.out]
    exact .inl rfl
  by_cases h6 : k = 6
  · subst h6
    have HK := hide (show sumN 6 d = ⟨d, 1, []⟩ from rfl)
    go_wp2_with fail
    have q1 := (((p2.set 0 (.int .i64 d)).set 1 (.int .i64 1)).set 2 (.slice none 0 0))
    have v0 := q1.cell (i := 0) (v := .int .i64 d) rfl
    have v1 := q1.cell (i := 1) (v := .int .i64 1) rfl
    have v2 := q1.cell (i := 2) (v := .slice none 0 0) rfl
    have hbb := below_set3 hB1 (show w.heap.size ≤ w.heap.size + 1 by omega) (.int .i64 d) (.int .i64 1) (.slice none 0 0)
    refine bodyPost_ret (v := .tuple #[.agg #[.int .i64 d, .int .i64 1, .slice none 0 0], .int .i64 0]) (by simp [results, Try.results8, go_sem, v0, v1, v2]) rfl ⟨⟨none, 0, by rw [HK.out]; rfl, ?_⟩, hbb⟩
    rw [HK.out]
    exact .inl rfl
  · have hk := sumN_e (d := d) h4 h5 h6
    have HK := hide hk
    have g4 : (k == 4) = false := by rw [beq_eq_false_iff_ne]; exact h4
    have g5 : (k == 5) = false := by rw [beq_eq_false_iff_ne]; exact h5
    have g6 : (k == 6) = false := by rw [beq_eq_false_iff_ne]; exact h6
    go_wp2_with fail
    have q1 := (((p2.set 0 (.int .i64 d)).set 1 (.int .i64 0)).set 2 (.slice none 0 0))
    have v0 := q1.cell (i := 0) (v := .int .i64 d) rfl
    have v1 := q1.cell (i := 1) (v := .int .i64 0) rfl
    have v2 := q1.cell (i := 2) (v := .slice none 0 0) rfl
    have hbb := below_set3 hB1 (show w.heap.size ≤ w.heap.size + 1 by omega) (.int .i64 d) (.int .i64 0) (.slice none 0 0)
    refine bodyPost_ret (v := .tuple #[.agg #[.int .i64 d, .int .i64 0, .slice none 0 0], .int .i64 0]) (by simp [results, Try.results8, go_sem, v0, v1, v2]) rfl ⟨⟨none, 0, by rw [HK.out]; rfl, ?_⟩, hbb⟩
    rw [HK.out]
    exact .inl rfl
set_option maxRecDepth 100000 in
set_option maxHeartbeats 4000000 in
theorem rsumn_any (k d : Int) (o x y : Value) (hm : mayN k d = true) (w : World) :
    Calls Try.prog 11 #[.agg #[.int .i64 k, .int .i64 d, o, x, y]] w fun e w' => (∃ a cap, e = .returned (.agg #[.int .i64 (sumN k d).k, .int .i64 (sumN k d).d, .slice a (sumN k d).z.length cap]) ∧ ZInts w'.heap.size w' a (sumN k d).z) ∧ Below w.heap.size w w' := by
  obtain ⟨r0, r1, hb0, hs0⟩ := node_rows w (.int .i64 k) (.int .i64 d) o x y rfl
  obtain ⟨W0, hW0⟩ : ∃ V, (w.alloc (.cells #[.int .i64 k, .int .i64 d, o, x, y] 34)).alloc (.cells #[.int .i64 0, .int .i64 0, .slice none 0 0] 37) = V := ⟨_, rfl⟩
  rw [hW0] at r0 r1 hb0 hs0
  have lt0 := r0.lt
  have lt1 := r1.lt
  have hd := mayN_true.1 hm
  obtain ⟨a1, a2, a3, a4, a5, a6, a7⟩ := hd
  clear hm
  have p0 := r0
  have p2 := r1
  have hB1 := hb0
  have l2 := p2.lt
  have l0 := p0.lt
  have c0 := p0.cell (i := 0) rfl
  have c1 := p0.cell (i := 1) rfl
  have m0 := p2.cell (i := 0) rfl
  have m1 := p2.cell (i := 1) rfl
  have m2 := p2.cell (i := 2) rfl
  have f0 := p2.frozen 0
  have f1 := p2.frozen 1
  have f2 := p2.frozen 2
  by_cases h4 : k = 4
  · subst h4
    have HK := hide (show sumN 4 d = ⟨d, 0, [0]⟩ from rfl)
    go_enter Try.func11, Try.ntmps11
    go_wp2_with fail
    have q1 := (((p2.set 0 (.int .i64 d)).set 1 (.int .i64 0)).set 2 (.slice (some ⟨w.heap.size + 2, 0, none⟩) 1 1)).alloc (.cells #[.int .i64 0] 3)
    have v0 := q1.cell (i := 0) (v := .int .i64 d) rfl
    have v1 := q1.cell (i := 1) (v := .int .i64 0) rfl
    have v2 := q1.cell (i := 2) (v := .slice (some ⟨w.heap.size + 2, 0, none⟩) 1 1) rfl
    have hbb := below_set3 hB1 (show w.heap.size ≤ w.heap.size + 1 by omega) (.int .i64 d) (.int .i64 0) (.slice (some ⟨w.heap.size + 2, 0, none⟩) 1 1)
    have rz := row_new3 W0 (w.heap.size + 1) 3 (zvals [0]) (.int .i64 d) (.int .i64 0) (.slice (some ⟨w.heap.size + 2, 0, none⟩) 1 1) (w.heap.size + 2) (by omega)
    have hbb := hbb.alloc hbb.size (.cells #[.int .i64 0] 3)
    refine bodyPost_ret (v := .agg #[.int .i64 d, .int .i64 0, .slice (some ⟨w.heap.size + 2, 0, none⟩) 1 1]) (by simp [results, Try.results11, go_sem, v0, v1, v2]) rfl ⟨⟨some ⟨(w.heap.size + 2), 0, none⟩, ⟨1, by rw [HK.out]; rfl⟩, ?_⟩, hbb⟩
    rw [HK.out]
    exact Row.z rz rz.lt
  by_cases h5 : k = 5
  · subst h5
    have HK := hide (show sumN 5 d = ⟨d - 1, 0, []⟩ from rfl)
    go_enter Try.func11, Try.ntmps11
    go_wp2_with fail
    have q1 := (((p2.set 0 (.int .i64 (d - 1))).set 1 (.int .i64 0)).set 2 (.slice none 0 0))
    have v0 := q1.cell (i := 0) (v := .int .i64 (d - 1)) rfl
    have v1 := q1.cell (i := 1) (v := .int .i64 0) rfl
    have v2 := q1.cell (i := 2) (v := .slice none 0 0) rfl
    have hbb := below_set3 hB1 (show w.heap.size ≤ w.heap.size + 1 by omega) (.int .i64 (d - 1)) (.int .i64 0) (.slice none 0 0)
    refine bodyPost_ret (v := .agg #[.int .i64 (d - 1), .int .i64 0, .slice none 0 0]) (by simp [results, Try.results11, go_sem, v0, v1, v2]) rfl ⟨⟨none, 0, by rw [HK.out]; rfl, ?_⟩, hbb⟩
    rw [HK.out]
    exact .inl rfl
  by_cases h6 : k = 6
  · subst h6
    have HK := hide (show sumN 6 d = ⟨d, 1, []⟩ from rfl)
    go_enter Try.func11, Try.ntmps11
    go_wp2_with fail
    have q1 := (((p2.set 0 (.int .i64 d)).set 1 (.int .i64 1)).set 2 (.slice none 0 0))
    have v0 := q1.cell (i := 0) (v := .int .i64 d) rfl
    have v1 := q1.cell (i := 1) (v := .int .i64 1) rfl
    have v2 := q1.cell (i := 2) (v := .slice none 0 0) rfl
    have hbb := below_set3 hB1 (show w.heap.size ≤ w.heap.size + 1 by omega) (.int .i64 d) (.int .i64 1) (.slice none 0 0)
    refine bodyPost_ret (v := .agg #[.int .i64 d, .int .i64 1, .slice none 0 0]) (by simp [results, Try.results11, go_sem, v0, v1, v2]) rfl ⟨⟨none, 0, by rw [HK.out]; rfl, ?_⟩, hbb⟩
    rw [HK.out]
    exact .inl rfl
  · have hk := sumN_e (d := d) h4 h5 h6
    have HK := hide hk
    have g4 : (k == 4) = false := by rw [beq_eq_false_iff_ne]; exact h4
    have g5 : (k == 5) = false := by rw [beq_eq_false_iff_ne]; exact h5
    have g6 : (k == 6) = false := by rw [beq_eq_false_iff_ne]; exact h6
    go_enter Try.func11, Try.ntmps11
    go_wp2_with fail
    have q1 := (((p2.set 0 (.int .i64 d)).set 1 (.int .i64 0)).set 2 (.slice none 0 0))
    have v0 := q1.cell (i := 0) (v := .int .i64 d) rfl
    have v1 := q1.cell (i := 1) (v := .int .i64 0) rfl
    have v2 := q1.cell (i := 2) (v := .slice none 0 0) rfl
    have hbb := below_set3 hB1 (show w.heap.size ≤ w.heap.size + 1 by omega) (.int .i64 d) (.int .i64 0) (.slice none 0 0)
    refine bodyPost_ret (v := .agg #[.int .i64 d, .int .i64 0, .slice none 0 0]) (by simp [results, Try.results11, go_sem, v0, v1, v2]) rfl ⟨⟨none, 0, by rw [HK.out]; rfl, ?_⟩, hbb⟩
    rw [HK.out]
    exact .inl rfl
set_option maxRecDepth 100000 in
set_option maxHeartbeats 4000000 in
theorem gsum_bad (k d : Int) (o x y : Value) (hm : mayN k d = false) (w : World) :
    Calls Try.prog 8 #[.agg #[.int .i64 k, .int .i64 d, o, x, y]] w fun e w' => e = .returned (.tuple #[.agg #[.int .i64 0, .int .i64 0, .slice none 0 0], .int .i64 2]) ∧ Below w.heap.size w w' := by
  obtain ⟨r0, r1, hb0, hs0⟩ := node_rows w (.int .i64 k) (.int .i64 d) o x y rfl
  obtain ⟨W0, hW0⟩ : ∃ V, (w.alloc (.cells #[.int .i64 k, .int .i64 d, o, x, y] 34)).alloc (.cells #[.int .i64 0, .int .i64 0, .slice none 0 0] 37) = V := ⟨_, rfl⟩
  rw [hW0] at r0 r1 hb0 hs0
  have lt1 := r1.lt
  have s1 := gmay_any k d o x y W0
  rw [hm] at s1
  have b0 := r0.cell (i := 0) rfl
  have b1 := r0.cell (i := 1) rfl
  have b2 := r0.cell (i := 2) rfl
  have b3 := r0.cell (i := 3) rfl
  have b4 := r0.cell (i := 4) rfl
  go_enter Try.func8, Try.ntmps8
  go_wp2_with fail
  with_reducible refine s1.mono ?_
  rintro e w1 ⟨rfl, hb1⟩
  clear b0 b1 b2 b3 b4 s1 hW0
  have p2 := row_below r1 hb1 lt1
  have hB1 : Below w.heap.size w w1 := hb0.trans (hb1.mono hb0.size)
  have m0 := p2.cell (i := 0) rfl
  have m1 := p2.cell (i := 1) rfl
  have m2 := p2.cell (i := 2) rfl
  have f0 := p2.frozen 0
  have f1 := p2.frozen 1
  have f2 := p2.frozen 2
  go_wp2_with fail
  have q1 := ((p2.set 0 (.int .i64 0)).set 1 (.int .i64 0)).set 2 (.slice none 0 0)
  have v0 := q1.cell (i := 0) (v := .int .i64 0) rfl
  have v1 := q1.cell (i := 1) (v := .int .i64 0) rfl
  have v2 := q1.cell (i := 2) (v := .slice none 0 0) rfl
  exact bodyPost_ret (v := .tuple #[.agg #[.int .i64 0, .int .i64 0, .slice none 0 0], .int .i64 2]) (by simp [results, Try.results8, go_sem, v0, v1, v2]) rfl ⟨rfl, below_set3 hB1 (by omega) _ _ _⟩
end Go.Proofs.Ytfnlcdbhebbimaa
