/- The walk of the law OrderSorts: it answers true, and writes nothing that was there. -/
import Derived.Test.YthhjhfjildmbhaaDoorSortedTop
import Derived.Test.YthhjhfjildmbhaaDoorRefSorted
namespace Go.Proofs.YthhjhfjildmbhaaDoor
open Go.RowKit Go.Shelf

theorem a_row2 (w : World) (t : TypeId) (p0 p1 : Value) {W : World} (h : (w.alloc (.cells #[p0, p1] t)) = W) :
    Row W w.heap.size t [p0, p1] ∧ Below w.heap.size w W ∧ W.heap.size = w.heap.size + 1 := by
  subst h
  exact ⟨Row.new w t [p0, p1], (Below.refl _ _).alloc (Nat.le_refl _) _, by simp⟩

set_option maxRecDepth 100000 in
set_option maxHeartbeats 1000000 in
theorem sorts_bad (n : Int) (a : Option Addr) (cap : Nat) (us : List Nat) (n₀ : Nat) (hf : Fit us) (w : World) (hT : TabAt w) (hw : IsWords n₀ w a us) (hg : 0 < n₀) (hn₀ : n₀ ≤ w.heap.size) (hc : codeOf n us ≠ 0) :
    Calls Tryd.prog 6 #[.agg #[.int .i64 n, .slice a us.length cap]] w fun e w' => e = .returned (.bool true) ∧ Below w.heap.size w w' := by
  obtain ⟨r0, hb0, hs0⟩ := a_row2 w 24 (.int .i64 n) (.slice a us.length cap) rfl
  have hT1 := hT.below hb0 (by omega)
  have hw1 := hw.below (hb0.mono hn₀)
  have hck := Sorted_bad n a cap us n₀ hf _ hT1 hw1 hg (by omega) hc
  have c00 := r0.cell (i := 0) rfl
  have c01 := r0.cell (i := 1) rfl
  go_enter Tryd.func6, Tryd.ntmps6
  go_wp2_with fail
  refine hck.mono ?_
  rintro e w1 ⟨rfl, hb1⟩
  have q0 := row_below r0 hb1 r0.lt
  have hw2 := hw1.below (hb1.mono (by omega))
  have hs1 := hb1.size
  have hoc := OrderCheck_any n a cap us n₀ hf w1 hw2 (by omega)
  have d00 := q0.cell (i := 0) rfl
  have d01 := q0.cell (i := 1) rfl
  clear hck c00 c01
  go_wp2_with fail
  refine hoc.mono ?_
  rintro e w2 ⟨rfl, hb2⟩
  have hne : (codeOf n us != 0) = true := by rw [bne_iff_ne]; exact hc
  have hself : (codeOf n us == codeOf n us) = true := by simp
  have HB := hide (hb0.trans ((hb1.trans (hb2.mono hs1)).mono (by omega)))
  clear hoc d00 d01 hb0 hb1 hb2
  go_wp2
  go_ret
  exact ⟨rfl, HB.out⟩

set_option maxRecDepth 100000 in
set_option maxHeartbeats 1000000 in
theorem sorts_ok (n : Int) (a : Option Addr) (cap : Nat) (us : List Nat) (n₀ : Nat) (hf : Fit us) (w : World) (hT : TabAt w) (hw : IsWords n₀ w a us) (hg : 0 < n₀) (hn₀ : n₀ ≤ w.heap.size) (hc : codeOf n us = 0) :
    Calls Tryd.prog 6 #[.agg #[.int .i64 n, .slice a us.length cap]] w fun e w' => e = .returned (.bool true) ∧ Below w.heap.size w w' := by
  obtain ⟨_, h16, hlen, _, hord⟩ := code_zero hc
  have hl16 : us.length ≤ 16 := by omega
  obtain ⟨r0, hb0, hs0⟩ := a_row2 w 24 (.int .i64 n) (.slice a us.length cap) rfl
  have hT1 := hT.below hb0 (by omega)
  have hw1 := hw.below (hb0.mono hn₀)
  have hck := Sorted_ok n a cap us n₀ hf _ hT1 hw1 hg (by omega) hc
  have c00 := r0.cell (i := 0) rfl
  have c01 := r0.cell (i := 1) rfl
  have Hlen := hide hlen; clear hlen
  have Hc := hide hc; clear hc
  go_enter Tryd.func6, Tryd.ntmps6
  go_wp2_with fail
  refine hck.mono ?_
  rintro e w1 ⟨av, cv, rfl, hb1, hown⟩
  have q0 := row_below r0 hb1 r0.lt
  have hw2 := hw1.below (hb1.mono (by omega))
  have hs1 := hb1.size
  have hoc := OrderCheck_any n a cap us n₀ hf w1 hw2 (by omega)
  rw [Hc.out] at hoc
  have d00 := q0.cell (i := 0) rfl
  have d01 := q0.cell (i := 1) rfl
  clear hck c00 c01
  go_wp2_with fail
  refine hoc.mono ?_
  rintro e w2 ⟨rfl, hb2⟩
  have hs2 := hb2.size
  have q1 := row_below q0 hb2 q0.lt
  have hw3 := hw2.below (hb2.mono (by omega))
  have hown2 := ownsRow_below hown hb2
  have hlen := Hlen.out
  subst hlen
  have hor := OrderSorted_any a cap us n₀ hf hl16 hord w2 hw3 (by omega)
  have e00 := q1.cell (i := 0) rfl
  have e01 := q1.cell (i := 1) rfl
  clear hoc d00 d01
  go_wp2_with fail
  refine hor.mono ?_
  rintro e w3 ⟨av2, cv2, rfl, hb3, hown3⟩
  have hs3 := hb3.size
  have hsl : (sortL us).length = us.length := sortF_len _ _ _
  have hpa := TimesSame_any av av2 cv cv2 (sortL us) (sortL us) w3.heap.size rfl (by rw [hsl]; omega) w3 (ownsRow_ints (ownsRow_below hown2 hb3)) (ownsRow_ints hown3)
  rw [hsl] at hpa
  have HB := hide (hb0.trans ((hb1.trans ((hb2.trans (hb3.mono hs2)).mono hs1)).mono (by omega)))
  clear hor e00 e01
  go_wp2_with fail
  refine hpa.mono ?_
  rintro e w4 ⟨rfl, hb4⟩
  go_wp2
  go_ret
  exact ⟨ret_bool (by simp [sameIB]), HB.out.trans (hb4.mono (by have := HB.out.size; omega))⟩

/-- **OrderSorts answers true, for every order, and writes nothing that was there** -/
theorem sorts_any (n : Int) (a : Option Addr) (cap : Nat) (us : List Nat) (n₀ : Nat) (hf : Fit us) (w : World) (hT : TabAt w) (hw : IsWords n₀ w a us) (hg : 0 < n₀) (hn₀ : n₀ ≤ w.heap.size) :
    Calls Tryd.prog 6 #[.agg #[.int .i64 n, .slice a us.length cap]] w fun e w' => e = .returned (.bool true) ∧ Below w.heap.size w w' := by
  by_cases hc : codeOf n us = 0
  · exact sorts_ok n a cap us n₀ hf w hT hw hg hn₀ hc
  · exact sorts_bad n a cap us n₀ hf w hT hw hg hn₀ hc
end Go.Proofs.YthhjhfjildmbhaaDoor
