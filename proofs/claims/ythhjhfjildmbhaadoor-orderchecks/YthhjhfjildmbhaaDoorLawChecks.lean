/- The walk of the law OrderChecks: it answers true, and writes nothing that was there. -/
import Derived.Test.YthhjhfjildmbhaaDoorDual
import Derived.Test.YthhjhfjildmbhaaDoorRefDual
import Derived.Test.YthhjhfjildmbhaaDoorSame
namespace Go.Proofs.YthhjhfjildmbhaaDoor
open Go.RowKit Go.Shelf

theorem one_row (w : World) (t : TypeId) (p0 p1 : Value) {W : World} (h : (w.alloc (.cells #[p0, p1] t)) = W) :
    Row W w.heap.size t [p0, p1] ∧ Below w.heap.size w W ∧ W.heap.size = w.heap.size + 1 := by
  subst h
  exact ⟨Row.new w t [p0, p1], (Below.refl _ _).alloc (Nat.le_refl _) _, by simp⟩

set_option maxRecDepth 100000 in
set_option maxHeartbeats 1000000 in
theorem law_bad (n : Int) (a : Option Addr) (cap : Nat) (us : List Nat) (n₀ : Nat) (hf : Fit us) (w : World) (hT : TabAt w) (hw : IsWords n₀ w a us) (hg : 0 < n₀) (hn₀ : n₀ ≤ w.heap.size) (hc : codeOf n us ≠ 0) :
    Calls Tryd.prog 3 #[.agg #[.int .i64 n, .slice a us.length cap]] w fun e w' => e = .returned (.bool true) ∧ Below w.heap.size w w' := by
  obtain ⟨r0, hb0, hs0⟩ := one_row w 24 (.int .i64 n) (.slice a us.length cap) rfl
  have hT1 := hT.below hb0 (by omega)
  have hw1 := hw.below (hb0.mono hn₀)
  have hck := Check_any n a cap us n₀ hf _ hT1 hw1 hg (by omega)
  have c00 := r0.cell (i := 0) rfl
  have c01 := r0.cell (i := 1) rfl
  go_enter Tryd.func3, Tryd.ntmps3
  go_wp2_with fail
  refine hck.mono ?_
  rintro e w1 ⟨rfl, hb1⟩
  have q0 := row_below r0 hb1 r0.lt
  have hT2 := hT1.below hb1 (by omega)
  have hw2 := hw1.below (hb1.mono (by omega))
  have hs1 := hb1.size
  have hdu := Dual_bad n a cap us n₀ hf w1 hT2 hw2 hg (by omega) hc
  have d00 := q0.cell (i := 0) rfl
  have d01 := q0.cell (i := 1) rfl
  clear hck c00 c01
  go_wp2_with fail
  refine hdu.mono ?_
  rintro e w2 ⟨rfl, hb2⟩
  have hs2 := hb2.size
  have q1 := row_below q0 hb2 q0.lt
  obtain ⟨rd, hb3, hs3⟩ := one_row w2 24 (.int .i64 0) (.slice none 0 0) rfl
  have q2 := row_below q1 hb3 q1.lt
  have hT3 := hT2.below (hb2.trans (hb3.mono hs2)) (by omega)
  have hw3 := hw2.below ((hb2.trans (hb3.mono hs2)).mono (by omega))
  have hoc := OrderCheck_any n a cap us n₀ hf _ hw3 (by omega)
  have e00 := q1.cell (i := 0) rfl
  have e01 := q1.cell (i := 1) rfl
  have hlt2 := q1.lt
  clear hdu d00 d01
  go_wp2_with fail
  refine hoc.mono ?_
  rintro e w4 ⟨rfl, hb4⟩
  have hs4 := hb4.size
  have q3 := row_below q2 hb4 q2.lt
  have qd := row_below rd hb4 rd.lt
  have ed0 := qd.cell (i := 0) rfl
  have ed1 := qd.cell (i := 1) rfl
  have hlt4 : w2.heap.size < w4.heap.size := qd.lt
  have hor := Orders_any 0 0 none none 0 0 [] [] 0 (by simp) w4 (.inl rfl) (.inl rfl) (Nat.zero_le _)
  have hne : (codeOf n us != 0) = true := by rw [bne_iff_ne]; exact hc
  have hself : (codeOf n us != codeOf n us) = false := by simp
  have Hb : Below w.heap.size w w4 := hb0.trans ((hb1.trans ((hb2.trans ((hb3.trans (hb4.mono (by omega))).mono hs2)).mono hs1)).mono (by omega))
  have HB := hide Hb
  clear hoc e00 e01 hb0 hb1 hb2 hb3 hb4 Hb
  go_wp2_with fail
  refine hor.mono ?_
  rintro e w5 ⟨rfl, hb5⟩
  go_wp2_with fail
  go_ret
  exact ⟨ret_bool (by simp [sameB]), HB.out.trans (hb5.mono (by have := HB.out.size; omega))⟩
set_option maxRecDepth 100000 in
set_option maxHeartbeats 1000000 in
theorem law_ok (n : Int) (a : Option Addr) (cap : Nat) (us : List Nat) (n₀ : Nat) (hf : Fit us) (w : World) (hT : TabAt w) (hw : IsWords n₀ w a us) (hg : 0 < n₀) (hn₀ : n₀ ≤ w.heap.size) (hc : codeOf n us = 0) :
    Calls Tryd.prog 3 #[.agg #[.int .i64 n, .slice a us.length cap]] w fun e w' => e = .returned (.bool true) ∧ Below w.heap.size w w' := by
  obtain ⟨_, h16, hlen, _, _⟩ := code_zero hc
  have hl16 : us.length ≤ 16 := by omega
  obtain ⟨r0, hb0, hs0⟩ := one_row w 24 (.int .i64 n) (.slice a us.length cap) rfl
  have hT1 := hT.below hb0 (by omega)
  have hw1 := hw.below (hb0.mono hn₀)
  have hck := Check_any n a cap us n₀ hf _ hT1 hw1 hg (by omega)
  rw [hc] at hck
  have c00 := r0.cell (i := 0) rfl
  have c01 := r0.cell (i := 1) rfl
  have Hlen := hide hlen; clear hlen
  have Hc := hide hc; clear hc
  go_enter Tryd.func3, Tryd.ntmps3
  go_wp2_with fail
  refine hck.mono ?_
  rintro e w1 ⟨rfl, hb1⟩
  have q0 := row_below r0 hb1 r0.lt
  have hT2 := hT1.below hb1 (by omega)
  have hw2 := hw1.below (hb1.mono (by omega))
  have hs1 := hb1.size
  have hdu := Dual_ok n a cap us n₀ hf w1 hT2 hw2 hg (by omega) Hc.out
  have d00 := q0.cell (i := 0) rfl
  have d01 := q0.cell (i := 1) rfl
  clear hck c00 c01
  go_wp2_with fail
  refine hdu.mono ?_
  rintro e w2 ⟨g, ds, rfl, hb2, hg1, rD, hTur⟩
  have hs2 := hb2.size
  have q1 := row_below q0 hb2 q0.lt
  obtain ⟨rd, hb3, hs3⟩ := one_row w2 24 (.int .i64 n) (.slice (some ⟨g, 0, none⟩) us.length us.length) rfl
  have q2 := row_below q1 hb3 q1.lt
  have rD3 := row_below rD hb3 rD.lt
  have hw3 := hw2.below ((hb2.trans (hb3.mono hs2)).mono (by omega))
  have hoc := OrderCheck_any n a cap us n₀ hf _ hw3 (by omega)
  rw [Hc.out] at hoc
  have e00 := q1.cell (i := 0) rfl
  have e01 := q1.cell (i := 1) rfl
  have hlt2 := q1.lt
  clear hdu d00 d01
  go_wp2_with fail
  refine hoc.mono ?_
  rintro e w4 ⟨rfl, hb4⟩
  have hs4 := hb4.size
  have q3 := row_below q2 hb4 q2.lt
  have qd := row_below rd hb4 rd.lt
  have rD4 := row_below rD3 hb4 rD3.lt
  have hw4 := hw3.below (hb4.mono (by omega))
  have ed0 := qd.cell (i := 0) rfl
  have ed1 := qd.cell (i := 1) rfl
  have eo0 := q3.cell (i := 0) rfl
  have eo1 := q3.cell (i := 1) rfl
  have hlt4 : w2.heap.size < w4.heap.size := qd.lt
  have Hb : Below w.heap.size w w4 := hb0.trans ((hb1.trans ((hb2.trans ((hb3.trans (hb4.mono (by omega))).mono hs2)).mono hs1)).mono (by omega))
  have HB := hide Hb
  have hsz4 := Hb.size
  clear hoc e00 e01 hb0 hb1 hb2 hb3 hb4 Hb r0 q0 q1 q2 rd rD rD3 hT1 hT2 hw1 hw2 hw3
  have hlen := Hlen.out
  subst hlen
  have hod := OrderDual_any a cap us n₀ hf hl16 w4.drew (show IsWords n₀ w4.drew a us from hw4) (show n₀ ≤ w4.heap.size by omega)
  have hmx : Tryd.prog.follows .mixedOrders = true := by kernel_rfl
  have qdd : Row w4.drew w2.heap.size 24 [.int .i64 us.length, .slice (some ⟨g, 0, none⟩) us.length us.length] := qd
  have rDd : Row w4.drew g 49 (wvals ds) := rD4
  have hglt := rD4.lt
  go_wp2
  first | go_region_with (first
    | (go_at_call 13; refine hod.mono ?_; rintro e w5 ⟨v, es, rfl, hb5, hown, hTe⟩; obtain rfl : es = ds := hTe.unique hTur; obtain ⟨av, cv, rfl, hwv⟩ := ownsRow_words hown; have hglt5 := Nat.lt_of_lt_of_le hglt hb5.size; have hor := Orders_any us.length us.length (some ⟨g, 0, none⟩) av us.length cv es es w5.heap.size (by rw [hTur.len]; omega) w5 ((row_below rDd hb5 hglt).words hglt5) hwv (Nat.le_refl _); rw [hTur.len] at hor ⊢; have p0 := row_below qdd hb5 hlt4; have m0 := p0.cell (i := 0) rfl; have m1 := p0.cell (i := 1) rfl)
    | (go_at_call 12; refine hor.mono ?_; rintro e w6 ⟨rfl, hb6⟩)) | fail
  all_goals
    go_wp2
    go_ret
    refine ⟨ret_bool (by simp [sameB]), ?_⟩
    have hb5' : Below w4.heap.size w4.drew w5 := hb5
    exact (HB.out.drew.trans (hb5'.mono hsz4)).trans (hb6.mono (by have := hb5'.size; have : w4.drew.heap.size = w4.heap.size := rfl; omega))

/-- **OrderChecks answers true, for every order, and writes nothing that was there** -/
theorem law_any (n : Int) (a : Option Addr) (cap : Nat) (us : List Nat) (n₀ : Nat) (hf : Fit us) (w : World) (hT : TabAt w) (hw : IsWords n₀ w a us) (hg : 0 < n₀) (hn₀ : n₀ ≤ w.heap.size) :
    Calls Tryd.prog 3 #[.agg #[.int .i64 n, .slice a us.length cap]] w fun e w' => e = .returned (.bool true) ∧ Below w.heap.size w w' := by
  by_cases hc : codeOf n us = 0
  · exact law_ok n a cap us n₀ hf w hT hw hg hn₀ hc
  · exact law_bad n a cap us n₀ hf w hT hw hg hn₀ hc
end Go.Proofs.YthhjhfjildmbhaaDoor
