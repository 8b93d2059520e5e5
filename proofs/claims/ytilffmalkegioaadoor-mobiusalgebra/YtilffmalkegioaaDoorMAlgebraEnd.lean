/- For every order, any list of numbers, any list of numbers, any list of numbers that come in, such as may not be among them, watershedkeep.MobiusAlgebra returns true and leaves its arguments as they were; the table math/bits.deBruijn64tab is taken as the program's text lays it (the card ties it); no condition on them. -/
import Derived.Test.YtilffmalkegioaaDoorOpen
import Derived.Carry
import Derived.Test.YtilffmalkegioaaDoorOpenLongs
import Derived.Test.YtilffmalkegioaaDoorPart48
import Derived.Test.YtilffmalkegioaaDoorCards
import Derived.Test.YtilffmalkegioaaDoorTie
namespace Go.Proofs.YtilffmalkegioaaDoor
open Go.ChangeShapes Go.WideShapes Go.ChangeAt Go.RowKit Go.Joins

set_option maxRecDepth 100000 in
theorem mobiusAlgebra_lifted (os : Os) (started : os.Started) (H : Type) (enc : TypeId × Value → H) :
    ReturnsInHanded {} Tryd.checked os 8 .any (fun w args => (Rows.mobiusAlgebraSpec.pre enc Tryd.prog Tryd.f8 [] false w args ∧ laidMetH Tryd.prog laid1 w) ∧ sizedMet enc Tryd.prog Tryd.f8 (OpenSpec.ofChange Rows.mobiusAlgebraSpec) false w args)
      (Rows.mobiusAlgebraSpec.post enc Tryd.prog Tryd.f8 false true false false) := by
  refine returnsInHanded_of_change_and (C := Tryd.checked) (X := fun w _ => laidMetH Tryd.prog laid1 w) (fun _ _ _ hh h => h.of_heap hh) own started (by kernel_rfl) Tryd.func8
    (ChangeSpec.witness_shaped (enc := enc) (C := Tryd.checked) (os := os) (X := fun w _ => laidMetH Tryd.prog laid1 w) false (World.doorLaid Tryd.prog 400 os) #[.agg #[.int .i64 0, .slice none 0 0], .slice none 0 0, .slice none 0 0, .slice none 0 0] 8 rfl (World.shaped_of_RefB (by kernel_rfl) (by kernel_rfl)) (by kernel_rfl) (by kernel_rfl) (by kernel_rfl) (door_met os _)) ?_
  intro W base args ds gs before hval0 hW _ _ hL _
  have hval : ∀ (j : Nat) t v, Tryd.f8.params[j]? = some t → args[j]? = some v → Value.okWide Tryd.prog W .any base t v := hval0
  have hW' := hW
  obtain ⟨p, q, hA0, hV, rfl, hfz, hnd⟩ := hW
  have hA : DataW.TrodAll enc Tryd.prog W 0 (fun _ => true) true Tryd.f8.params.toList args.toList ds p := hA0
  rw [Tryd.params8] at hA hval
  obtain ⟨v0, v1, v2, v3, d0, d1, d2, d3, p0, p1, p2, p3, rfl, rfl, hpp, h0, h1, h2, h3⟩ := trodAll_four hA
  obtain ⟨rfl, rfl⟩ := trodVars_none hV
  have k0 := h0
  have k1 := h1
  have k2 := h2
  have k3 := h3
  have lt0 : ∀ x ∈ p0, x.block < W.heap.size := by obtain ⟨m, hm⟩ := k0; exact DataW.trod_lt m _ _ _ hm
  have lt1 : ∀ x ∈ p1, x.block < W.heap.size := by obtain ⟨m, hm⟩ := k1; exact DataW.trod_lt m _ _ _ hm
  have lt2 : ∀ x ∈ p2, x.block < W.heap.size := by obtain ⟨m, hm⟩ := k2; exact DataW.trod_lt m _ _ _ hm
  have lt3 : ∀ x ∈ p3, x.block < W.heap.size := by obtain ⟨m, hm⟩ := k3; exact DataW.trod_lt m _ _ _ hm
  obtain ⟨c00, c10, y00, y10, m0, rfl, hd0, hp0, hy00, hy10⟩ := open_agg2 Tryd.underlying24 (by kernel_rfl) cellsOrder (hval 0 24 v0 rfl rfl) h0
  obtain ⟨n0, e00, _, _⟩ := DataW.trod_int Tryd.underlying3 hy00
  simp at e00
  subst e00
  obtain ⟨a0, cap0, us0, rfl, hf0, hw0⟩ := words_open hy10
  obtain ⟨b1, len1, cp1, hv1⟩ := okWide_slice Tryd.underlying25 (hval 1 25 v1 rfl rfl)
  subst hv1
  obtain ⟨mm1, hm1⟩ := h1
  obtain ⟨a1, cap1, zs1, hv1, lz1, hz1⟩ := longs_open hm1
  rw [hv1] at k1 hW' ⊢
  obtain ⟨b2, len2, cp2, hv2⟩ := okWide_slice Tryd.underlying25 (hval 2 25 v2 rfl rfl)
  subst hv2
  obtain ⟨mm2, hm2⟩ := h2
  obtain ⟨a2, cap2, zs2, hv2, lz2, hz2⟩ := longs_open hm2
  rw [hv2] at k2 hW' ⊢
  obtain ⟨b3, len3, cp3, hv3⟩ := okWide_slice Tryd.underlying25 (hval 3 25 v3 rfl rfl)
  subst hv3
  obtain ⟨mm3, hm3⟩ := h3
  obtain ⟨a3, cap3, zs3, hv3, lz3, hz3⟩ := longs_open hm3
  rw [hv3] at k3 hW' ⊢
  have hT := of_laid hL
  have hpos : 0 < W.heap.size := cell_lt (hT 0 (by decide))
  clear hA0 hval0
  refine (malg_any n0 a0 cap0 us0 a1 cap1 zs1 a2 cap2 zs2 a3 cap3 zs3 W.heap.size hf0 lz1 lz2 lz3 W hT hw0 hz1 hz2 hz3 hpos (Nat.le_refl _)).mono fun e W' ⟨he, bel⟩ => ?_
  subst he
  exact ⟨_, rfl, _, _, _, [], _, [], hW', trodAll_mk1 (shut_bool Tryd.underlying4 _), (trodAll_cons_mk (Below.trod laidOut (by kernel_rfl) (of_decide_eq_true (by kernel_rfl)) k0 bel lt0) (trodAll_cons_mk (Below.trod laidOut (by kernel_rfl) (of_decide_eq_true (by kernel_rfl)) k1 bel lt1) (trodAll_cons_mk (Below.trod laidOut (by kernel_rfl) (of_decide_eq_true (by kernel_rfl)) k2 bel lt2) (trodAll_cons_mk (Below.trod laidOut (by kernel_rfl) (of_decide_eq_true (by kernel_rfl)) k3 bel lt3) trodAll_mk0)))), rfl, bel.frame _, fun h => by cases h⟩

theorem mobiusAlgebra_row : Rows.MobiusAlgebraSaid :=
  OpenClaim.holds_of_wide 8 Tryd.f8 rfl rfl rfl rfl rfl rfl rfl ⟨rfl, rfl, rfl, rfl, rfl⟩ rfl rfl rfl rfl rfl (by kernel_rfl) Tryd.func8 (by kernel_rfl)
    (of_decide_eq_true (by kernel_rfl)) (by unfold Func.isWrapper; first | (rw [if_pos (by decide +kernel)]; kernel_rfl) | (rw [if_neg (by decide +kernel)]; exact ⟨rfl, rfl⟩))
    (fun os started H enc _ => mobiusAlgebra_lifted os started H enc)

/-- **the card** -/
theorem mobiusAlgebra_card : Rows.MobiusAlgebraCardSaid :=
  Claim7.holds_tied_plain_at .later [] _ _ _ _ mobiusAlgebra_row (fun _ h => by cases h) (by kernel_rfl) (fun _ h => by cases h) mobiusAlgebra_row_tie rfl ⟨rfl, rfl⟩ (by kernel_rfl) rfl
    (fun f fn hf hfn => by
      obtain rfl : f = 8 := Option.some.inj ((show Tryd.prog.funcNamed Rows.mobiusAlgebraRow.func = some 8 by kernel_rfl).symm.trans hf) |>.symm
      obtain rfl : fn = Tryd.f8 := (Option.some.inj (Tryd.func8.symm.trans hfn)).symm
      exact ⟨by kernel_rfl, fun j t ht => by
        rw [Tryd.params8] at ht
        have hm : t ∈ [24, 25, 25, 25] := by simpa using Array.mem_of_getElem? ht
        have hall : ([24, 25, 25, 25].all fun u => !Tryd.prog.wantsStandIn u) = true := by kernel_rfl
        exact (show Tryd.prog.wantsStandIn t = false by simpa using List.all_eq_true.1 hall t hm)⟩)
    (by kernel_rfl)
#print axioms mobiusAlgebra_card
end Go.Proofs.YtilffmalkegioaaDoor
