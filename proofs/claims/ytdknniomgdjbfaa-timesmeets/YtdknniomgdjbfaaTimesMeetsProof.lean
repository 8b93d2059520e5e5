/- For any list of lists of numbers, any list of lists of numbers, any list of numbers that come in, such as may not be among them, watershedkeep.TimesMeets returns true and leaves its arguments as they were; no condition on them. -/
import Derived.Test.YtdknniomgdjbfaaOpenL
import Derived.Carry
import Derived.Test.YtdknniomgdjbfaaLawTMeets
namespace Go.Proofs.Ytdknniomgdjbfaa
open Go.ChangeShapes Go.WideShapes Go.ChangeAt Go.RowKit Go.Joins

set_option maxHeartbeats 800000 in
set_option maxRecDepth 100000 in
theorem timesMeets_lifted (os : Os) (started : os.Started) (H : Type) (enc : TypeId × Value → H) :
    ReturnsInHanded {} Try.checked os 7 .any (Rows.timesMeetsSpec.pre6 enc Try.prog Try.f7 Rows.timesMeetsRow.domain false) (Rows.timesMeetsSpec.post enc Try.prog Try.f7 false true false false) := by
  refine returnsInHanded_of_change (C := Try.checked) own started (by kernel_rfl) Try.func7
    (ChangeSpec.witness6 (enc := enc) (C := Try.checked) false ⟨#[], #[.slice none 0 0, .slice none 0 0, .slice none 0 0], []⟩ 8 (by kernel_rfl) (by kernel_rfl) (by kernel_rfl) (by kernel_rfl)) ?_
  intro W base args ds gs before hval0 hW _ _
  have hval : ∀ (j : Nat) t v, Try.f7.params[j]? = some t → args[j]? = some v → Value.okWide Try.prog W .any base t v := hval0
  have hW' := hW
  obtain ⟨p, q, hA0, hV, rfl, hfz, hnd⟩ := hW
  have hA : DataW.TrodAll enc Try.prog W 0 (fun _ => true) true Try.f7.params.toList args.toList ds p := hA0
  rw [Try.params7] at hA hval
  obtain ⟨v0, v1, v2, d0, d1, d2, p0, p1, p2, rfl, rfl, hpp, h0, h1, h2⟩ := trodAll_three hA
  obtain ⟨rfl, rfl⟩ := trodVars_none hV
  have k0 := h0
  have k1 := h1
  have k2 := h2
  have lt0 : ∀ x ∈ p0, x.block < W.heap.size := by obtain ⟨m, hm⟩ := k0; exact DataW.trod_lt m _ _ _ hm
  have lt1 : ∀ x ∈ p1, x.block < W.heap.size := by obtain ⟨m, hm⟩ := k1; exact DataW.trod_lt m _ _ _ hm
  have lt2 : ∀ x ∈ p2, x.block < W.heap.size := by obtain ⟨m, hm⟩ := k2; exact DataW.trod_lt m _ _ _ hm
  obtain ⟨b0, len0, cp0, hv0⟩ := okWide_slice Try.underlying22 (hval 0 22 v0 rfl rfl)
  subst hv0
  obtain ⟨mm0, hm0⟩ := h0
  obtain ⟨a0, cap0, zs0, hv0, lz0, hz0, hn0⟩ := lists_open2 hm0
  rw [hv0] at k0 hW' ⊢
  obtain ⟨b1, len1, cp1, hv1⟩ := okWide_slice Try.underlying22 (hval 1 22 v1 rfl rfl)
  subst hv1
  obtain ⟨mm1, hm1⟩ := h1
  obtain ⟨a1, cap1, zs1, hv1, lz1, hz1, hn1⟩ := lists_open2 hm1
  rw [hv1] at k1 hW' ⊢
  obtain ⟨b2, len2, cp2, hv2⟩ := okWide_slice Try.underlying23 (hval 2 23 v2 rfl rfl)
  subst hv2
  obtain ⟨mm2, hm2⟩ := h2
  obtain ⟨a2, cap2, zs2, hv2, lz2, hz2⟩ := zints_open hm2
  rw [hv2] at k2 hW' ⊢
  clear hA0 hval0
  refine (tmeets_any a0 cap0 zs0 a1 cap1 zs1 a2 cap2 zs2 W.heap.size lz0 lz1 lz2 hn0 hn1 W hz0 hz1 hz2 (Nat.le_refl _)).mono fun e W' ⟨he, bel⟩ => ?_
  subst he
  exact ⟨_, rfl, _, _, _, [], _, [], hW', trodAll_mk1 (shut_bool Try.underlying4 _), (trodAll_cons_mk (Below.trod laidOut (by kernel_rfl) (of_decide_eq_true (by kernel_rfl)) k0 bel lt0) (trodAll_cons_mk (Below.trod laidOut (by kernel_rfl) (of_decide_eq_true (by kernel_rfl)) k1 bel lt1) (trodAll_cons_mk (Below.trod laidOut (by kernel_rfl) (of_decide_eq_true (by kernel_rfl)) k2 bel lt2) trodAll_mk0))), rfl, bel.frame _, fun h => by cases h⟩

/-- **the statement** -/
theorem timesMeets_holds : Rows.TimesMeetsSaid :=
  OpenClaim.holds_of_wide 7 Try.f7 rfl rfl rfl rfl rfl rfl rfl ⟨rfl, rfl, rfl, rfl, rfl⟩ rfl rfl rfl rfl rfl (by kernel_rfl) Try.func7 (by kernel_rfl)
    (of_decide_eq_true (by kernel_rfl)) (by unfold Func.isWrapper; first | (rw [if_pos (by decide +kernel)]; kernel_rfl) | (rw [if_neg (by decide +kernel)]; exact ⟨rfl, rfl⟩))
    (fun os started H enc _ => timesMeets_lifted os started H enc)
#print axioms timesMeets_holds
end Go.Proofs.Ytdknniomgdjbfaa
