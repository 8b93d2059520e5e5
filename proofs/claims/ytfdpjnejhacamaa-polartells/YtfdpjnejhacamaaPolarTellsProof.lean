/- For every context, any set, any set, any set that come in, such as may not be among them, watershedlaw.PolarTells returns true and leaves its arguments as they were; no condition on them. -/
import Derived.Test.YtfdpjnejhacamaaOpenP
import Derived.Carry
import Derived.Test.YtfdpjnejhacamaaLawPTells
namespace Go.Proofs.Ytfdpjnejhacamaa
open Go.ChangeShapes Go.WideShapes Go.ChangeAt Go.RowKit Go.Joins

set_option maxHeartbeats 800000 in
set_option maxRecDepth 100000 in
theorem polarTells_lifted (os : Os) (started : os.Started) (H : Type) (enc : TypeId × Value → H) :
    ReturnsInHanded {} Try.checked os 3 .any (Rows.polarTellsSpec.pre6 enc Try.prog Try.f3 Rows.polarTellsRow.domain false) (Rows.polarTellsSpec.post enc Try.prog Try.f3 false true false false) := by
  refine returnsInHanded_of_change (C := Try.checked) own started (by kernel_rfl) Try.func3
    (ChangeSpec.witness6 (enc := enc) (C := Try.checked) false ⟨#[], #[.agg #[.slice none 0 0, .int .i64 0], .int .u32 0, .int .u32 0, .int .u32 0], []⟩ 8 (by kernel_rfl) (by kernel_rfl) (by kernel_rfl) (by kernel_rfl)) ?_
  intro W base args ds gs before hval0 hW _ _
  have hval : ∀ (j : Nat) t v, Try.f3.params[j]? = some t → args[j]? = some v → Value.okWide Try.prog W .any base t v := hval0
  have hW' := hW
  obtain ⟨p, q, hA0, hV, rfl, hfz, hnd⟩ := hW
  have hA : DataW.TrodAll enc Try.prog W 0 (fun _ => true) true Try.f3.params.toList args.toList ds p := hA0
  rw [Try.params3] at hA hval
  obtain ⟨v0, v1, v2, v3, d0, d1, d2, d3, p0, p1, p2, p3, rfl, rfl, hpp, h0, h1, h2, h3⟩ := trodAll_four hA
  obtain ⟨rfl, rfl⟩ := trodVars_none hV
  have k0 := h0
  have k1 := h1
  have k2 := h2
  have k3 := h3
  have lt0 : ∀ x ∈ p0, x.block < W.heap.size := by obtain ⟨m, hm⟩ := k0; exact DataW.trod_lt m _ _ _ hm
  have lt1 : ∀ x ∈ p1, x.block < W.heap.size := by obtain ⟨m, hm⟩ := k1; exact DataW.trod_lt m _ _ _ hm
  have lt2 : ∀ x ∈ p2, x.block < W.heap.size := by obtain ⟨m, hm⟩ := k2; exact DataW.trod_lt m _ _ _ hm
  have lt3 : ∀ x ∈ p3, x.block < W.heap.size := by obtain ⟨m, hm⟩ := k3; exact DataW.trod_lt m _ _ _ hm
  obtain ⟨c00, c10, y00, y10, m0, rfl, hd0, hp0, hy00, hy10⟩ := open_agg2 Try.underlying24 (by kernel_rfl) cellsContext (hval 0 24 v0 rfl rfl) h0
  obtain ⟨n0, e00, _, _⟩ := DataW.trod_int Try.underlying3 hy10
  simp at e00
  subst e00
  obtain ⟨a0, cap0, us0, rfl, hf0, hw0⟩ := words_open hy00
  obtain ⟨x1, rfl, _, _, wf1⟩ := open_int Try.underlying25 (hval 1 25 v1 rfl rfl) h1
  have bd1 := bounds_u32 wf1
  obtain ⟨s1, rfl⟩ : ∃ s : Nat, x1 = (s : Int) := ⟨x1.toNat, by omega⟩
  have ls1 : s1 < 4294967296 := by omega
  obtain ⟨x2, rfl, _, _, wf2⟩ := open_int Try.underlying25 (hval 2 25 v2 rfl rfl) h2
  have bd2 := bounds_u32 wf2
  obtain ⟨s2, rfl⟩ : ∃ s : Nat, x2 = (s : Int) := ⟨x2.toNat, by omega⟩
  have ls2 : s2 < 4294967296 := by omega
  obtain ⟨x3, rfl, _, _, wf3⟩ := open_int Try.underlying25 (hval 3 25 v3 rfl rfl) h3
  have bd3 := bounds_u32 wf3
  obtain ⟨s3, rfl⟩ : ∃ s : Nat, x3 = (s : Int) := ⟨x3.toNat, by omega⟩
  have ls3 : s3 < 4294967296 := by omega
  clear hA0 hval0
  refine (ptells_any n0 a0 cap0 us0 s1 s2 s3 ls1 ls2 ls3 W.heap.size W ⟨hf0, hw0, Nat.le_refl _⟩).mono fun e W' ⟨he, bel⟩ => ?_
  subst he
  exact ⟨_, rfl, _, _, _, [], _, [], hW', trodAll_mk1 (shut_bool Try.underlying4 _), (trodAll_cons_mk (Below.trod laidOut (by kernel_rfl) (of_decide_eq_true (by kernel_rfl)) k0 bel lt0) (trodAll_cons_mk (Below.trod laidOut (by kernel_rfl) (of_decide_eq_true (by kernel_rfl)) k1 bel lt1) (trodAll_cons_mk (Below.trod laidOut (by kernel_rfl) (of_decide_eq_true (by kernel_rfl)) k2 bel lt2) (trodAll_cons_mk (Below.trod laidOut (by kernel_rfl) (of_decide_eq_true (by kernel_rfl)) k3 bel lt3) trodAll_mk0)))), rfl, bel.frame _, fun h => by cases h⟩

/-- **the statement** -/
theorem polarTells_holds : Rows.PolarTellsSaid :=
  OpenClaim.holds_of_wide 3 Try.f3 rfl rfl rfl rfl rfl rfl rfl ⟨rfl, rfl, rfl, rfl, rfl⟩ rfl rfl rfl rfl rfl (by kernel_rfl) Try.func3 (by kernel_rfl)
    (of_decide_eq_true (by kernel_rfl)) (by unfold Func.isWrapper; first | (rw [if_pos (by decide +kernel)]; kernel_rfl) | (rw [if_neg (by decide +kernel)]; exact ⟨rfl, rfl⟩))
    (fun os started H enc _ => polarTells_lifted os started H enc)
#print axioms polarTells_holds
end Go.Proofs.Ytfdpjnejhacamaa
