/- Package mobius: Times of two tables. -/
import Derived.Test.YtilffmalkegioaaDoorMobPub
namespace Go.Proofs.YtilffmalkegioaaDoor
open Go.RowKit Go.Shelf

structure OrdSt (w : World) (n : Nat) (a : Option Addr) (cap : Nat) (V : World) : Prop where
  bel : Below w.heap.size w V
  r0 : Row V w.heap.size 24 [.int .i64 n, .slice a n cap]
theorem OrdSt.drew {w : World} {n : Nat} {a : Option Addr} {cap : Nat} {V : World} (h : OrdSt w n a cap V) : OrdSt w n a cap V.drew := ⟨h.bel.drew, h.r0⟩
theorem OrdSt.keep {w : World} {n : Nat} {a : Option Addr} {cap : Nat} {A V : World} (hb : Below A.heap.size A V) (h : OrdSt w n a cap A) : OrdSt w n a cap V := ⟨h.bel.trans (hb.mono h.bel.size), h.r0.keep hb⟩
theorem OrdSt.all {w : World} {n : Nat} {a : Option Addr} {cap : Nat} {V : World} (h : OrdSt w n a cap V) : V.cell? ⟨w.heap.size, 0, none⟩ = some (.int .i64 n) ∧ V.cell? ⟨w.heap.size, 1, none⟩ = some (.slice a n cap) ∧ OrdSt w n a cap V := ⟨h.r0.cell (i := 0) rfl, h.r0.cell (i := 1) rfl, h⟩

set_option maxRecDepth 100000 in
set_option maxHeartbeats 4000000 in
theorem Times_ok (n : Nat) (a : Option Addr) (cap : Nat) (us : List Nat) (af : Option Addr) (cf : Nat) (F : List B64) (ag : Option Addr) (cg : Nat) (G : List B64) (n₀ : Nat) (hn : n = us.length) (hf : Fit us) (w : World) (hT : TabAt w) (hw : IsWords n₀ w a us) (hvF : ZInts n₀ w af (tiL F)) (hvG : ZInts n₀ w ag (tiL G)) (hg : 0 < n₀) (hn₀ : n₀ ≤ w.heap.size) (hc : codeOf n us = 0) (hF : IsTab us F) (hG : IsTab us G) :
    Calls Tryd.prog 20 #[.agg #[.int .i64 n, .slice a n cap], .slice af (n * n) cf, .slice ag (n * n) cg] w fun e w' => ∃ p, e = .returned (.tuple #[.slice (some ⟨p, 0, none⟩) (n * n) (n * n), .int .i64 0]) ∧ w.heap.size ≤ p ∧ Below w.heap.size w w' ∧ Row w' p 2 (bvals (tabL n (mm n (mat n F) (mat n G)))) := by
  have hl : n ≤ 16 := by have := (code_zero hc).2.1; omega
  have hlF : F.length = n * n := by rw [hF.1, hn]
  have hlG : G.length = n * n := by rw [hG.1, hn]
  obtain ⟨r0, hb0, hs0⟩ := one_row w 24 (.int .i64 n) (.slice a n cap) rfl
  have hck := Check_any n a cap us n₀ hf _ (hT.below hb0 (by omega)) (hw.below (hb0.mono hn₀)) hg (by omega)
  rw [hc, ← hn] at hck
  have t1 := fun (W : World) (hb : Below w.heap.size w W) => isTable_any n a cap us af cf F n₀ hn hf hl W (hw.below (hb.mono hn₀)) (hvF.below (hb.mono hn₀)) (by have := hb.size; omega)
  have t2 := fun (W : World) (hb : Below w.heap.size w W) => isTable_any n a cap us ag cg G n₀ hn hf hl W (hw.below (hb.mono hn₀)) (hvG.below (hb.mono hn₀)) (by have := hb.size; omega)
  rw [tabB_true.2 hF, hlF] at t1
  rw [tabB_true.2 hG, hlG] at t2
  have k1 := fun (W : World) (h : OrdSt w n a cap W) => copied_any n hl af cf n₀ F hlF W (hvF.below (h.bel.mono hn₀)) (by have := h.bel.size; omega)
  have k2 := fun (W : World) (h : OrdSt w n a cap W) => copied_any n hl ag cg n₀ G hlG W (hvG.below (h.bel.mono hn₀)) (by have := h.bel.size; omega)
  have k3 := fun p q => times_any n p q hl F G hlF hlG
  unfold sqV at k1 k2 k3
  have Hb := hide hb0
  clear hb0 hn hc hF hG hw hvF hvG hT hf
  go_enter Tryd.func20, Tryd.ntmps20
  go_wp2_with fail
  refine hck.mono ?_
  rintro e w1 ⟨rfl, hb1⟩
  have q0 := row_below r0 hb1 r0.lt
  have c0 := q0.cell (i := 0) rfl
  have c1 := q0.cell (i := 1) rfl
  have hB1 := Hb.out.trans (hb1.mono (by simp))
  have hs1 := hB1.size
  go_wp2_with fail
  refine (t1 _ hB1).mono ?_
  rintro e w2 ⟨rfl, hb2⟩
  clear c0 c1
  have q2 := row_below q0 hb2 q0.lt
  have c0 := q2.cell (i := 0) rfl
  have c1 := q2.cell (i := 1) rfl
  have hB2 := hB1.trans (hb2.mono hs1)
  have hs2 := hB2.size
  go_wp2_with fail
  refine (t2 _ hB2).mono ?_
  rintro e w3 ⟨rfl, hb3⟩
  have hst : OrdSt w n a cap w3 := ⟨hB2.trans (hb3.mono hs2), row_below q2 hb3 q2.lt⟩
  have hfr := fun p => run_field_at n (some ⟨p, 0, none⟩) (n * n) (n * n)
  clear c0 c1 t1 t2 hck r0 q0 q2 hb1 hb2 hb3 hB1 hB2 Hb
  go_wp2_with fail
  go_region_held3 (fun V => V.cell? ⟨w.heap.size, 0, none⟩ = some (.int .i64 n) ∧ V.cell? ⟨w.heap.size, 1, none⟩ = some (.slice a n cap) ∧ OrdSt w n a cap V) ((go_split_ands; first | exact OrdSt.all hst | exact OrdSt.all hst.drew | exact OrdSt.all (by assumption) | exact OrdSt.all (OrdSt.keep hb (by assumption)) | exact OrdSt.all (OrdSt.keep hb2 (by assumption)) | exact OrdSt.all (OrdSt.keep hb3 (by assumption)) | fail))
    (first
      | (go_at_call 46; go_split_ands; with_reducible refine (k1 _ (by assumption)).mono ?_; rintro e w' ⟨p, rfl, hp, hb, hr⟩)
      | (go_at_call 46; go_split_ands; with_reducible refine (k2 _ (by assumption)).mono ?_; rintro e w' ⟨q, rfl, hq, hb2, hr2⟩)
      | (go_at_call 47; with_reducible refine (k3 _ _ _ (Row.keep hr hb2) hr2).mono ?_; rintro e w' ⟨g, rfl, hg1, hb3, hr3⟩))
  go_split_ands
  have hT := ‹OrdSt w n a cap w'›
  have hp' : w3.heap.size ≤ p := hp
  have e1 := hst.bel.size
  have e2 := hr.lt
  have e3 := hr2.lt
  clear hst hb hb2 hb3 hr hr2
  go_wp2
  go_ret2
  exact ⟨g, rfl, by omega, hT.bel, hr3⟩
end Go.Proofs.YtilffmalkegioaaDoor
