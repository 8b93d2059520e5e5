/- The contract of the program's Heights: what is wrong, or how many others are in the longest chain that ends with each element. -/
import Derived.Test.YthhjhfjildmbhaaDoorHeights
import Derived.Test.YthhjhfjildmbhaaDoorChainPlain
import Derived.Test.YthhjhfjildmbhaaDoorSortedTop
namespace Go.Proofs.YthhjhfjildmbhaaDoor
open Go.RowKit Go.Shelf

theorem inside_below {us ds : List Nat} (hT : Tur us us.length [] ds) : Inside (othL ds) := fun i hi j _ h => by
  have hl : (othL ds).length = us.length := by rw [othL_len, hT.len]
  rw [hl] at hi ⊢
  have hi' : i < ds.length := by rw [hT.len]; exact hi
  rw [hasB_othL hT.fit hi', Bool.and_eq_true, hT.has i hi] at h
  simp at h
  exact h.1.1
theorem inside_above {us : List Nat} (hf : Fit us) (hin : Inside us) : Inside (othL us) := fun i hi j _ h => by
  rw [othL_len] at hi ⊢
  rw [hasB_above hf hi] at h
  exact under_lt hf hin hi h
set_option maxRecDepth 100000 in
set_option maxHeartbeats 1000000 in
theorem Heights_bad (n : Int) (a : Option Addr) (cap : Nat) (us : List Nat) (n₀ : Nat) (hf : Fit us) (w : World) (hT : TabAt w) (hw : IsWords n₀ w a us) (hg : 0 < n₀) (hn₀ : n₀ ≤ w.heap.size) (hc : codeOf n us ≠ 0) :
    Calls Tryd.prog 22 #[.agg #[.int .i64 n, .slice a us.length cap]] w fun e w' => e = .returned (.tuple #[.slice none 0 0, .int .i64 (codeOf n us)]) ∧ Below w.heap.size w w' := by
  have r0 := Row.new w 24 [.int .i64 n, .slice a us.length cap]
  have hb0 : Below w.heap.size w (w.alloc (.cells #[.int .i64 n, .slice a us.length cap] 24)) := (Below.refl _ _).alloc (Nat.le_refl _) _
  have hck := Check_any n a cap us n₀ hf _ (hT.below hb0 (by omega)) (hw.below (hb0.mono hn₀)) hg (by simp; omega)
  generalize codeOf n us = c at *
  have hne : (c != 0) = true := by rw [bne_iff_ne]; exact hc
  have Hb := hide hb0
  clear hb0 hc
  go_enter Tryd.func22, Tryd.ntmps22
  go_wp2_with (go_at_call 9; refine hck.mono ?_; rintro e w1 ⟨rfl, hb1⟩)
  go_ret2
  exact ⟨rfl, Hb.out.trans (hb1.mono (by simp))⟩

set_option maxRecDepth 100000 in
set_option maxHeartbeats 1000000 in
theorem Heights_ok (n : Int) (a : Option Addr) (cap : Nat) (us : List Nat) (n₀ : Nat) (hf : Fit us) (w : World) (hT : TabAt w) (hw : IsWords n₀ w a us) (hg : 0 < n₀) (hn₀ : n₀ ≤ w.heap.size) (hc : codeOf n us = 0) :
    Calls Tryd.prog 22 #[.agg #[.int .i64 n, .slice a us.length cap]] w fun e w' => ∃ B hs, e = .returned (.tuple #[.slice (some ⟨B, 0, none⟩) us.length us.length, .int .i64 0]) ∧ Below w.heap.size w w' ∧ w.heap.size ≤ B ∧ Row w' B 3 (ivals hs) ∧ hs.length = us.length ∧ (∀ i, wd hs i ≤ us.length) ∧ IsHt (underB us) us.length (wd hs) := by
  obtain ⟨_, h16, hlen, hin, hord⟩ := code_zero hc
  have hl16 : us.length ≤ 16 := by omega
  have r0 := Row.new w 24 [.int .i64 n, .slice a us.length cap]
  have hb0 : Below w.heap.size w (w.alloc (.cells #[.int .i64 n, .slice a us.length cap] 24)) := (Below.refl _ _).alloc (Nat.le_refl _) _
  have hck := Check_any n a cap us n₀ hf _ (hT.below hb0 (by omega)) (hw.below (hb0.mono hn₀)) hg (by simp; omega)
  rw [hc] at hck
  have c00 := r0.cell (i := 0) rfl
  have c01 := r0.cell (i := 1) rfl
  clear hlen hc
  go_enter Tryd.func22, Tryd.ntmps22
  go_wp2_with fail
  refine hck.mono ?_
  rintro e w1 ⟨rfl, hb1⟩
  have q0 := row_below r0 hb1 r0.lt
  have hB1 : Below w.heap.size w w1 := hb0.trans (hb1.mono (by simp))
  have hs1 := hB1.size
  have d00 := q0.cell (i := 0) rfl
  have d01 := q0.cell (i := 1) rfl
  clear hck c00 c01 r0 hb0 hb1
  go_wp2_with fail
  refine (turned_any a cap us n₀ hf hin hl16 w1 (hT.below hB1 (by omega)) (hw.below (hB1.mono hn₀)) hg (by omega)).mono ?_
  rintro e w2 ⟨ds, rfl, hb2, rT, hTur⟩
  have hs2 := hb2.size
  have hB2 : Below w.heap.size w w2 := hB1.trans (hb2.mono hs1)
  have ltT := rT.lt
  have hoth := others_any (some ⟨w1.heap.size, 0, none⟩) us.length ds w2.heap.size hTur.fit (by rw [hTur.len]; exact hl16) w2 (rT.words ltT) (Nat.le_refl _)
  rw [hTur.len] at hoth
  go_wp2_with fail
  refine hoth.mono ?_
  rintro e w3 ⟨rfl, hb3, rC⟩
  have hs3 := hb3.size
  have hB3 : Below w.heap.size w w3 := hB2.trans (hb3.mono (by omega))
  have ltC := rC.lt
  have hel : (othL ds).length = us.length := by rw [othL_len, hTur.len]
  have hacy : Acy (aheadB (othL ds)) us.length := acy_congr (ahead_below hTur) (acy_under hord)
  have hso := heights_any (some ⟨w2.heap.size, 0, none⟩) us.length (othL ds) w3.heap.size (othL_fit hTur.fit) (inside_below hTur) (by rw [hel]; exact hl16) (by rw [hel]; exact hacy) w3 (hT.below hB3 (by omega)) (rC.words ltC) (by omega) (Nat.le_refl _)
  rw [hel] at hso
  clear hoth d00 d01
  go_wp2_with fail
  refine hso.mono ?_
  rintro e w4 ⟨hs, rfl, hb4, rH, hK⟩
  go_wp2
  go_ret2
  exact ⟨w3.heap.size, hs, rfl, hB3.trans (hb4.mono (by omega)), by omega, rH, hK.len, hK.small, ht_congr (fun i hi x hx => (ahead_below hTur i hi x hx).symm) (hK.isHt hacy)⟩
end Go.Proofs.YthhjhfjildmbhaaDoor
