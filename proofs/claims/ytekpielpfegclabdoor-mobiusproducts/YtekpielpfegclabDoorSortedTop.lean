/- The contract of the program's Sorted: what is wrong, or all elements, each behind what is strictly below it. -/
import Derived.Test.YtekpielpfegclabDoorTurned
import Derived.Test.YtekpielpfegclabDoorSorted
import Derived.Test.YtekpielpfegclabDoorOthers
import Derived.Test.YtekpielpfegclabDoorCheck
import Derived.Test.YtekpielpfegclabDoorOwns
namespace Go.Proofs.YtekpielpfegclabDoor
open Go.RowKit Go.Shelf

/-- all elements of an order, each time the least one that may come -/
def sortL (us : List Nat) : List Nat := sortF (underB us) us.length us.length
theorem ahead_below {us ds : List Nat} (hT : Tur us us.length [] ds) : ∀ i, i < us.length → ∀ x, x < us.length → underB us x i = aheadB (othL ds) x i := fun i hi x _ => by
  unfold aheadB; rw [hasB_below hT hi]

set_option maxRecDepth 100000 in
set_option maxHeartbeats 1000000 in
theorem Sorted_bad (n : Int) (a : Option Addr) (cap : Nat) (us : List Nat) (n₀ : Nat) (hf : Fit us) (w : World) (hT : TabAt w) (hw : IsWords n₀ w a us) (hg : 0 < n₀) (hn₀ : n₀ ≤ w.heap.size) (hc : codeOf n us ≠ 0) :
    Calls Tryd.prog 23 #[.agg #[.int .i64 n, .slice a us.length cap]] w fun e w' => e = .returned (.tuple #[.slice none 0 0, .int .i64 (codeOf n us)]) ∧ Below w.heap.size w w' := by
  have r0 := Row.new w 24 [.int .i64 n, .slice a us.length cap]
  have hb0 : Below w.heap.size w (w.alloc (.cells #[.int .i64 n, .slice a us.length cap] 24)) := (Below.refl _ _).alloc (Nat.le_refl _) _
  have hck := Check_any n a cap us n₀ hf _ (hT.below hb0 (by omega)) (hw.below (hb0.mono hn₀)) hg (by simp; omega)
  generalize codeOf n us = c at *
  have hne : (c != 0) = true := by rw [bne_iff_ne]; exact hc
  have Hb := hide hb0
  clear hb0 hc
  go_enter Tryd.func23, Tryd.ntmps23
  go_wp2_with (go_at_call 22; refine hck.mono ?_; rintro e w1 ⟨rfl, hb1⟩)
  go_ret2
  exact ⟨rfl, Hb.out.trans (hb1.mono (by simp))⟩

set_option maxRecDepth 100000 in
set_option maxHeartbeats 1000000 in
theorem Sorted_ok (n : Int) (a : Option Addr) (cap : Nat) (us : List Nat) (n₀ : Nat) (hf : Fit us) (w : World) (hT : TabAt w) (hw : IsWords n₀ w a us) (hg : 0 < n₀) (hn₀ : n₀ ≤ w.heap.size) (hc : codeOf n us = 0) :
    Calls Tryd.prog 23 #[.agg #[.int .i64 n, .slice a us.length cap]] w fun e w' => ∃ av cv, e = .returned (.tuple #[.slice av us.length cv, .int .i64 0]) ∧ Below w.heap.size w w' ∧ w'.ownsRow w.heap.size 3 1 (.slice av us.length cv) us.length (ivals (sortL us)) := by
  obtain ⟨_, h16, hlen, hin, hord⟩ := code_zero hc
  have hl16 : us.length ≤ 16 := by omega
  have r0 := Row.new w 24 [.int .i64 n, .slice a us.length cap]
  have hb0 : Below w.heap.size w (w.alloc (.cells #[.int .i64 n, .slice a us.length cap] 24)) := (Below.refl _ _).alloc (Nat.le_refl _) _
  have hck := Check_any n a cap us n₀ hf _ (hT.below hb0 (by omega)) (hw.below (hb0.mono hn₀)) hg (by simp; omega)
  rw [hc] at hck
  have c00 := r0.cell (i := 0) rfl
  have c01 := r0.cell (i := 1) rfl
  clear hlen hc
  go_enter Tryd.func23, Tryd.ntmps23
  go_wp2_with fail
  refine hck.mono ?_
  rintro e w1 ⟨rfl, hb1⟩
  have q0 := row_below r0 hb1 r0.lt
  have hB1 : Below w.heap.size w w1 := hb0.trans (hb1.mono (by simp))
  have hs1 := hB1.size
  have d00 := q0.cell (i := 0) rfl
  have d01 := q0.cell (i := 1) rfl
  clear hck c00 c01 r0 hb0 hb1
  go_wp2_with fail
  refine (turned_any a cap us n₀ hf hin hl16 w1 (hT.below hB1 (by omega)) (hw.below (hB1.mono hn₀)) hg (by omega)).mono ?_
  rintro e w2 ⟨ds, rfl, hb2, rT, hTur⟩
  have hs2 := hb2.size
  have hB2 : Below w.heap.size w w2 := hB1.trans (hb2.mono hs1)
  have ltT := rT.lt
  have hoth := others_any (some ⟨w1.heap.size, 0, none⟩) us.length ds w2.heap.size hTur.fit (by rw [hTur.len]; exact hl16) w2 (rT.words ltT) (Nat.le_refl _)
  rw [hTur.len] at hoth
  go_wp2_with fail
  refine hoth.mono ?_
  rintro e w3 ⟨rfl, hb3, rC⟩
  have hs3 := hb3.size
  have hB3 : Below w.heap.size w w3 := hB2.trans (hb3.mono (by omega))
  have ltC := rC.lt
  have hel : (othL ds).length = us.length := by rw [othL_len, hTur.len]
  have hso := sorted_any (some ⟨w2.heap.size, 0, none⟩) us.length (othL ds) w3.heap.size (othL_fit hTur.fit) (by rw [hel]; exact hl16) (by rw [hel]; exact acy_congr (ahead_below hTur) (acy_under hord)) w3 (hT.below hB3 (by omega)) (rC.words ltC) (by omega) (Nat.le_refl _)
  rw [hel, ← sortF_congr (ahead_below hTur)] at hso
  clear hoth d00 d01
  go_wp2_with fail
  refine hso.mono ?_
  rintro e w4 ⟨av, cv, rfl, hb4, hown⟩
  go_wp2
  go_ret2
  exact ⟨av, cv, rfl, hB3.trans (hb4.mono (by omega)), ownsRow_base hown (by omega)⟩
end Go.Proofs.YtekpielpfegclabDoor
