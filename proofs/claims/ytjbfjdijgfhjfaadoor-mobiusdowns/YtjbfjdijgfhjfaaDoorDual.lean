/- The contract of the program's Dual: what is wrong, or the order upside down. -/
import Derived.Test.YtjbfjdijgfhjfaaDoorCheck
import Derived.Test.YtjbfjdijgfhjfaaDoorTurned
import Derived.Test.YtjbfjdijgfhjfaaDoorOwns
import Derived.Deep.RegionWith
namespace Go.Proofs.YtjbfjdijgfhjfaaDoor
open Go.RowKit Go.Shelf

set_option maxRecDepth 100000 in
set_option maxHeartbeats 1000000 in
theorem Dual_bad (n : Int) (a : Option Addr) (cap : Nat) (us : List Nat) (n₀ : Nat) (hf : Fit us) (w : World) (hT : TabAt w) (hw : IsWords n₀ w a us) (hg : 0 < n₀) (hn₀ : n₀ ≤ w.heap.size) (hc : codeOf n us ≠ 0) :
    Calls Tryd.prog 43 #[.agg #[.int .i64 n, .slice a us.length cap]] w fun e w' => e = .returned (.tuple #[.agg #[.int .i64 0, .slice none 0 0], .int .i64 (codeOf n us)]) ∧ Below w.heap.size w w' := by
  obtain ⟨r0, r1, hb0, hs0⟩ := two_rows w 24 (.int .i64 n) (.slice a us.length cap) (.int .i64 0) (.slice none 0 0) rfl
  have hck := Check_any n a cap us n₀ hf _ (hT.below hb0 (by omega)) (hw.below (hb0.mono hn₀)) hg (by omega)
  generalize codeOf n us = c at *
  have hne : (c != 0) = true := by rw [bne_iff_ne]; exact hc
  have Hb := hide hb0
  clear hb0 hc hs0
  go_enter Tryd.func43, Tryd.ntmps43
  go_wp2_with (go_at_call 21; refine hck.mono ?_; rintro e w1 ⟨rfl, hb1⟩; have q1 := row_below r1 hb1 r1.lt; have k0 := q1.cell (i := 0) rfl; have k1 := q1.cell (i := 1) rfl; have f0 := q1.frozen 0; have f1 := q1.frozen 1)
  have q2 := (q1.set 0 (.int .i64 0)).set 1 (.slice none 0 0)
  have e0 := q2.cell (i := 0) (v := .int .i64 0) rfl
  have e1 := q2.cell (i := 1) (v := .slice none 0 0) rfl
  refine bodyPost_ret (v := .tuple #[.agg #[.int .i64 0, .slice none 0 0], .int .i64 c]) (by simp [results, Tryd.results43, go_sem, e0, e1]) rfl ⟨rfl, ?_⟩
  exact ((Hb.out.trans (hb1.mono (by simp; omega))).setCell (p := ⟨w.heap.size + 1, 0, none⟩) (by simp) _).setCell (p := ⟨w.heap.size + 1, 1, none⟩) (by simp) _

set_option maxRecDepth 100000 in
set_option maxHeartbeats 1000000 in
theorem Dual_ok (n : Int) (a : Option Addr) (cap : Nat) (us : List Nat) (n₀ : Nat) (hf : Fit us) (w : World) (hT : TabAt w) (hw : IsWords n₀ w a us) (hg : 0 < n₀) (hn₀ : n₀ ≤ w.heap.size) (hc : codeOf n us = 0) :
    Calls Tryd.prog 43 #[.agg #[.int .i64 n, .slice a us.length cap]] w fun e w' => ∃ g ds, e = .returned (.tuple #[.agg #[.int .i64 n, .slice (some ⟨g, 0, none⟩) us.length us.length], .int .i64 0]) ∧ Below w.heap.size w w' ∧ w.heap.size ≤ g ∧ Row w' g 50 (wvals ds) ∧ Tur us us.length [] ds := by
  obtain ⟨h0, h16, hlen, hin, hord⟩ := code_zero hc
  obtain ⟨r0, r1, hb0, hs0⟩ := two_rows w 24 (.int .i64 n) (.slice a us.length cap) (.int .i64 0) (.slice none 0 0) rfl
  have hck := Check_any n a cap us n₀ hf _ (hT.below hb0 (by omega)) (hw.below (hb0.mono hn₀)) hg (by omega)
  rw [hc] at hck
  have hT1 := hT.below hb0 (by omega)
  have hw1 := hw.below (hb0.mono hn₀)
  have hl16 : us.length ≤ 16 := by omega
  have Hb := hide hb0
  clear hb0 hc hlen hord h0
  go_enter Tryd.func43, Tryd.ntmps43
  go_wp2_with (go_at_call 21; refine hck.mono ?_; rintro e w1 ⟨rfl, hb1⟩; have q0 := row_below r0 hb1 r0.lt; have q1 := row_below r1 hb1 r1.lt; have j0 := q0.cell (i := 0) rfl; have j1 := q0.cell (i := 1) rfl; have k0 := q1.cell (i := 0) rfl; have k1 := q1.cell (i := 1) rfl; have f0 := q1.frozen 0; have f1 := q1.frozen 1)
  have hs1 := hb1.size
  have hTa : TabAt w1 := hT1.below hb1 (by omega)
  have hwa : IsWords n₀ w1 a us := hw1.below (hb1.mono (by omega))
  have htd := turned_any a cap us n₀ hf hin hl16 w1.drew (show TabAt w1.drew from hTa) (show IsWords n₀ w1.drew a us from hwa) hg (show n₀ ≤ w1.heap.size by omega)
  have hmx : Tryd.prog.follows .mixedOrders = true := by kernel_rfl
  have d0 : Row w1.drew w.heap.size 24 [.int .i64 n, .slice a us.length cap] := q0
  have d1 : Row w1.drew (w.heap.size + 1) 24 [.int .i64 0, .slice none 0 0] := q1
  have ht0 := q0.lt
  have ht1 := q1.lt
  first | go_region_with (go_at_call 23; refine htd.mono ?_; rintro e w2 ⟨ds, rfl, hb2, rD, hTur⟩; have p0 := row_below d0 hb2 ht0; have p1 := row_below d1 hb2 ht1; have m0 := p0.cell (i := 0) rfl; have m1 := p0.cell (i := 1) rfl; have l0 := p1.cell (i := 0) rfl; have l1 := p1.cell (i := 1) rfl; have g0 := p1.frozen 0; have g1 := p1.frozen 1) | fail
  all_goals
    go_wp2
    have q2 := (p1.set 0 (.int .i64 n)).set 1 (.slice (some ⟨w1.heap.size, 0, none⟩) us.length us.length)
    have e0 := q2.cell (i := 0) (v := .int .i64 n) rfl
    have e1 := q2.cell (i := 1) (v := .slice (some ⟨w1.heap.size, 0, none⟩) us.length us.length) rfl
    have hbd : Below w.heap.size w w2 := ((Hb.out.trans (hb1.mono (by omega))).drew).trans (hb2.mono (show w.heap.size ≤ w1.heap.size by omega))
    refine bodyPost_ret (v := .tuple #[.agg #[.int .i64 n, .slice (some ⟨w1.heap.size, 0, none⟩) us.length us.length], .int .i64 0]) (by simp [results, Tryd.results43, go_sem, e0, e1]) rfl ⟨w1.heap.size, ds, rfl, ?_, by omega, ?_, hTur⟩
    · exact (hbd.setCell (p := ⟨w.heap.size + 1, 0, none⟩) (by simp) _).setCell (p := ⟨w.heap.size + 1, 1, none⟩) (by simp) _
    · exact ((show Row w2 w1.heap.size _ _ from rD).other (by omega) _ _).other (by omega) _ _
end Go.Proofs.YtjbfjdijgfhjfaaDoor
