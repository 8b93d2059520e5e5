/- The contract of the document's LatticeMake: what is wrong, that it is no lattice, or its tables and ends. -/
import Derived.Test.YteoikfchmjnlfaaDoorRefJoin
import Derived.Test.YteoikfchmjnlfaaDoorRefDual
import Derived.Test.YteoikfchmjnlfaaDoorLatErr
import Derived.Test.YteoikfchmjnlfaaDoorDualPlain
import Derived.Maps.AppendAt
namespace Go.Proofs.YteoikfchmjnlfaaDoor
open Go.RowKit Go.Shelf

theorem join_is (a : Option Addr) (cap : Nat) (us : List Nat) (x y z n₀ : Nat) (hf : Fit us) (hin : Inside us) (ho : IsOrd us) (hl : us.length ≤ 16) (hx : x < us.length) (hy : y < us.length) (hz : z < us.length) (he : wd us z = andW (wd us x) (wd us y)) (w : World) (hw : IsWords n₀ w a us) (hn₀ : n₀ ≤ w.heap.size) :
    Calls Tryd.prog 35 #[.agg #[.int .i64 us.length, .slice a us.length cap], .int .i64 x, .int .i64 y] w fun e w' => e = .returned (.int .i64 (z : Nat)) ∧ Below w.heap.size w w' :=
  (join_any a cap us x y n₀ hf hl hx hy w hw hn₀).mono (by
    rintro e w' ⟨r, rfl, hb, ⟨rfl, hno⟩ | ⟨z', hz', rfl, hj⟩⟩
    · exact absurd ((joinAt_iff hf hin ho hx hy hz).2 he) (hno z hz)
    · have := (joinAt_iff hf hin ho hx hy hz').1 hj
      obtain rfl := ord_inj ho hz' hz (this.trans he.symm)
      exact ⟨rfl, hb⟩)
theorem join_no (a : Option Addr) (cap : Nat) (us : List Nat) (x y n₀ : Nat) (hf : Fit us) (hin : Inside us) (ho : IsOrd us) (hl : us.length ≤ 16) (hx : x < us.length) (hy : y < us.length) (hno : ∀ z, z < us.length → wd us z ≠ andW (wd us x) (wd us y)) (w : World) (hw : IsWords n₀ w a us) (hn₀ : n₀ ≤ w.heap.size) :
    Calls Tryd.prog 35 #[.agg #[.int .i64 us.length, .slice a us.length cap], .int .i64 x, .int .i64 y] w fun e w' => e = .returned (.int .i64 (-1)) ∧ Below w.heap.size w w' :=
  (join_any a cap us x y n₀ hf hl hx hy w hw hn₀).mono (by
    rintro e w' ⟨r, rfl, hb, ⟨rfl, _⟩ | ⟨z', hz', rfl, hj⟩⟩
    · exact ⟨rfl, hb⟩
    · exact absurd ((joinAt_iff hf hin ho hx hy hz').1 hj) (hno z' hz'))

set_option maxRecDepth 100000 in
set_option maxHeartbeats 1000000 in
theorem RefMake_bad (n : Int) (a : Option Addr) (cap : Nat) (us : List Nat) (n₀ : Nat) (hf : Fit us) (w : World) (hw : IsWords n₀ w a us) (hn₀ : n₀ ≤ w.heap.size) (hc : codeOf n us ≠ 0) :
    Calls Tryd.prog 11 #[.agg #[.int .i64 n, .slice a us.length cap]] w fun e w' => e = latErr (codeOf n us) ∧ Below w.heap.size w w' := by
  obtain ⟨r0, r1, hb0, hs0⟩ := rows24 w 24 30 (.int .i64 n) (.slice a us.length cap) (.slice none 0 0) (.slice none 0 0) (.int .i64 0) (.int .i64 0) rfl
  have hck := OrderCheck_any n a cap us n₀ hf _ (hw.below (hb0.mono hn₀)) (by omega)
  generalize codeOf n us = c at *
  have hne : (c != 0) = true := by rw [bne_iff_ne]; exact hc
  have Hb := hide hb0
  clear hb0 hc hs0
  go_enter Tryd.func11, Tryd.ntmps11
  go_wp2_with (go_at_call 33; refine hck.mono ?_; rintro e w1 ⟨rfl, hb1⟩; have q1 := row_below r1 hb1 r1.lt; have hlt1 := q1.lt; have k0 := q1.cell (i := 0) rfl; have k1 := q1.cell (i := 1) rfl; have k2 := q1.cell (i := 2) rfl; have k3 := q1.cell (i := 3) rfl; have f0 := q1.frozen 0; have f1 := q1.frozen 1; have f2 := q1.frozen 2; have f3 := q1.frozen 3)
  have q2 := row_set4 q1 (.slice none 0 0) (.slice none 0 0) (.int .i64 0) (.int .i64 0)
  have e0 := q2.cell (i := 0) rfl
  have e1 := q2.cell (i := 1) rfl
  have e2 := q2.cell (i := 2) rfl
  have e3 := q2.cell (i := 3) rfl
  refine bodyPost_ret (v := .tuple #[.agg #[.slice none 0 0, .slice none 0 0, .int .i64 0, .int .i64 0], .int .i64 c]) (by simp [results, Tryd.results11, go_sem, e0, e1, e2, e3]) rfl ⟨rfl, ?_⟩
  exact below_set4 (Hb.out.trans (hb1.mono (by simp; omega))) (by simp) _ _ _ _
set_option maxRecDepth 100000 in
set_option maxHeartbeats 1000000 in
theorem RefMake_zero (n : Int) (a : Option Addr) (cap : Nat) (us : List Nat) (n₀ : Nat) (hf : Fit us) (w : World) (hw : IsWords n₀ w a us) (hn₀ : n₀ ≤ w.heap.size) (hc : codeOf n us = 0) (hz : (n == 0) = true) :
    Calls Tryd.prog 11 #[.agg #[.int .i64 n, .slice a us.length cap]] w fun e w' => e = latErr 5 ∧ Below w.heap.size w w' := by
  obtain ⟨r0, r1, hb0, hs0⟩ := rows24 w 24 30 (.int .i64 n) (.slice a us.length cap) (.slice none 0 0) (.slice none 0 0) (.int .i64 0) (.int .i64 0) rfl
  have hck := OrderCheck_any n a cap us n₀ hf _ (hw.below (hb0.mono hn₀)) (by omega)
  rw [hc] at hck
  have Hb := hide hb0
  clear hb0 hc hs0
  go_enter Tryd.func11, Tryd.ntmps11
  go_wp2_with (go_at_call 33; refine hck.mono ?_; rintro e w1 ⟨rfl, hb1⟩; have q0 := row_below r0 hb1 r0.lt; have j0 := q0.cell (i := 0) rfl; have q1 := row_below r1 hb1 r1.lt; have hlt1 := q1.lt; have k0 := q1.cell (i := 0) rfl; have k1 := q1.cell (i := 1) rfl; have k2 := q1.cell (i := 2) rfl; have k3 := q1.cell (i := 3) rfl; have f0 := q1.frozen 0; have f1 := q1.frozen 1; have f2 := q1.frozen 2; have f3 := q1.frozen 3)
  have q2 := row_set4 q1 (.slice none 0 0) (.slice none 0 0) (.int .i64 0) (.int .i64 0)
  have e0 := q2.cell (i := 0) rfl
  have e1 := q2.cell (i := 1) rfl
  have e2 := q2.cell (i := 2) rfl
  have e3 := q2.cell (i := 3) rfl
  refine bodyPost_ret (v := .tuple #[.agg #[.slice none 0 0, .slice none 0 0, .int .i64 0, .int .i64 0], .int .i64 5]) (by simp [results, Tryd.results11, go_sem, e0, e1, e2, e3]) rfl ⟨rfl, ?_⟩
  exact below_set4 (Hb.out.trans (hb1.mono (by simp; omega))) (by simp) _ _ _ _
end Go.Proofs.YteoikfchmjnlfaaDoor
