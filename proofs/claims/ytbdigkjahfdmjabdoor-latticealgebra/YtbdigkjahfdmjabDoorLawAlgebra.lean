/- The walk of the law LatticeAlgebra: it answers true, and writes nothing that was there. -/
import Derived.Test.YtbdigkjahfdmjabDoorKeepOpen
import Derived.Test.YtbdigkjahfdmjabDoorKeepZ
import Derived.Test.YtbdigkjahfdmjabDoorTurEx
import Derived.Lib.QuietBelow
import Derived.BigQuiet
namespace Go.Proofs.YtbdigkjahfdmjabDoor
open Go.RowKit Go.Shelf

set_option maxRecDepth 100000 in
set_option maxHeartbeats 1000000 in
theorem algebra_err (n : Int) (a : Option Addr) (len cap : Nat) (x y z : Int) (w : World) (ho : ∀ W, Below w.heap.size w W → Calls Tryd.prog 15 #[.agg #[.int .i64 n, .slice a len cap]] W fun e w' => e = .returned (.tuple #[.agg #[.int .i64 n, .slice a len cap, .slice none 0 0, .slice none 0 0, .int .i64 0, .int .i64 0, .bool false], .bool false]) ∧ Below W.heap.size W w') :
    Calls Tryd.prog 5 #[.agg #[.int .i64 n, .slice a len cap], .int .i64 x, .int .i64 y, .int .i64 z] w fun e w' => e = .returned (.bool true) ∧ Below w.heap.size w w' := by
  obtain ⟨r0, hb0, hs0⟩ := one_row w 24 (.int .i64 n) (.slice a len cap) rfl
  have h1 := ho _ hb0
  clear ho
  go_enter Tryd.func5, Tryd.ntmps5
  go_wp2_with (go_at_call 15; refine h1.mono ?_; rintro e w1 ⟨rfl, hb1⟩)
  go_ret
  exact ⟨rfl, (hb0.trans (hb1.mono (by omega))).alloc (by have := hb1.size; omega) _⟩

/-- what is asked of three numbers: that they are elements -/
theorem allIn3 {n : Nat} {x y z : Int} : AllIn n [x, y, z] ↔ (0 ≤ x ∧ x < (n : Int)) ∧ (0 ≤ y ∧ y < (n : Int)) ∧ (0 ≤ z ∧ z < (n : Int)) := by
  constructor
  · intro h
    exact ⟨h 0 (by simp), h 1 (by simp), h 2 (by simp)⟩
  · rintro ⟨h1, h2, h3⟩ i hi
    match i, hi with
    | 0, _ => exact h1
    | 1, _ => exact h2
    | 2, _ => exact h3
theorem zints3 (W : World) (t : TypeId) (x y z : Int) : ZInts (W.heap.size + 1) (W.alloc (.cells #[.int .i64 x, .int .i64 y, .int .i64 z] t)) (some ⟨W.heap.size, 0, none⟩) [x, y, z] := by
  have r := Row.new W t [.int .i64 x, .int .i64 y, .int .i64 z]
  refine .inr ⟨W.heap.size, 0, rfl, by omega, fun i hi => ?_⟩
  match i, hi with
  | 0, _ => exact r.cell (i := 0) rfl
  | 1, _ => exact r.cell (i := 1) rfl
  | 2, _ => exact r.cell (i := 2) rfl

set_option maxRecDepth 100000 in
set_option maxHeartbeats 1000000 in
theorem algebra_out (n : Int) (a : Option Addr) (cap : Nat) (us ds : List Nat) (x y z : Int) (n₀ : Nat) (hf : Fit us) (w : World) (hT : TabAt w) (hw : IsWords n₀ w a us) (hg : 0 < n₀) (hn₀ : n₀ ≤ w.heap.size) (hc : codeOf n us = 0) (hD : Tur us us.length [] ds) (hl : latB us ds = true) (hin : allInB us.length [x, y, z] = false) :
    Calls Tryd.prog 5 #[.agg #[.int .i64 n, .slice a us.length cap], .int .i64 x, .int .i64 y, .int .i64 z] w fun e w' => e = .returned (.bool true) ∧ Below w.heap.size w w' := by
  have en := (code_zero hc).2.2.1.symm
  subst en
  obtain ⟨r0, hb0, hs0⟩ := one_row w 24 (.int .i64 us.length) (.slice a us.length cap) rfl
  have h1 := open_ok us.length a cap us ds n₀ hf _ (hT.below hb0 (by omega)) (hw.below (hb0.mono hn₀)) hg (by simp; omega) hc hD hl
  clear hc hl hD
  generalize us.length * us.length = qq at *
  go_enter Tryd.func5, Tryd.ntmps5
  go_wp2_with (first
    | (go_at_call 15; refine h1.mono ?_; rintro e w1 ⟨aj, cj, am, cm, js, ms, rfl, hb1, i1, i2, n1, n2⟩; generalize gath (at2 ms us.length) 0 us.length = bt at *; generalize gath (at2 js us.length) 0 us.length = tp at *; have hs1 := hb1.size; have q0 := row_below r0 hb1 r0.lt; have lt0 := q0.lt; have j0 := q0.cell (i := 0) rfl; have h2 := kwithin_z us.length (some ⟨w1.heap.size + 1, 0, none⟩) 3 [x, y, z] (w1.heap.size + 1 + 1) (by simp) ((w1.alloc (.cells #[.int .i64 us.length, .slice a us.length cap, .slice aj qq cj, .slice am qq cm, .int .i64 (bt : Nat), .int .i64 (tp : Nat), .bool false] 43)).alloc (.cells #[.int .i64 x, .int .i64 y, .int .i64 z] 3)) (by have := zints3 (w1.alloc (.cells #[.int .i64 us.length, .slice a us.length cap, .slice aj qq cj, .slice am qq cm, .int .i64 (bt : Nat), .int .i64 (tp : Nat), .bool false] 43)) 3 x y z; rw [World.size_alloc] at this; exact this); rw [hin] at h2)
    | (go_at_call 16; refine h2.mono ?_; rintro e w2 ⟨rfl, hww⟩; rw [hww]; clear hww w2))
  go_ret
  exact ⟨rfl, ((hb0.trans (hb1.mono (by omega))).alloc (by omega) _).alloc (by simp; omega) _⟩

/-- the board's or and and, where they are called in whatever order and blocks are made meanwhile -/
theorem bor_re (n : Nat) (a : Option Addr) (cap : Nat) (aj : Option Addr) (cj : Nat) (am : Option Addr) (cm : Nat) (bt tp : Int) (js : List Nat) (wB : World) (hn : n ≤ 16) (hl : js.length = n * n) (hw : IsInts wB.heap.size wB aj js) (W : World) (hW : Below wB.heap.size wB W) (x y r : Nat) (hx : x < n) (hy : y < n) (hr : at2 js n x y = r) (d : Nat) (os : Array Obj) :
    Calls Tryd.prog 17 #[.agg #[.int .i64 n, .slice a n cap, .slice aj (n * n) cj, .slice am (n * n) cm, .int .i64 bt, .int .i64 tp, .bool false], .int .i64 x, .int .i64 y] (Go.Sort.grow (redrawn W d) os) fun e w'' => e = .returned (.int .i64 (r : Nat)) ∧ ∃ p : Regrown, w'' = Go.Sort.grow (redrawn W p.d) p.os := by
  subst hr
  exact Calls.regrown_of (bor_any n a cap aj cj am cm bt tp false js x y wB.heap.size hn hx hy hl (Go.Sort.grow (redrawn W d) os) ((hw.below hW).below ((below_regrown W d os).mono hW.size)) (by have := (below_regrown W d os).size; have := hW.size; omega))
theorem band_re (n : Nat) (a : Option Addr) (cap : Nat) (aj : Option Addr) (cj : Nat) (am : Option Addr) (cm : Nat) (bt tp : Int) (ms : List Nat) (wB : World) (hn : n ≤ 16) (hl : ms.length = n * n) (hw : IsInts wB.heap.size wB am ms) (W : World) (hW : Below wB.heap.size wB W) (x y r : Nat) (hx : x < n) (hy : y < n) (hr : at2 ms n x y = r) (d : Nat) (os : Array Obj) :
    Calls Tryd.prog 18 #[.agg #[.int .i64 n, .slice a n cap, .slice aj (n * n) cj, .slice am (n * n) cm, .int .i64 bt, .int .i64 tp, .bool false], .int .i64 x, .int .i64 y] (Go.Sort.grow (redrawn W d) os) fun e w'' => e = .returned (.int .i64 (r : Nat)) ∧ ∃ p : Regrown, w'' = Go.Sort.grow (redrawn W p.d) p.os := by
  subst hr
  exact Calls.regrown_of (band_any n a cap aj cj am cm bt tp false ms x y wB.heap.size hn hx hy hl (Go.Sort.grow (redrawn W d) os) ((hw.below hW).below ((below_regrown W d os).mono hW.size)) (by have := (below_regrown W d os).size; have := hW.size; omega))

set_option maxRecDepth 100000 in
set_option maxHeartbeats 4000000 in
theorem algebra_in (a : Option Addr) (cap : Nat) (us ds : List Nat) (x y z : Nat) (n₀ : Nat) (hf : Fit us) (w : World) (hT : TabAt w) (hw : IsWords n₀ w a us) (hg : 0 < n₀) (hn₀ : n₀ ≤ w.heap.size) (hc : codeOf us.length us = 0) (hD : Tur us us.length [] ds) (hl : latB us ds = true) (hx : x < us.length) (hy : y < us.length) (hz : z < us.length) :
    Calls Tryd.prog 5 #[.agg #[.int .i64 us.length, .slice a us.length cap], .int .i64 x, .int .i64 y, .int .i64 z] w fun e w' => e = .returned (.bool true) ∧ Below w.heap.size w w' := by
  have hord := (code_zero hc).2.2.2.2
  have hl16 : us.length ≤ 16 := by have := code_zero hc; omega
  have hpos : 0 < us.length := by omega
  obtain ⟨r0, hb0, hs0⟩ := one_row w 24 (.int .i64 us.length) (.slice a us.length cap) rfl
  have h1 := open_ok us.length a cap us ds n₀ hf _ (hT.below hb0 (by omega)) (hw.below (hb0.mono hn₀)) hg (by simp; omega) hc hD hl
  have hin : allInB us.length [(x : Int), (y : Int), (z : Int)] = true := allInB_true.2 (allIn3.2 ⟨by omega, by omega, by omega⟩)
  have hL : ∀ js ms, NearTo us js (us.length * us.length) → NearTo ds ms (us.length * us.length) → Lat us.length (leW us) (at2 js us.length) (at2 ms us.length) (gath (at2 ms us.length) 0 us.length) (gath (at2 js us.length) 0 us.length) := fun js ms h1 h2 => lat_pre hord hD h1 h2 hpos
  clear hc hl hD hord
  go_enter Tryd.func5, Tryd.ntmps5
  go_wp2_with (first
    | (go_at_call 15; refine h1.mono ?_; rintro e w1 ⟨aj, cj, am, cm, js, ms, rfl, hb1, i1, i2, n1, n2⟩; have L := hL js ms n1 n2; have HL := hide L; have hlj := n1.len; have hlm := n2.len; clear hL L n1 n2; generalize gath (at2 ms us.length) 0 us.length = bt at *; generalize gath (at2 js us.length) 0 us.length = tp at *; have hs1 := hb1.size; have q0 := row_below r0 hb1 r0.lt; have lt0 := q0.lt; have j0 := q0.cell (i := 0) rfl; have h2 := kwithin_z us.length (some ⟨w1.heap.size + 1, 0, none⟩) 3 [(x : Int), (y : Int), (z : Int)] (w1.heap.size + 1 + 1) (by simp) ((w1.alloc (.cells #[.int .i64 us.length, .slice a us.length cap, .slice aj (us.length * us.length) cj, .slice am (us.length * us.length) cm, .int .i64 (bt : Nat), .int .i64 (tp : Nat), .bool false] 43)).alloc (.cells #[.int .i64 x, .int .i64 y, .int .i64 z] 3)) (by have := zints3 (w1.alloc (.cells #[.int .i64 us.length, .slice a us.length cap, .slice aj (us.length * us.length) cj, .slice am (us.length * us.length) cm, .int .i64 (bt : Nat), .int .i64 (tp : Nat), .bool false] 43)) 3 x y z; rw [World.size_alloc] at this; exact this); rw [hin] at h2)
    | (go_at_call 16; refine h2.mono ?_; rintro e w2 ⟨rfl, hww⟩; rw [hww]; clear hww w2))
  obtain ⟨wB, hwB⟩ : ∃ wB, wB = ((w1.alloc (.cells #[.int .i64 us.length, .slice a us.length cap, .slice aj (us.length * us.length) cj, .slice am (us.length * us.length) cm, .int .i64 (bt : Nat), .int .i64 (tp : Nat), .bool false] 43)).alloc (.cells #[.int .i64 x, .int .i64 y, .int .i64 z] 3)) := ⟨_, rfl⟩
  rw [← hwB]
  obtain ⟨rB, rX, hbB, hsB⟩ := rows_two w1 43 3 [.int .i64 us.length, .slice a us.length cap, .slice aj (us.length * us.length) cj, .slice am (us.length * us.length) cm, .int .i64 (bt : Nat), .int .i64 (tp : Nat), .bool false] [.int .i64 x, .int .i64 y, .int .i64 z] hwB.symm
  have hBw : Below w.heap.size w wB := (hb0.trans (hb1.mono (by omega))).trans (hbB.mono (by omega))
  have I1 := (i1.below hbB).mono (show w1.heap.size ≤ wB.heap.size by omega)
  have I2 := (i2.below hbB).mono (show w1.heap.size ≤ wB.heap.size by omega)
  have cor := bor_re us.length a cap aj cj am cm (bt : Nat) (tp : Nat) js wB hl16 hlj I1
  have cand := band_re us.length a cap aj cj am cm (bt : Nat) (tp : Nat) ms wB hl16 hlm I2
  have L := HL.out
  have hJ := L.jlt hx hy
  have hM := L.mlt hx hy
  have hP := L.jlt hy hz
  have hR := L.mlt hy hz
  obtain ⟨J, eJ⟩ : ∃ r, at2 js us.length x y = r := ⟨_, rfl⟩
  obtain ⟨M, eM⟩ : ∃ r, at2 ms us.length x y = r := ⟨_, rfl⟩
  obtain ⟨P, eP⟩ : ∃ r, at2 js us.length y z = r := ⟨_, rfl⟩
  obtain ⟨R, eR⟩ : ∃ r, at2 ms us.length y z = r := ⟨_, rfl⟩
  obtain ⟨Q, eQ⟩ : ∃ r, at2 js us.length x P = r := ⟨_, rfl⟩
  obtain ⟨S, eS⟩ : ∃ r, at2 ms us.length x R = r := ⟨_, rfl⟩
  have f1 := L.jcomm hx hy
  have f2 := L.mcomm hx hy
  have f5 := L.jassoc hx hy hz
  have f6 := L.massoc hx hy hz
  have f7 := L.jabs hx hy
  have f8 := L.mabs hx hy
  rw [eJ] at hJ f1 f5 f8
  rw [eM] at hM f2 f6 f7
  rw [eP] at hP f5
  rw [eR] at hR f6
  rw [eQ] at f5
  rw [eS] at f6
  have e1 := hide f1.symm
  have e2 := hide f2.symm
  have e3 := hide (L.jidem hx)
  have e4 := hide (L.midem hx)
  have e5 := hide f5.symm
  have e6 := hide f6.symm
  have e7 := hide f7
  have e8 := hide f8
  have EJ := hide eJ
  have EM := hide eM
  have EP := hide eP
  have ER := hide eR
  have EQ := hide eQ
  have ES := hide eS
  clear f1 f2 f5 f6 f7 f8 eJ eM eP eR eQ eS
  clear hwB hb1 hbB i1 i2 hs1 q0 lt0 j0 h2 h1 r0 hb0 hs0 rX hin HL L
  have rBB := rB
  have b0 := cell_regrown (rB.cell (i := 0) rfl)
  have b1 := cell_regrown (rB.cell (i := 1) rfl)
  have b2 := cell_regrown (rB.cell (i := 2) rfl)
  have b3 := cell_regrown (rB.cell (i := 3) rfl)
  have b4 := cell_regrown (rB.cell (i := 4) rfl)
  have b5 := cell_regrown (rB.cell (i := 5) rfl)
  have b6 := cell_regrown (rB.cell (i := 6) rfl)
  have c1 := cor wB (Below.refl _ _) x y J hx hy EJ.out
  have c2 := cor wB (Below.refl _ _) y x J hy hx e1.out
  have c3 := cand wB (Below.refl _ _) x y M hx hy EM.out
  have c4 := cand wB (Below.refl _ _) y x M hy hx e2.out
  have c5 := cor wB (Below.refl _ _) x x x hx hx e3.out
  have c6 := cand wB (Below.refl _ _) x x x hx hx e4.out
  go_wp2
  refine wp_region_quiet_below (by kernel_rfl) (by kernel_rfl) ?_
  repeat (go_big_quiet_step (first | with_reducible exact c1 _ _ | with_reducible exact c2 _ _ | with_reducible exact c3 _ _ | with_reducible exact c4 _ _ | with_reducible exact c5 _ _ | with_reducible exact c6 _ _))
  refine wpQuiet_nil ?_
  intro _ hw'
  obtain ⟨⟨dq, osq⟩, hw''⟩ := hw'
  subst hw''
  obtain ⟨W1, hEW1⟩ : ∃ X, X = Go.Sort.grow (redrawn wB dq) osq := ⟨_, rfl⟩
  have hW1 : Below wB.heap.size wB W1 := by rw [hEW1]; exact below_regrown _ _ _
  rw [← hEW1]
  have rB := row_below rBB hW1 rBB.lt
  clear hEW1 b0 b1 b2 b3 b4 b5 b6 c1 c2 c3 c4 c5 c6
  have b0 := cell_regrown (rB.cell (i := 0) rfl)
  have b1 := cell_regrown (rB.cell (i := 1) rfl)
  have b2 := cell_regrown (rB.cell (i := 2) rfl)
  have b3 := cell_regrown (rB.cell (i := 3) rfl)
  have b4 := cell_regrown (rB.cell (i := 4) rfl)
  have b5 := cell_regrown (rB.cell (i := 5) rfl)
  have b6 := cell_regrown (rB.cell (i := 6) rfl)
  have c1 := cor W1 hW1 y z P hy hz EP.out
  have c2 := cor W1 hW1 x P Q hx hP EQ.out
  have c3 := cor W1 hW1 x y J hx hy EJ.out
  have c4 := cor W1 hW1 J z Q hJ hz e5.out
  have c5 := cand W1 hW1 y z R hy hz ER.out
  have c6 := cand W1 hW1 x R S hx hR ES.out
  have c7 := cand W1 hW1 x y M hx hy EM.out
  have c8 := cand W1 hW1 M z S hM hz e6.out
  go_wp2
  refine wp_region_quiet_below (by kernel_rfl) (by kernel_rfl) ?_
  repeat (go_big_quiet_step (first | with_reducible exact c1 _ _ | with_reducible exact c2 _ _ | with_reducible exact c3 _ _ | with_reducible exact c4 _ _ | with_reducible exact c5 _ _ | with_reducible exact c6 _ _ | with_reducible exact c7 _ _ | with_reducible exact c8 _ _))
  refine wpQuiet_nil ?_
  intro _ hw'
  obtain ⟨⟨dq, osq⟩, hw''⟩ := hw'
  subst hw''
  obtain ⟨W2, hEW2⟩ : ∃ X, X = Go.Sort.grow (redrawn W1 dq) osq := ⟨_, rfl⟩
  have hW2 : Below wB.heap.size wB W2 := by rw [hEW2]; exact hW1.trans ((below_regrown _ _ _).mono hW1.size)
  rw [← hEW2]
  have rB2 := row_below rBB hW2 rBB.lt
  clear hEW2 b0 b1 b2 b3 b4 b5 b6 c1 c2 c3 c4 c5 c6 c7 c8 rB
  have b0 := cell_regrown (rB2.cell (i := 0) rfl)
  have b1 := cell_regrown (rB2.cell (i := 1) rfl)
  have b2 := cell_regrown (rB2.cell (i := 2) rfl)
  have b3 := cell_regrown (rB2.cell (i := 3) rfl)
  have b4 := cell_regrown (rB2.cell (i := 4) rfl)
  have b5 := cell_regrown (rB2.cell (i := 5) rfl)
  have b6 := cell_regrown (rB2.cell (i := 6) rfl)
  have c1 := cand W2 hW2 x y M hx hy EM.out
  have c2 := cor W2 hW2 x M x hx hM e7.out
  have c3 := cor W2 hW2 x y J hx hy EJ.out
  have c4 := cand W2 hW2 x J x hx hJ e8.out
  go_wp2
  refine wp_region_quiet_below (by kernel_rfl) (by kernel_rfl) ?_
  repeat (go_big_quiet_step (first | with_reducible exact c1 _ _ | with_reducible exact c2 _ _ | with_reducible exact c3 _ _ | with_reducible exact c4 _ _))
  refine wpQuiet_nil ?_
  intro _ hw'
  obtain ⟨⟨dq, osq⟩, hw''⟩ := hw'
  subst hw''
  go_wp2
  go_ret
  exact ⟨rfl, (hBw.trans (hW2.mono hBw.size)).trans ((below_regrown _ _ _).mono (by have := hW2.size; have := hBw.size; omega))⟩

/-- **LatticeAlgebra answers true, for every order and any three numbers, and writes nothing that was there** -/
theorem algebra_any (n : Int) (a : Option Addr) (cap : Nat) (us : List Nat) (x y z : Int) (n₀ : Nat) (hf : Fit us) (w : World) (hT : TabAt w) (hw : IsWords n₀ w a us) (hg : 0 < n₀) (hn₀ : n₀ ≤ w.heap.size) :
    Calls Tryd.prog 5 #[.agg #[.int .i64 n, .slice a us.length cap], .int .i64 x, .int .i64 y, .int .i64 z] w fun e w' => e = .returned (.bool true) ∧ Below w.heap.size w w' := by
  by_cases hc : codeOf n us = 0
  · obtain ⟨ds, hD⟩ := tur_ex hf (by have := code_zero hc; omega)
    cases hl : latB us ds with
    | true =>
      cases hin : allInB us.length [x, y, z] with
      | false => exact algebra_out n a cap us ds x y z n₀ hf w hT hw hg hn₀ hc hD hl hin
      | true =>
        obtain ⟨h1, h2, h3⟩ := allIn3.1 (allInB_true.1 hin)
        obtain ⟨x', rfl⟩ : ∃ x' : Nat, x = (x' : Int) := ⟨x.toNat, by omega⟩
        obtain ⟨y', rfl⟩ : ∃ y' : Nat, y = (y' : Int) := ⟨y.toNat, by omega⟩
        obtain ⟨z', rfl⟩ : ∃ z' : Nat, z = (z' : Int) := ⟨z.toNat, by omega⟩
        have en := (code_zero hc).2.2.1.symm
        subst en
        exact algebra_in a cap us ds x' y' z' n₀ hf w hT hw hg hn₀ hc hD hl (by omega) (by omega) (by omega)
    | false => exact algebra_err n a us.length cap x y z w fun W hW => open_err n a us.length cap 5 (by decide) W fun X hX hs => Make_none n a cap us ds n₀ hf X ((hT.below hW (by omega)).below hX (by have := hW.size; omega)) ((hw.below (hW.mono hn₀)).below (hX.mono (by have := hW.size; omega))) hg (by have := hW.size; omega) hc hD hl
  · exact algebra_err n a us.length cap x y z w fun W hW => open_err n a us.length cap _ hc W fun X hX hs => Make_bad n a cap us n₀ hf X ((hT.below hW (by omega)).below hX (by have := hW.size; omega)) ((hw.below (hW.mono hn₀)).below (hX.mono (by have := hW.size; omega))) hg (by have := hW.size; omega) hc
end Go.Proofs.YtbdigkjahfdmjabDoor
