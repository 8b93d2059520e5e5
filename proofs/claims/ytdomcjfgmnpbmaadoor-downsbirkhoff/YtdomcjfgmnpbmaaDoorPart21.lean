/- Structs of four cells in new blocks; the answer where there is no lattice. The contracts of a table's Below, distributes, modulates. -/
import Derived.Test.YtdomcjfgmnpbmaaDoorPart9
import Derived.Test.YtdomcjfgmnpbmaaDoorPart11
import Derived.Test.YtdomcjfgmnpbmaaDoorPart20
import Derived.Lib.QuietBelow
import Derived.BigQuiet
import Derived.Laws.Entries
namespace Go.Proofs.YtdomcjfgmnpbmaaDoor
open Go.RowKit Go.Shelf

/-- two structs lie in new blocks -/
theorem rows_two (w : World) (t s : TypeId) (l1 l2 : List Value) {W : World} (h : (w.alloc (.cells l1.toArray t)).alloc (.cells l2.toArray s) = W) :
    Row W w.heap.size t l1 ∧ Row W (w.heap.size + 1) s l2 ∧ Below w.heap.size w W ∧ W.heap.size = w.heap.size + 2 := by
  subst h
  have r0 := Row.new w t l1
  have r1 := Row.new (w.alloc (.cells l1.toArray t)) s l2
  rw [World.size_alloc] at r1
  exact ⟨r0.alloc _, r1, ((Below.refl _ _).alloc (Nat.le_refl _) _).alloc (by simp) _, by simp⟩
/-- a struct of two cells and one of four lie in new blocks -/
theorem rows24 (w : World) (t s : TypeId) (p0 p1 q0 q1 q2 q3 : Value) {W : World} (h : (w.alloc (.cells #[p0, p1] t)).alloc (.cells #[q0, q1, q2, q3] s) = W) :
    Row W w.heap.size t [p0, p1] ∧ Row W (w.heap.size + 1) s [q0, q1, q2, q3] ∧ Below w.heap.size w W ∧ W.heap.size = w.heap.size + 2 := by
  subst h
  have r0 := Row.new w t [p0, p1]
  have r1 := Row.new (w.alloc (.cells #[p0, p1] t)) s [q0, q1, q2, q3]
  rw [World.size_alloc] at r1
  exact ⟨r0.alloc _, r1, ((Below.refl _ _).alloc (Nat.le_refl _) _).alloc (by simp) _, by simp⟩
theorem row_set4 {W : World} {B : Nat} {t : TypeId} {p0 p1 p2 p3 : Value} (h : Row W B t [p0, p1, p2, p3]) (v0 v1 v2 v3 : Value) :
    Row ((((W.setCell ⟨B, 0, none⟩ v0).setCell ⟨B, 1, none⟩ v1).setCell ⟨B, 2, none⟩ v2).setCell ⟨B, 3, none⟩ v3) B t [v0, v1, v2, v3] :=
  (((h.set 0 v0).set 1 v1).set 2 v2).set 3 v3
theorem below_set4 {n B : Nat} {w W : World} (h : Below n w W) (hB : n ≤ B) (v0 v1 v2 v3 : Value) :
    Below n w ((((W.setCell ⟨B, 0, none⟩ v0).setCell ⟨B, 1, none⟩ v1).setCell ⟨B, 2, none⟩ v2).setCell ⟨B, 3, none⟩ v3) :=
  (((h.setCell (p := ⟨B, 0, none⟩) hB _).setCell (p := ⟨B, 1, none⟩) hB _).setCell (p := ⟨B, 2, none⟩) hB _).setCell (p := ⟨B, 3, none⟩) hB _
theorem own_set4 {W : World} {base : Nat} {e : TypeId} {size : Nat} {v : Value} {k : Nat} {xs : List Value} (h : W.ownsRow base e size v k xs) {b : Nat} (hb : b < base) (v0 v1 v2 v3 : Value) :
    ((((W.setCell ⟨b, 0, none⟩ v0).setCell ⟨b, 1, none⟩ v1).setCell ⟨b, 2, none⟩ v2).setCell ⟨b, 3, none⟩ v3).ownsRow base e size v k xs :=
  ownsRow_setAt (ownsRow_setAt (ownsRow_setAt (ownsRow_setAt h hb _ _) hb _ _) hb _ _) hb _ _

/-- the answer where there is no lattice -/
def latErr (c : Int) : Ending := .returned (.tuple #[.agg #[.slice none 0 0, .slice none 0 0, .int .i64 0, .int .i64 0], .int .i64 c])
end Go.Proofs.YtdomcjfgmnpbmaaDoor

namespace Go.Proofs.YtdomcjfgmnpbmaaDoor
open Go.RowKit Go.Shelf

/-- the table's join and meet, where they are called in whatever order -/
theorem tjoin_re (n : Nat) (a : Option Addr) (cap : Nat) (aj : Option Addr) (cj : Nat) (am : Option Addr) (cm : Nat) (bt tp : Int) (js : List Nat) (n₀ : Nat) (hn : n ≤ 16) (hl : js.length = n * n) (W : World) (hw : IsInts n₀ W aj js) (hn₀ : n₀ ≤ W.heap.size) (x y r : Nat) (hx : x < n) (hy : y < n) (hr : at2 js n x y = r) (d : Nat) (os : Array Obj) :
    Calls Tryd.prog 60 #[.agg #[.int .i64 n, .slice a n cap, .slice aj (n * n) cj, .slice am (n * n) cm, .int .i64 bt, .int .i64 tp], .int .i64 x, .int .i64 y] (Go.Sort.grow (redrawn W d) os) fun e w'' => e = .returned (.int .i64 (r : Nat)) ∧ ∃ p : Regrown, w'' = Go.Sort.grow (redrawn W p.d) p.os := by
  subst hr
  exact Calls.regrown_of (tjoin_any n a cap aj cj am cm bt tp js x y n₀ hn hx hy hl (Go.Sort.grow (redrawn W d) os) (hw.below ((below_regrown W d os).mono hn₀)) (by have := (below_regrown W d os).size; omega))
theorem tmeet_re (n : Nat) (a : Option Addr) (cap : Nat) (aj : Option Addr) (cj : Nat) (am : Option Addr) (cm : Nat) (bt tp : Int) (ms : List Nat) (n₀ : Nat) (hn : n ≤ 16) (hl : ms.length = n * n) (W : World) (hw : IsInts n₀ W am ms) (hn₀ : n₀ ≤ W.heap.size) (x y r : Nat) (hx : x < n) (hy : y < n) (hr : at2 ms n x y = r) (d : Nat) (os : Array Obj) :
    Calls Tryd.prog 61 #[.agg #[.int .i64 n, .slice a n cap, .slice aj (n * n) cj, .slice am (n * n) cm, .int .i64 bt, .int .i64 tp], .int .i64 x, .int .i64 y] (Go.Sort.grow (redrawn W d) os) fun e w'' => e = .returned (.int .i64 (r : Nat)) ∧ ∃ p : Regrown, w'' = Go.Sort.grow (redrawn W p.d) p.os := by
  subst hr
  exact Calls.regrown_of (tmeet_any n a cap aj cj am cm bt tp ms x y n₀ hn hx hy hl (Go.Sort.grow (redrawn W d) os) (hw.below ((below_regrown W d os).mono hn₀)) (by have := (below_regrown W d os).size; omega))

set_option maxRecDepth 100000 in
set_option maxHeartbeats 1000000 in
theorem tBelow_any (n : Nat) (a : Option Addr) (cap : Nat) (aj : Option Addr) (cj : Nat) (am : Option Addr) (cm : Nat) (bt tp : Int) (js : List Nat) (x y n₀ : Nat) (hn : n ≤ 16) (hx : x < n) (hy : y < n) (hl : js.length = n * n) (w : World) (hw : IsInts n₀ w aj js) (hn₀ : n₀ ≤ w.heap.size) :
    Calls Tryd.prog 64 #[.agg #[.int .i64 n, .slice a n cap, .slice aj (n * n) cj, .slice am (n * n) cm, .int .i64 bt, .int .i64 tp], .int .i64 x, .int .i64 y] w fun e w' => e = .returned (.bool (decide (at2 js n x y = y))) ∧ Below w.heap.size w w' := by
  have hb0 : Below w.heap.size w (w.alloc (.cells #[.int .i64 n, .slice a n cap, .slice aj (n * n) cj, .slice am (n * n) cm, .int .i64 bt, .int .i64 tp] 69)) := (Below.refl _ _).alloc (Nat.le_refl _) _
  have hj := tjoin_any n a cap aj cj am cm bt tp js x y n₀ hn hx hy hl _ (hw.below (hb0.mono hn₀)) (by simp; omega)
  generalize at2 js n x y = r at *
  have he : ((r : Int) == (y : Int)) = decide (r = y) := by
    by_cases e : r = y
    · rw [decide_eq_true e, e]; simp
    · rw [decide_eq_false e, beq_eq_false_iff_ne]; omega
  have He := hide he
  have Hb := hide hb0
  clear he hb0
  go_enter Tryd.func64, Tryd.ntmps64
  go_wp2_with (go_at_call 60; refine hj.mono ?_; rintro e w1 ⟨rfl, hb1⟩)
  go_ret
  exact ⟨ret_bool He.out, Hb.out.trans (hb1.mono (by simp))⟩

theorem tBelow_re (n : Nat) (a : Option Addr) (cap : Nat) (aj : Option Addr) (cj : Nat) (am : Option Addr) (cm : Nat) (bt tp : Int) (js : List Nat) (n₀ : Nat) (hn : n ≤ 16) (hl : js.length = n * n) (W : World) (hw : IsInts n₀ W aj js) (hn₀ : n₀ ≤ W.heap.size) (x y : Nat) (r : Bool) (hx : x < n) (hy : y < n) (hr : decide (at2 js n x y = y) = r) (d : Nat) (os : Array Obj) :
    Calls Tryd.prog 64 #[.agg #[.int .i64 n, .slice a n cap, .slice aj (n * n) cj, .slice am (n * n) cm, .int .i64 bt, .int .i64 tp], .int .i64 x, .int .i64 y] (Go.Sort.grow (redrawn W d) os) fun e w'' => e = .returned (.bool r) ∧ ∃ p : Regrown, w'' = Go.Sort.grow (redrawn W p.d) p.os := by
  subst hr
  exact Calls.regrown_of (tBelow_any n a cap aj cj am cm bt tp js x y n₀ hn hx hy hl (Go.Sort.grow (redrawn W d) os) (hw.below ((below_regrown W d os).mono hn₀)) (by have := (below_regrown W d os).size; omega))

/-- the law of modular lattices at three elements -/
def modB (js ms : List Nat) (n x y z : Nat) : Bool := !decide (at2 js n x z = z) || decide (at2 js n x (at2 ms n y z) = at2 ms n (at2 js n x y) z)
def disB (js ms : List Nat) (n x y z : Nat) : Bool := decide (at2 ms n x (at2 js n y z) = at2 js n (at2 ms n x y) (at2 ms n x z))

set_option maxRecDepth 100000 in
set_option maxHeartbeats 2000000 in
theorem distributes_any (n : Nat) (a : Option Addr) (cap : Nat) (aj : Option Addr) (cj : Nat) (am : Option Addr) (cm : Nat) (bt tp : Int) (js ms : List Nat) (x y z n₀ : Nat) (hn : n ≤ 16) (hx : x < n) (hy : y < n) (hz : z < n) (hlj : js.length = n * n) (hlm : ms.length = n * n) (hjl : ∀ a b, a < n → b < n → at2 js n a b < n) (hml : ∀ a b, a < n → b < n → at2 ms n a b < n) (w : World) (hj : IsInts n₀ w aj js) (hm : IsInts n₀ w am ms) (hn₀ : n₀ ≤ w.heap.size) :
    Calls Tryd.prog 43 #[.agg #[.int .i64 n, .slice a n cap, .slice aj (n * n) cj, .slice am (n * n) cm, .int .i64 bt, .int .i64 tp], .agg #[.int .i64 x, .int .i64 y, .int .i64 z]] w fun e w' => e = .returned (.bool (disB js ms n x y z)) ∧ Below w.heap.size w w' := by
  obtain ⟨V, hV⟩ : ∃ V, V = (w.alloc (.cells #[.int .i64 n, .slice a n cap, .slice aj (n * n) cj, .slice am (n * n) cm, .int .i64 bt, .int .i64 tp] 69)).alloc (.cells #[.int .i64 x, .int .i64 y, .int .i64 z] 76) := ⟨_, rfl⟩
  obtain ⟨rT, rX, hbV, hsV⟩ := rows_two w 69 76 [.int .i64 n, .slice a n cap, .slice aj (n * n) cj, .slice am (n * n) cm, .int .i64 bt, .int .i64 tp] [.int .i64 x, .int .i64 y, .int .i64 z] hV.symm
  obtain ⟨p, ep⟩ : ∃ r, at2 js n y z = r := ⟨_, rfl⟩
  obtain ⟨q, eq⟩ : ∃ r, at2 ms n x p = r := ⟨_, rfl⟩
  obtain ⟨r, er⟩ : ∃ r, at2 ms n x y = r := ⟨_, rfl⟩
  obtain ⟨t, et⟩ : ∃ r, at2 ms n x z = r := ⟨_, rfl⟩
  obtain ⟨u, eu⟩ : ∃ s, at2 js n r t = s := ⟨_, rfl⟩
  have hp := hjl y z hy hz
  have hr := hml x y hx hy
  have ht := hml x z hx hz
  rw [ep] at hp
  rw [er] at hr
  rw [et] at ht
  have he : ((q : Int) == (u : Int)) = decide (q = u) := by
    by_cases e : q = u
    · rw [decide_eq_true e, e]; simp
    · rw [decide_eq_false e, beq_eq_false_iff_ne]; omega
  have hdis : disB js ms n x y z = decide (q = u) := by unfold disB; rw [ep, eq, er, et, eu]
  rw [hdis]
  clear hdis
  have EP := hide ep
  have EQ := hide eq
  have ER := hide er
  have ET := hide et
  have EU := hide eu
  have He := hide he
  clear ep eq er et eu he
  go_enter Tryd.func43, Tryd.ntmps43
  have hu3 := Tryd.underlying76
  have x0 := cell_regrown (rX.cell (i := 0) rfl)
  have x1 := cell_regrown (rX.cell (i := 1) rfl)
  have x2 := cell_regrown (rX.cell (i := 2) rfl)
  go_wp2_with fail
  rw [← hV]
  clear hV
  refine wp_region_quiet_below (by kernel_rfl) (by kernel_rfl) ?_
  repeat (go_big_quiet_step (fail))
  refine wpQuiet_nil ?_
  intro _ hw'
  obtain ⟨⟨dq, osq⟩, hw''⟩ := hw'
  subst hw''
  obtain ⟨W, hW⟩ : ∃ W, W = Go.Sort.grow (redrawn V dq) osq := ⟨_, rfl⟩
  have hbW : Below V.heap.size V W := by rw [hW]; exact below_regrown _ _ _
  rw [← hW]
  have rT' := row_below rT hbW rT.lt
  have hJ := (hj.below (hbV.mono hn₀)).below (hbW.mono (show n₀ ≤ V.heap.size by omega))
  have hM := (hm.below (hbV.mono hn₀)).below (hbW.mono (show n₀ ≤ V.heap.size by omega))
  have hnW : n₀ ≤ W.heap.size := by have := hbW.size; omega
  clear hW x0 x1 x2 rX
  have t0 := cell_regrown (rT'.cell (i := 0) rfl)
  have t1 := cell_regrown (rT'.cell (i := 1) rfl)
  have t2 := cell_regrown (rT'.cell (i := 2) rfl)
  have t3 := cell_regrown (rT'.cell (i := 3) rfl)
  have t4 := cell_regrown (rT'.cell (i := 4) rfl)
  have t5 := cell_regrown (rT'.cell (i := 5) rfl)
  have c1 := tjoin_re n a cap aj cj am cm bt tp js n₀ hn hlj W hJ hnW y z p hy hz EP.out
  have c2 := tmeet_re n a cap aj cj am cm bt tp ms n₀ hn hlm W hM hnW x p q hx hp EQ.out
  have c3 := tmeet_re n a cap aj cj am cm bt tp ms n₀ hn hlm W hM hnW x y r hx hy ER.out
  have c4 := tmeet_re n a cap aj cj am cm bt tp ms n₀ hn hlm W hM hnW x z t hx hz ET.out
  have c5 := tjoin_re n a cap aj cj am cm bt tp js n₀ hn hlj W hJ hnW r t u hr ht EU.out
  go_wp2
  refine wp_region_quiet_below (by kernel_rfl) (by kernel_rfl) ?_
  repeat (go_big_quiet_step (first | with_reducible exact c1 _ _ | with_reducible exact c2 _ _ | with_reducible exact c3 _ _ | with_reducible exact c4 _ _ | with_reducible exact c5 _ _))
  refine wpQuiet_nil ?_
  intro _ hw'
  obtain ⟨⟨dq, osq⟩, hw''⟩ := hw'
  subst hw''
  go_wp2
  go_ret
  exact ⟨ret_bool He.out, (hbV.trans (hbW.mono (by omega))).trans ((below_regrown _ _ _).mono (by have := hbW.size; omega))⟩

set_option maxRecDepth 100000 in
set_option maxHeartbeats 2000000 in
theorem modulates_any (n : Nat) (a : Option Addr) (cap : Nat) (aj : Option Addr) (cj : Nat) (am : Option Addr) (cm : Nat) (bt tp : Int) (js ms : List Nat) (x y z n₀ : Nat) (hn : n ≤ 16) (hx : x < n) (hy : y < n) (hz : z < n) (hlj : js.length = n * n) (hlm : ms.length = n * n) (hjl : ∀ a b, a < n → b < n → at2 js n a b < n) (hml : ∀ a b, a < n → b < n → at2 ms n a b < n) (w : World) (hj : IsInts n₀ w aj js) (hm : IsInts n₀ w am ms) (hn₀ : n₀ ≤ w.heap.size) :
    Calls Tryd.prog 44 #[.agg #[.int .i64 n, .slice a n cap, .slice aj (n * n) cj, .slice am (n * n) cm, .int .i64 bt, .int .i64 tp], .agg #[.int .i64 x, .int .i64 y, .int .i64 z]] w fun e w' => e = .returned (.bool (modB js ms n x y z)) ∧ Below w.heap.size w w' := by
  obtain ⟨V, hV⟩ : ∃ V, V = (w.alloc (.cells #[.int .i64 n, .slice a n cap, .slice aj (n * n) cj, .slice am (n * n) cm, .int .i64 bt, .int .i64 tp] 69)).alloc (.cells #[.int .i64 x, .int .i64 y, .int .i64 z] 76) := ⟨_, rfl⟩
  obtain ⟨rT, rX, hbV, hsV⟩ := rows_two w 69 76 [.int .i64 n, .slice a n cap, .slice aj (n * n) cj, .slice am (n * n) cm, .int .i64 bt, .int .i64 tp] [.int .i64 x, .int .i64 y, .int .i64 z] hV.symm
  obtain ⟨p, ep⟩ : ∃ r, at2 ms n y z = r := ⟨_, rfl⟩
  obtain ⟨q, eq⟩ : ∃ r, at2 js n x p = r := ⟨_, rfl⟩
  obtain ⟨r, er⟩ : ∃ r, at2 js n x y = r := ⟨_, rfl⟩
  obtain ⟨u, eu⟩ : ∃ s, at2 ms n r z = s := ⟨_, rfl⟩
  have hp := hml y z hy hz
  have hr := hjl x y hx hy
  rw [ep] at hp
  rw [er] at hr
  have he : ((q : Int) == (u : Int)) = decide (q = u) := by
    by_cases e : q = u
    · rw [decide_eq_true e, e]; simp
    · rw [decide_eq_false e, beq_eq_false_iff_ne]; omega
  have hmod : modB js ms n x y z = (!decide (at2 js n x z = z) || decide (q = u)) := by unfold modB; rw [ep, eq, er, eu]
  rw [hmod]
  have EP := hide ep
  have EQ := hide eq
  have ER := hide er
  have EU := hide eu
  have He := hide he
  clear ep eq er eu he hmod
  go_enter Tryd.func44, Tryd.ntmps44
  have hu3 := Tryd.underlying76
  have x0 := cell_regrown (rX.cell (i := 0) rfl)
  have x1 := cell_regrown (rX.cell (i := 1) rfl)
  have x2 := cell_regrown (rX.cell (i := 2) rfl)
  go_wp2_with fail
  rw [← hV]
  clear hV
  refine wp_region_quiet_below (by kernel_rfl) (by kernel_rfl) ?_
  repeat (go_big_quiet_step (fail))
  refine wpQuiet_nil ?_
  intro _ hw'
  obtain ⟨⟨dq, osq⟩, hw''⟩ := hw'
  subst hw''
  obtain ⟨W, hW⟩ : ∃ W, W = Go.Sort.grow (redrawn V dq) osq := ⟨_, rfl⟩
  have hbW : Below V.heap.size V W := by rw [hW]; exact below_regrown _ _ _
  rw [← hW]
  have rT' := row_below rT hbW rT.lt
  have hJ := (hj.below (hbV.mono hn₀)).below (hbW.mono (show n₀ ≤ V.heap.size by omega))
  have hM := (hm.below (hbV.mono hn₀)).below (hbW.mono (show n₀ ≤ V.heap.size by omega))
  have hnW : n₀ ≤ W.heap.size := by have := hbW.size; omega
  clear hW x0 x1 x2 rX
  have t0 := cell_regrown (rT'.cell (i := 0) rfl)
  have t1 := cell_regrown (rT'.cell (i := 1) rfl)
  have t2 := cell_regrown (rT'.cell (i := 2) rfl)
  have t3 := cell_regrown (rT'.cell (i := 3) rfl)
  have t4 := cell_regrown (rT'.cell (i := 4) rfl)
  have t5 := cell_regrown (rT'.cell (i := 5) rfl)
  cases hb : decide (at2 js n x z = z) with
  | false =>
    have c1 := tBelow_re n a cap aj cj am cm bt tp js n₀ hn hlj W hJ hnW x z false hx hz hb
    have HB := hide hb
    clear hb
    go_wp2
    refine wp_region_quiet_below (by kernel_rfl) (by kernel_rfl) ?_
    repeat (go_big_quiet_step (with_reducible exact c1 _ _))
    refine wpQuiet_nil ?_
    intro _ hw'
    obtain ⟨⟨dq, osq⟩, hw''⟩ := hw'
    subst hw''
    go_wp2
    go_ret
    exact ⟨ret_bool (by rw [HB.out]; rfl), (hbV.trans (hbW.mono (by omega))).trans ((below_regrown _ _ _).mono (by have := hbW.size; omega))⟩
  | true =>
    have c1 := tBelow_re n a cap aj cj am cm bt tp js n₀ hn hlj W hJ hnW x z true hx hz hb
    have c2 := tmeet_re n a cap aj cj am cm bt tp ms n₀ hn hlm W hM hnW y z p hy hz EP.out
    have c3 := tjoin_re n a cap aj cj am cm bt tp js n₀ hn hlj W hJ hnW x p q hx hp EQ.out
    have c4 := tjoin_re n a cap aj cj am cm bt tp js n₀ hn hlj W hJ hnW x y r hx hy ER.out
    have c5 := tmeet_re n a cap aj cj am cm bt tp ms n₀ hn hlm W hM hnW r z u hr hz EU.out
    have HB := hide hb
    clear hb
    go_wp2
    refine wp_region_quiet_below (by kernel_rfl) (by kernel_rfl) ?_
    repeat (go_big_quiet_step (first | with_reducible exact c1 _ _ | with_reducible exact c2 _ _ | with_reducible exact c3 _ _ | with_reducible exact c4 _ _ | with_reducible exact c5 _ _))
    refine wpQuiet_nil ?_
    intro _ hw'
    obtain ⟨⟨dq, osq⟩, hw''⟩ := hw'
    subst hw''
    go_wp2
    go_ret
    exact ⟨ret_bool (by rw [HB.out, He.out]; rfl), (hbV.trans (hbW.mono (by omega))).trans ((below_regrown _ _ _).mono (by have := hbW.size; omega))⟩
end Go.Proofs.YtdomcjfgmnpbmaaDoor
