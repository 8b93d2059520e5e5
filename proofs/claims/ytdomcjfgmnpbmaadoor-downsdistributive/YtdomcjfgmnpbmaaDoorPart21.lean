/- The contracts of a table's Below, distributes, modulates. The contract of slices.Clone at words. -/
import Derived.Test.YtdomcjfgmnpbmaaDoorPart20
import Derived.Lib.QuietBelow
import Derived.BigQuiet
import Derived.Laws.Entries
import Derived.Lib.SliceRun
namespace Go.Proofs.YtdomcjfgmnpbmaaDoor
open Go.RowKit Go.Shelf

/-- the table's join and meet, where they are called in whatever order -/
theorem tjoin_re (n : Nat) (a : Option Addr) (cap : Nat) (aj : Option Addr) (cj : Nat) (am : Option Addr) (cm : Nat) (bt tp : Int) (js : List Nat) (n₀ : Nat) (hn : n ≤ 16) (hl : js.length = n * n) (W : World) (hw : IsInts n₀ W aj js) (hn₀ : n₀ ≤ W.heap.size) (x y r : Nat) (hx : x < n) (hy : y < n) (hr : at2 js n x y = r) (d : Nat) (os : Array Obj) :
    Calls Tryd.prog 60 #[.agg #[.int .i64 n, .slice a n cap, .slice aj (n * n) cj, .slice am (n * n) cm, .int .i64 bt, .int .i64 tp], .int .i64 x, .int .i64 y] (Go.Sort.grow (redrawn W d) os) fun e w'' => e = .returned (.int .i64 (r : Nat)) ∧ ∃ p : Regrown, w'' = Go.Sort.grow (redrawn W p.d) p.os := by
  subst hr
  exact Calls.regrown_of (tjoin_any n a cap aj cj am cm bt tp js x y n₀ hn hx hy hl (Go.Sort.grow (redrawn W d) os) (hw.below ((below_regrown W d os).mono hn₀)) (by have := (below_regrown W d os).size; omega))
theorem tmeet_re (n : Nat) (a : Option Addr) (cap : Nat) (aj : Option Addr) (cj : Nat) (am : Option Addr) (cm : Nat) (bt tp : Int) (ms : List Nat) (n₀ : Nat) (hn : n ≤ 16) (hl : ms.length = n * n) (W : World) (hw : IsInts n₀ W am ms) (hn₀ : n₀ ≤ W.heap.size) (x y r : Nat) (hx : x < n) (hy : y < n) (hr : at2 ms n x y = r) (d : Nat) (os : Array Obj) :
    Calls Tryd.prog 61 #[.agg #[.int .i64 n, .slice a n cap, .slice aj (n * n) cj, .slice am (n * n) cm, .int .i64 bt, .int .i64 tp], .int .i64 x, .int .i64 y] (Go.Sort.grow (redrawn W d) os) fun e w'' => e = .returned (.int .i64 (r : Nat)) ∧ ∃ p : Regrown, w'' = Go.Sort.grow (redrawn W p.d) p.os := by
  subst hr
  exact Calls.regrown_of (tmeet_any n a cap aj cj am cm bt tp ms x y n₀ hn hx hy hl (Go.Sort.grow (redrawn W d) os) (hw.below ((below_regrown W d os).mono hn₀)) (by have := (below_regrown W d os).size; omega))

set_option maxRecDepth 100000 in
set_option maxHeartbeats 1000000 in
theorem tBelow_any (n : Nat) (a : Option Addr) (cap : Nat) (aj : Option Addr) (cj : Nat) (am : Option Addr) (cm : Nat) (bt tp : Int) (js : List Nat) (x y n₀ : Nat) (hn : n ≤ 16) (hx : x < n) (hy : y < n) (hl : js.length = n * n) (w : World) (hw : IsInts n₀ w aj js) (hn₀ : n₀ ≤ w.heap.size) :
    Calls Tryd.prog 64 #[.agg #[.int .i64 n, .slice a n cap, .slice aj (n * n) cj, .slice am (n * n) cm, .int .i64 bt, .int .i64 tp], .int .i64 x, .int .i64 y] w fun e w' => e = .returned (.bool (decide (at2 js n x y = y))) ∧ Below w.heap.size w w' := by
  have hb0 : Below w.heap.size w (w.alloc (.cells #[.int .i64 n, .slice a n cap, .slice aj (n * n) cj, .slice am (n * n) cm, .int .i64 bt, .int .i64 tp] 69)) := (Below.refl _ _).alloc (Nat.le_refl _) _
  have hj := tjoin_any n a cap aj cj am cm bt tp js x y n₀ hn hx hy hl _ (hw.below (hb0.mono hn₀)) (by simp; omega)
  generalize at2 js n x y = r at *
  have he : ((r : Int) == (y : Int)) = decide (r = y) := by
    by_cases e : r = y
    · rw [decide_eq_true e, e]; simp
    · rw [decide_eq_false e, beq_eq_false_iff_ne]; omega
  have He := hide he
  have Hb := hide hb0
  clear he hb0
  go_enter Tryd.func64, Tryd.ntmps64
  go_wp2_with (go_at_call 60; refine hj.mono ?_; rintro e w1 ⟨rfl, hb1⟩)
  go_ret
  exact ⟨ret_bool He.out, Hb.out.trans (hb1.mono (by simp))⟩

theorem tBelow_re (n : Nat) (a : Option Addr) (cap : Nat) (aj : Option Addr) (cj : Nat) (am : Option Addr) (cm : Nat) (bt tp : Int) (js : List Nat) (n₀ : Nat) (hn : n ≤ 16) (hl : js.length = n * n) (W : World) (hw : IsInts n₀ W aj js) (hn₀ : n₀ ≤ W.heap.size) (x y : Nat) (r : Bool) (hx : x < n) (hy : y < n) (hr : decide (at2 js n x y = y) = r) (d : Nat) (os : Array Obj) :
    Calls Tryd.prog 64 #[.agg #[.int .i64 n, .slice a n cap, .slice aj (n * n) cj, .slice am (n * n) cm, .int .i64 bt, .int .i64 tp], .int .i64 x, .int .i64 y] (Go.Sort.grow (redrawn W d) os) fun e w'' => e = .returned (.bool r) ∧ ∃ p : Regrown, w'' = Go.Sort.grow (redrawn W p.d) p.os := by
  subst hr
  exact Calls.regrown_of (tBelow_any n a cap aj cj am cm bt tp js x y n₀ hn hx hy hl (Go.Sort.grow (redrawn W d) os) (hw.below ((below_regrown W d os).mono hn₀)) (by have := (below_regrown W d os).size; omega))

/-- the law of modular lattices at three elements -/
def modB (js ms : List Nat) (n x y z : Nat) : Bool := !decide (at2 js n x z = z) || decide (at2 js n x (at2 ms n y z) = at2 ms n (at2 js n x y) z)
def disB (js ms : List Nat) (n x y z : Nat) : Bool := decide (at2 ms n x (at2 js n y z) = at2 js n (at2 ms n x y) (at2 ms n x z))

set_option maxRecDepth 100000 in
set_option maxHeartbeats 2000000 in
theorem distributes_any (n : Nat) (a : Option Addr) (cap : Nat) (aj : Option Addr) (cj : Nat) (am : Option Addr) (cm : Nat) (bt tp : Int) (js ms : List Nat) (x y z n₀ : Nat) (hn : n ≤ 16) (hx : x < n) (hy : y < n) (hz : z < n) (hlj : js.length = n * n) (hlm : ms.length = n * n) (hjl : ∀ a b, a < n → b < n → at2 js n a b < n) (hml : ∀ a b, a < n → b < n → at2 ms n a b < n) (w : World) (hj : IsInts n₀ w aj js) (hm : IsInts n₀ w am ms) (hn₀ : n₀ ≤ w.heap.size) :
    Calls Tryd.prog 43 #[.agg #[.int .i64 n, .slice a n cap, .slice aj (n * n) cj, .slice am (n * n) cm, .int .i64 bt, .int .i64 tp], .agg #[.int .i64 x, .int .i64 y, .int .i64 z]] w fun e w' => e = .returned (.bool (disB js ms n x y z)) ∧ Below w.heap.size w w' := by
  obtain ⟨V, hV⟩ : ∃ V, V = (w.alloc (.cells #[.int .i64 n, .slice a n cap, .slice aj (n * n) cj, .slice am (n * n) cm, .int .i64 bt, .int .i64 tp] 69)).alloc (.cells #[.int .i64 x, .int .i64 y, .int .i64 z] 76) := ⟨_, rfl⟩
  obtain ⟨rT, rX, hbV, hsV⟩ := rows_two w 69 76 [.int .i64 n, .slice a n cap, .slice aj (n * n) cj, .slice am (n * n) cm, .int .i64 bt, .int .i64 tp] [.int .i64 x, .int .i64 y, .int .i64 z] hV.symm
  obtain ⟨p, ep⟩ : ∃ r, at2 js n y z = r := ⟨_, rfl⟩
  obtain ⟨q, eq⟩ : ∃ r, at2 ms n x p = r := ⟨_, rfl⟩
  obtain ⟨r, er⟩ : ∃ r, at2 ms n x y = r := ⟨_, rfl⟩
  obtain ⟨t, et⟩ : ∃ r, at2 ms n x z = r := ⟨_, rfl⟩
  obtain ⟨u, eu⟩ : ∃ s, at2 js n r t = s := ⟨_, rfl⟩
  have hp := hjl y z hy hz
  have hr := hml x y hx hy
  have ht := hml x z hx hz
  rw [ep] at hp
  rw [er] at hr
  rw [et] at ht
  have he : ((q : Int) == (u : Int)) = decide (q = u) := by
    by_cases e : q = u
    · rw [decide_eq_true e, e]; simp
    · rw [decide_eq_false e, beq_eq_false_iff_ne]; omega
  have hdis : disB js ms n x y z = decide (q = u) := by unfold disB; rw [ep, eq, er, et, eu]
  rw [hdis]
  clear hdis
  have EP := hide ep
  have EQ := hide eq
  have ER := hide er
  have ET := hide et
  have EU := hide eu
  have He := hide he
  clear ep eq er et eu he
  go_enter Tryd.func43, Tryd.ntmps43
  have hu3 := Tryd.underlying76
  have x0 := cell_regrown (rX.cell (i := 0) rfl)
  have x1 := cell_regrown (rX.cell (i := 1) rfl)
  have x2 := cell_regrown (rX.cell (i := 2) rfl)
  go_wp2_with fail
  rw [← hV]
  clear hV
  refine wp_region_quiet_below (by kernel_rfl) (by kernel_rfl) ?_
  repeat (go_big_quiet_step (fail))
  refine wpQuiet_nil ?_
  intro _ hw'
  obtain ⟨⟨dq, osq⟩, hw''⟩ := hw'
  subst hw''
  obtain ⟨W, hW⟩ : ∃ W, W = Go.Sort.grow (redrawn V dq) osq := ⟨_, rfl⟩
  have hbW : Below V.heap.size V W := by rw [hW]; exact below_regrown _ _ _
  rw [← hW]
  have rT' := row_below rT hbW rT.lt
  have hJ := (hj.below (hbV.mono hn₀)).below (hbW.mono (show n₀ ≤ V.heap.size by omega))
  have hM := (hm.below (hbV.mono hn₀)).below (hbW.mono (show n₀ ≤ V.heap.size by omega))
  have hnW : n₀ ≤ W.heap.size := by have := hbW.size; omega
  clear hW x0 x1 x2 rX
  have t0 := cell_regrown (rT'.cell (i := 0) rfl)
  have t1 := cell_regrown (rT'.cell (i := 1) rfl)
  have t2 := cell_regrown (rT'.cell (i := 2) rfl)
  have t3 := cell_regrown (rT'.cell (i := 3) rfl)
  have t4 := cell_regrown (rT'.cell (i := 4) rfl)
  have t5 := cell_regrown (rT'.cell (i := 5) rfl)
  have c1 := tjoin_re n a cap aj cj am cm bt tp js n₀ hn hlj W hJ hnW y z p hy hz EP.out
  have c2 := tmeet_re n a cap aj cj am cm bt tp ms n₀ hn hlm W hM hnW x p q hx hp EQ.out
  have c3 := tmeet_re n a cap aj cj am cm bt tp ms n₀ hn hlm W hM hnW x y r hx hy ER.out
  have c4 := tmeet_re n a cap aj cj am cm bt tp ms n₀ hn hlm W hM hnW x z t hx hz ET.out
  have c5 := tjoin_re n a cap aj cj am cm bt tp js n₀ hn hlj W hJ hnW r t u hr ht EU.out
  go_wp2
  refine wp_region_quiet_below (by kernel_rfl) (by kernel_rfl) ?_
  repeat (go_big_quiet_step (first | with_reducible exact c1 _ _ | with_reducible exact c2 _ _ | with_reducible exact c3 _ _ | with_reducible exact c4 _ _ | with_reducible exact c5 _ _))
  refine wpQuiet_nil ?_
  intro _ hw'
  obtain ⟨⟨dq, osq⟩, hw''⟩ := hw'
  subst hw''
  go_wp2
  go_ret
  exact ⟨ret_bool He.out, (hbV.trans (hbW.mono (by omega))).trans ((below_regrown _ _ _).mono (by have := hbW.size; omega))⟩

set_option maxRecDepth 100000 in
set_option maxHeartbeats 2000000 in
theorem modulates_any (n : Nat) (a : Option Addr) (cap : Nat) (aj : Option Addr) (cj : Nat) (am : Option Addr) (cm : Nat) (bt tp : Int) (js ms : List Nat) (x y z n₀ : Nat) (hn : n ≤ 16) (hx : x < n) (hy : y < n) (hz : z < n) (hlj : js.length = n * n) (hlm : ms.length = n * n) (hjl : ∀ a b, a < n → b < n → at2 js n a b < n) (hml : ∀ a b, a < n → b < n → at2 ms n a b < n) (w : World) (hj : IsInts n₀ w aj js) (hm : IsInts n₀ w am ms) (hn₀ : n₀ ≤ w.heap.size) :
    Calls Tryd.prog 44 #[.agg #[.int .i64 n, .slice a n cap, .slice aj (n * n) cj, .slice am (n * n) cm, .int .i64 bt, .int .i64 tp], .agg #[.int .i64 x, .int .i64 y, .int .i64 z]] w fun e w' => e = .returned (.bool (modB js ms n x y z)) ∧ Below w.heap.size w w' := by
  obtain ⟨V, hV⟩ : ∃ V, V = (w.alloc (.cells #[.int .i64 n, .slice a n cap, .slice aj (n * n) cj, .slice am (n * n) cm, .int .i64 bt, .int .i64 tp] 69)).alloc (.cells #[.int .i64 x, .int .i64 y, .int .i64 z] 76) := ⟨_, rfl⟩
  obtain ⟨rT, rX, hbV, hsV⟩ := rows_two w 69 76 [.int .i64 n, .slice a n cap, .slice aj (n * n) cj, .slice am (n * n) cm, .int .i64 bt, .int .i64 tp] [.int .i64 x, .int .i64 y, .int .i64 z] hV.symm
  obtain ⟨p, ep⟩ : ∃ r, at2 ms n y z = r := ⟨_, rfl⟩
  obtain ⟨q, eq⟩ : ∃ r, at2 js n x p = r := ⟨_, rfl⟩
  obtain ⟨r, er⟩ : ∃ r, at2 js n x y = r := ⟨_, rfl⟩
  obtain ⟨u, eu⟩ : ∃ s, at2 ms n r z = s := ⟨_, rfl⟩
  have hp := hml y z hy hz
  have hr := hjl x y hx hy
  rw [ep] at hp
  rw [er] at hr
  have he : ((q : Int) == (u : Int)) = decide (q = u) := by
    by_cases e : q = u
    · rw [decide_eq_true e, e]; simp
    · rw [decide_eq_false e, beq_eq_false_iff_ne]; omega
  have hmod : modB js ms n x y z = (!decide (at2 js n x z = z) || decide (q = u)) := by unfold modB; rw [ep, eq, er, eu]
  rw [hmod]
  have EP := hide ep
  have EQ := hide eq
  have ER := hide er
  have EU := hide eu
  have He := hide he
  clear ep eq er eu he hmod
  go_enter Tryd.func44, Tryd.ntmps44
  have hu3 := Tryd.underlying76
  have x0 := cell_regrown (rX.cell (i := 0) rfl)
  have x1 := cell_regrown (rX.cell (i := 1) rfl)
  have x2 := cell_regrown (rX.cell (i := 2) rfl)
  go_wp2_with fail
  rw [← hV]
  clear hV
  refine wp_region_quiet_below (by kernel_rfl) (by kernel_rfl) ?_
  repeat (go_big_quiet_step (fail))
  refine wpQuiet_nil ?_
  intro _ hw'
  obtain ⟨⟨dq, osq⟩, hw''⟩ := hw'
  subst hw''
  obtain ⟨W, hW⟩ : ∃ W, W = Go.Sort.grow (redrawn V dq) osq := ⟨_, rfl⟩
  have hbW : Below V.heap.size V W := by rw [hW]; exact below_regrown _ _ _
  rw [← hW]
  have rT' := row_below rT hbW rT.lt
  have hJ := (hj.below (hbV.mono hn₀)).below (hbW.mono (show n₀ ≤ V.heap.size by omega))
  have hM := (hm.below (hbV.mono hn₀)).below (hbW.mono (show n₀ ≤ V.heap.size by omega))
  have hnW : n₀ ≤ W.heap.size := by have := hbW.size; omega
  clear hW x0 x1 x2 rX
  have t0 := cell_regrown (rT'.cell (i := 0) rfl)
  have t1 := cell_regrown (rT'.cell (i := 1) rfl)
  have t2 := cell_regrown (rT'.cell (i := 2) rfl)
  have t3 := cell_regrown (rT'.cell (i := 3) rfl)
  have t4 := cell_regrown (rT'.cell (i := 4) rfl)
  have t5 := cell_regrown (rT'.cell (i := 5) rfl)
  cases hb : decide (at2 js n x z = z) with
  | false =>
    have c1 := tBelow_re n a cap aj cj am cm bt tp js n₀ hn hlj W hJ hnW x z false hx hz hb
    have HB := hide hb
    clear hb
    go_wp2
    refine wp_region_quiet_below (by kernel_rfl) (by kernel_rfl) ?_
    repeat (go_big_quiet_step (with_reducible exact c1 _ _))
    refine wpQuiet_nil ?_
    intro _ hw'
    obtain ⟨⟨dq, osq⟩, hw''⟩ := hw'
    subst hw''
    go_wp2
    go_ret
    exact ⟨ret_bool (by rw [HB.out]; rfl), (hbV.trans (hbW.mono (by omega))).trans ((below_regrown _ _ _).mono (by have := hbW.size; omega))⟩
  | true =>
    have c1 := tBelow_re n a cap aj cj am cm bt tp js n₀ hn hlj W hJ hnW x z true hx hz hb
    have c2 := tmeet_re n a cap aj cj am cm bt tp ms n₀ hn hlm W hM hnW y z p hy hz EP.out
    have c3 := tjoin_re n a cap aj cj am cm bt tp js n₀ hn hlj W hJ hnW x p q hx hp EQ.out
    have c4 := tjoin_re n a cap aj cj am cm bt tp js n₀ hn hlj W hJ hnW x y r hx hy ER.out
    have c5 := tmeet_re n a cap aj cj am cm bt tp ms n₀ hn hlm W hM hnW r z u hr hz EU.out
    have HB := hide hb
    clear hb
    go_wp2
    refine wp_region_quiet_below (by kernel_rfl) (by kernel_rfl) ?_
    repeat (go_big_quiet_step (first | with_reducible exact c1 _ _ | with_reducible exact c2 _ _ | with_reducible exact c3 _ _ | with_reducible exact c4 _ _ | with_reducible exact c5 _ _))
    refine wpQuiet_nil ?_
    intro _ hw'
    obtain ⟨⟨dq, osq⟩, hw''⟩ := hw'
    subst hw''
    go_wp2
    go_ret
    exact ⟨ret_bool (by rw [HB.out, He.out]; rfl), (hbV.trans (hbW.mono (by omega))).trans ((below_regrown _ _ _).mono (by have := hbW.size; omega))⟩
end Go.Proofs.YtdomcjfgmnpbmaaDoor

namespace Go.Proofs.YtdomcjfgmnpbmaaDoor
open Go.RowKit Go.Shelf

set_option maxRecDepth 100000 in
set_option maxHeartbeats 1000000 in
theorem Clone_any (a : Option Addr) (cap : Nat) (us : List Nat) (n₀ : Nat) (hl : us.length ≤ 16) (h0 : 0 < us.length) (w : World) (hw : IsWords n₀ w a us) (hn₀ : n₀ ≤ w.heap.size) :
    Calls Tryd.prog 55 #[.slice a us.length cap] w fun e w' => ∃ av cv, e = .returned (.slice av us.length cv) ∧ Below w.heap.size w w' ∧ w'.ownsRow w.heap.size 53 1 (.slice av us.length cv) us.length (wvals us) := by
  obtain ⟨i0, hi, hz0, hz1, hz2⟩ := info_parts info_u32
  obtain ⟨b, off, rfl, hb, hc⟩ := hw.at h0
  have hbw : b < w.heap.size := by omega
  have hq : ∀ (w : World) (a : Option Addr) (n c n' c' : Nat), (binOp .eql 22 (.slice a n c) (.slice none n' c')).run Tryd.prog w = .ok (.bool a.isNone) w := fun w a n c n' c' => Lib.run_eql_slice_nil w _ _ a n c n' c' Tryd.underlying22
  go_enter Tryd.func55, Tryd.ntmps55
  have Hc := hide hc
  clear hc
  go_wp2_with (at_builtin; refine wpList_append_own _ rfl _ _ 22 rfl w.heap.size 53 i0 (.int .u32 0) 1 4 Tryd.underlying22 hi hz0 hz1 hz2 rfl (by decide) _ _ _ rfl (World.ownsRow_made w #[] 0 (Nat.le_refl _) (Nat.zero_le _) rfl) ⟨b, off, none⟩ us.length cap (wvals us) rfl ?qc1 ?qc2 ?qc3 ?qc4 ?qc5 ?qc6 ?_)
  case qc1 => unfold wvals; simp
  case qc2 =>
    intro j u hj
    have hjn : j < us.length := by
      have := (List.getElem?_eq_some_iff.1 hj).1
      unfold wvals at this
      simpa using this
    rw [wvals_at hjn] at hj
    cases hj
    rw [Addr.add_lit]
    exact Lib.cell?_alloc_some _ (Hc.out j hjn)
  case qc3 => intro u hu; unfold wvals at hu; obtain ⟨x, _, rfl⟩ := List.mem_map.1 hu; rfl
  case qc4 => unfold maxLen; omega
  case qc5 => omega
  case qc6 => simp
  intro v' w1 hown hgrow hnil
  have hown' : w1.ownsRow w.heap.size 53 1 v' us.length (wvals us) := by simpa using hown
  obtain ⟨av, cv, rfl⟩ : ∃ av cv, v' = .slice av us.length cv := by
    rcases hown'.2 with ⟨_, h2⟩ | ⟨g, c, cur, h1, _⟩
    · omega
    · exact ⟨_, _, h1⟩
  go_wp2
  go_ret
  exact ⟨av, cv, rfl, ((Below.refl _ w).alloc (Nat.le_refl _) _).grown hgrow (by simp) (by intro k hk; simp [Value.ownBlock] at hk; omega), hown'⟩
end Go.Proofs.YtdomcjfgmnpbmaaDoor
