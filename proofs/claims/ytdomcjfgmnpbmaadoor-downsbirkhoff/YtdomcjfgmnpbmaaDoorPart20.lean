/- The contracts of the program's nearest, and of slices.Index at words. The contracts of the program's join and meet of a table, of its elements, and of what is put together two by two. -/
import Derived.Test.YtdomcjfgmnpbmaaDoorPart18
import Derived.Test.YtdomcjfgmnpbmaaDoorPart11
import Derived.OwnWalk
namespace Go.Proofs.YtdomcjfgmnpbmaaDoor
open Go.RowKit Go.Shelf

set_option maxHeartbeats 400000 in
theorem Index_any (a : Option Addr) (cap : Nat) (us : List Nat) (x n₀ : Nat) (hl : us.length ≤ 16) (w : World) (hw : IsWords n₀ w a us) :
    Calls Tryd.prog 71 #[.slice a us.length cap, .int .u32 (x : Nat)] w fun e w' => w' = w ∧ ∃ r : Int, e = .returned (.int .i64 r) ∧ ((r = -1 ∧ ∀ i, i < us.length → wd us i ≠ x) ∨ ∃ i : Nat, i < us.length ∧ r = (i : Int) ∧ wd us i = x ∧ ∀ j, j < i → wd us j ≠ x) := by
  go_enter Tryd.func71, Tryd.ntmps71
  go_wp2
  go_loop [8] (fun i => ∃ k : Nat, k ≤ us.length ∧ i = .int .i64 k ∧ ∀ j, j < k → wd us j ≠ x) (fun i => us.length - (intOf i).toNat)
  case atStart => exact ⟨0, Nat.zero_le _, rfl, fun j h1 => by omega⟩
  case round =>
    obtain ⟨k, hk, rfl, hall⟩ := hrel
    by_cases hlt : k < us.length
    · obtain ⟨b, off, rfl, hb, hc⟩ := hw.at hlt
      have hck := hc k hlt
      clear hc
      by_cases he : wd us k = x
      · have hd : ((x : Int) == ((wd us k : Nat) : Int)) = true := by rw [beq_iff_eq]; omega
        have He := hide he
        clear he
        go_wp2
        go_ret
        exact ⟨rfl, _, rfl, .inr ⟨k, hlt, rfl, He.out, hall⟩⟩
      · have hd : ((x : Int) == ((wd us k : Nat) : Int)) = false := by rw [beq_eq_false_iff_ne]; omega
        have He := hide he
        clear he
        go_wp2
        go_round
        case rel => exact ⟨k + 1, by omega, by go_num, fun j h1 => by
          by_cases e : j = k
          · rw [e]; exact He.out
          · exact hall j (by omega)⟩
        case measure => simp [intOf]; omega
    · go_wp2
      go_ret
      exact ⟨rfl, _, rfl, .inl ⟨rfl, fun i hi => hall i (by omega)⟩⟩

theorem first_ex (P : Nat → Prop) : ∀ n : Nat, (∃ i, i < n ∧ P i) → ∃ i, i < n ∧ P i ∧ ∀ j, j < i → ¬ P j
  | 0, ⟨i, hi, _⟩ => by omega
  | n + 1, ⟨i, hi, hp⟩ => by
    by_cases h : ∃ i, i < n ∧ P i
    · obtain ⟨i', h1, h2, h3⟩ := first_ex P n h
      exact ⟨i', by omega, h2, h3⟩
    · have : i = n := by
        apply Classical.byContradiction
        intro hne
        exact h ⟨i, by omega, hp⟩
      subst this
      exact ⟨i, hi, hp, fun j hj hpj => h ⟨j, hj, hpj⟩⟩
theorem Index_none (a : Option Addr) (cap : Nat) (us : List Nat) (x n₀ : Nat) (hl : us.length ≤ 16) (w : World) (hw : IsWords n₀ w a us) (hno : ∀ i, i < us.length → wd us i ≠ x) :
    Calls Tryd.prog 71 #[.slice a us.length cap, .int .u32 (x : Nat)] w fun e w' => e = .returned (.int .i64 (-1)) ∧ w' = w :=
  (Index_any a cap us x n₀ hl w hw).mono (by
    rintro e w' ⟨hww, r, rfl, ⟨rfl, _⟩ | ⟨i, hi, _, he, _⟩⟩
    · exact ⟨rfl, hww⟩
    · exact absurd he (hno i hi))
theorem Index_first (a : Option Addr) (cap : Nat) (us : List Nat) (x n₀ k : Nat) (hl : us.length ≤ 16) (w : World) (hw : IsWords n₀ w a us) (hk : k < us.length) (he : wd us k = x) (hno : ∀ i, i < k → wd us i ≠ x) :
    Calls Tryd.prog 71 #[.slice a us.length cap, .int .u32 (x : Nat)] w fun e w' => e = .returned (.int .i64 (k : Nat)) ∧ w' = w :=
  (Index_any a cap us x n₀ hl w hw).mono (by
    rintro e w' ⟨hww, r, rfl, ⟨rfl, hn⟩ | ⟨i, hi, rfl, hei, hfi⟩⟩
    · exact absurd he (hn k hk)
    · obtain rfl : i = k := by
        rcases Nat.lt_trichotomy i k with h | h | h
        · exact absurd hei (hno i h)
        · exact h
        · exact absurd he (hfi k h)
      exact ⟨rfl, hww⟩)

set_option maxRecDepth 100000 in
set_option maxHeartbeats 1000000 in
theorem nearest_any (a : Option Addr) (cap : Nat) (us : List Nat) (n₀ : Nat) (hf : Fit us) (hl : us.length ≤ 16) (w : World) (hw : IsWords n₀ w a us) (hn₀ : n₀ ≤ w.heap.size) :
    Calls Tryd.prog 54 #[.slice a us.length cap] w fun e w' => Below w.heap.size w w' ∧ ((NoNear us ∧ e = .returned (.tuple #[.slice none 0 0, .bool false])) ∨ ∃ av cv js, e = .returned (.tuple #[.slice av (us.length * us.length) cv, .bool true]) ∧ NearTo us js (us.length * us.length) ∧ w'.ownsRow w.heap.size 3 1 (.slice av (us.length * us.length) cv) (us.length * us.length) (ivals js)) := by
  obtain ⟨i0, hi, hz0, hz1, hz2⟩ := info_parts info_int
  have h256 : us.length * us.length ≤ 256 := Nat.mul_le_mul hl hl
  have hmul : IntKind.i64.wrap ((us.length : Int) * (us.length : Int)) = ((us.length * us.length : Nat) : Int) := by
    rw [← Int.natCast_mul]; exact IntWalk.i64_in _ (by omega)
  go_enter Tryd.func54, Tryd.ntmps54
  go_wp2_with (at_make; refine wpList_make_own _ rfl _ _ 43 rfl w.heap.size 3 i0 (.int .i64 0) 1 Tryd.underlying43 hi hz0 hz1 .i64 .i64 _ (us.length * us.length) rfl rfl (by first | rfl | exact hmul | simp [hmul]) (by rw [hz2]; omega) (by unfold maxLen; omega) (Nat.le_refl _) ?_; intro w1 hown hgrow)
  have hB1 : Below w.heap.size w w1 := (Below.refl _ _).grown hgrow (Nat.le_refl _) fun j ej => by cases ej
  clear hmul hgrow
  go_loopw [4, 18] (fun lst i wr => ∃ (k : Nat) (av : Option Addr) (cv : Nat) (js : List Nat), k ≤ us.length ∧ i = .int .i64 k ∧ lst = .slice av (k * us.length) cv ∧ Below w.heap.size w wr ∧ wr.ownsRow w.heap.size 3 1 (.slice av (k * us.length) cv) (k * us.length) (ivals js) ∧ NearTo us js (k * us.length)) (fun _ i _ => us.length - (intOf i).toNat)
  case atStart => exact ⟨0, some ⟨w.heap.size, 0, none⟩, us.length * us.length, [], Nat.zero_le _, rfl, by rw [Nat.zero_mul], hB1, by rw [Nat.zero_mul]; exact hown, by rw [Nat.zero_mul]; exact NearTo.start us⟩
  case round =>
    clear hown hB1
    obtain ⟨k, av, cv, js, hk, rfl, rfl, hB, hown, hN⟩ := hrel
    by_cases hlt : k < us.length
    · obtain ⟨b, off, rfl, hb, hc⟩ := (hw.below (hB.mono hn₀)).at hlt
      have hck := hc k hlt
      have hfk := hf k
      clear hc
      go_wp2
      go_loopw [4, 24] (fun lst i wr => ∃ (j : Nat) (av : Option Addr) (cv : Nat) (js : List Nat), j ≤ us.length ∧ i = .int .i64 j ∧ lst = .slice av (k * us.length + j) cv ∧ Below w.heap.size w wr ∧ wr.ownsRow w.heap.size 3 1 (.slice av (k * us.length + j) cv) (k * us.length + j) (ivals js) ∧ NearTo us js (k * us.length + j)) (fun _ i _ => us.length - (intOf i).toNat)
      case atStart => exact ⟨0, av, cv, js, Nat.zero_le _, rfl, rfl, hB, hown, hN⟩
      case round =>
        clear hB hown hN hck
        obtain ⟨j, av, cv, js, hj, rfl, rfl, hB, hown, hN⟩ := hrel
        by_cases hlj : j < us.length
        · have hwr := hw.below (hB.mono hn₀)
          obtain ⟨b', off', eb, _, hc⟩ := hwr.at hlj
          cases eb
          have hcj := hc j hlj
          have hfj := hf j
          have hand := bits_and32 (wd us k) (wd us j) hfk hfj
          have hpl := place_lt hlt hlj
          have hbsz := hB.size
          by_cases hex : ∃ i, i < us.length ∧ wd us i = andW (wd us k) (wd us j)
          · obtain ⟨i, hi', he', hfi⟩ := first_ex _ _ hex
            have hix := Index_first (some ⟨b, off, none⟩) cap us (andW (wd us k) (wd us j)) n₀ i hl wr hwr hi' he' hfi
            have Hix := hide he'
            clear hex he' hfi hc hwr
            go_wp2_with (first
              | (go_at_call 71; refine hix.mono ?_; rintro e w2 ⟨rfl, hww⟩; rw [hww]; clear hww w2)
              | (at_builtin; refine wpList_append_own _ rfl _ _ 43 rfl w.heap.size 3 i0 (.int .i64 0) 1 8 Tryd.underlying43 hi hz0 hz1 hz2 rfl (by decide) _ _ _ rfl (hown.alloc _) ⟨wr.heap.size, 0, none⟩ 1 1 [.int .i64 (i : Nat)] rfl rfl (cell_one_new _ _ _) (fun u hu => by simp at hu; subst hu; rfl) (by unfold maxLen; omega) (by omega) (by simp; omega) ?_; intro v' w3 hown3 hgrow3 _; obtain ⟨g', cap', rfl⟩ := ownsRow_succ hown3))
            have hB3 : Below w.heap.size w w3 := (hB.alloc hbsz (.cells #[.int .i64 (i : Nat)] 3)).grown hgrow3 (by simp; omega) fun q eq => by
              apply Nat.le_of_not_lt; intro hql
              exact ownBlock_ge hown (b := q) hql eq.symm
            exact ⟨⟨j + 1, some ⟨g', 0, none⟩, cap', js ++ [i], by omega, by go_num, rfl, hB3, by rw [ivals_snoc]; exact hown3, hN.snoc hlj hi' Hix.out⟩, by simp [intOf]; omega⟩
          · have hno : ∀ i, i < us.length → wd us i ≠ andW (wd us k) (wd us j) := fun i hi he => hex ⟨i, hi, he⟩
            have hix := Index_none (some ⟨b, off, none⟩) cap us (andW (wd us k) (wd us j)) n₀ hl wr hwr hno
            have Hno := hide hno
            clear hex hno hc hwr
            go_wp2_with (go_at_call 71; refine hix.mono ?_; rintro e w2 ⟨rfl, hww⟩; rw [hww]; clear hww w2)
            go_ret2
            exact ⟨hB, .inl ⟨⟨k, j, hlt, hlj, Hno.out⟩, rfl⟩⟩
        · obtain rfl : j = us.length := by omega
          have e1 : k * us.length + us.length = (k + 1) * us.length := by rw [Nat.add_mul]; omega
          rw [e1] at hown hN
          go_wp2
          rw [e1]
          exact ⟨⟨k + 1, av, cv, js, by omega, by go_num, rfl, hB, hown, hN⟩, by simp [intOf]; omega⟩
    · obtain rfl : k = us.length := by omega
      go_wp2
      go_ret2
      exact ⟨hB, .inr ⟨av, cv, js, rfl, hN, hown⟩⟩
/-- the same, told by one answer -/
theorem nearest_det (a : Option Addr) (cap : Nat) (us : List Nat) (jb : Bool) (hjb : nearB us = jb) (n₀ : Nat) (hf : Fit us) (hl : us.length ≤ 16) (w : World) (hw : IsWords n₀ w a us) (hn₀ : n₀ ≤ w.heap.size) :
    Calls Tryd.prog 54 #[.slice a us.length cap] w fun e w' => ∃ av lv cv, e = .returned (.tuple #[.slice av lv cv, .bool jb]) ∧ Below w.heap.size w w' ∧ (jb = true → lv = us.length * us.length ∧ ∃ js, NearTo us js (us.length * us.length) ∧ w'.ownsRow w.heap.size 3 1 (.slice av (us.length * us.length) cv) (us.length * us.length) (ivals js)) := by
  subst hjb
  exact (nearest_any a cap us n₀ hf hl w hw hn₀).mono (by
    rintro e w' ⟨hb, ⟨hno, rfl⟩ | ⟨av, cv, js, rfl, hN, hown⟩⟩
    · rw [nearB_false.2 hno]
      exact ⟨_, _, _, rfl, hb, fun h => by cases h⟩
    · rw [nearB_true.2 hN.none]
      exact ⟨av, _, cv, rfl, hb, fun _ => ⟨rfl, js, hN, hown⟩⟩)
end Go.Proofs.YtdomcjfgmnpbmaaDoor

namespace Go.Proofs.YtdomcjfgmnpbmaaDoor
open Go.RowKit Go.Shelf

theorem mul_in {x n : Nat} (hx : x < n) (hn : n ≤ 16) : IntKind.i64.wrap ((x : Int) * (n : Int)) = ((x * n : Nat) : Int) := by
  have h : x * n ≤ 16 * 16 := Nat.mul_le_mul (by omega) hn
  rw [← Int.natCast_mul]; exact IntWalk.i64_in _ (by omega)
theorem add_in {x y n : Nat} (hx : x < n) (hy : y < n) (hn : n ≤ 16) : IntKind.i64.wrap (((x * n : Nat) : Int) + (y : Int)) = ((x * n + y : Nat) : Int) := by
  have h : x * n ≤ 16 * 16 := Nat.mul_le_mul (by omega) hn
  rw [← Int.natCast_add]; exact IntWalk.i64_in _ (by omega)

set_option maxRecDepth 100000 in
set_option maxHeartbeats 1000000 in
theorem tmeet_any (n : Nat) (a : Option Addr) (cap : Nat) (aj : Option Addr) (cj : Nat) (am : Option Addr) (cm : Nat) (bt tp : Int) (ms : List Nat) (x y n₀ : Nat) (hn : n ≤ 16) (hx : x < n) (hy : y < n) (hl : ms.length = n * n) (w : World) (hw : IsInts n₀ w am ms) (hn₀ : n₀ ≤ w.heap.size) :
    Calls Tryd.prog 61 #[.agg #[.int .i64 n, .slice a n cap, .slice aj (n * n) cj, .slice am (n * n) cm, .int .i64 bt, .int .i64 tp], .int .i64 x, .int .i64 y] w fun e w' => e = .returned (.int .i64 (at2 ms n x y : Nat)) ∧ Below w.heap.size w w' := by
  have hpl := place_lt hx hy
  obtain ⟨b, off, rfl, hb, hc⟩ := hw.at (show x * n + y < ms.length by rw [hl]; exact hpl)
  have hcx := hc (x * n + y) (by rw [hl]; exact hpl)
  have hbw : b < w.heap.size := by omega
  have hm := mul_in hx hn
  have ha := add_in hx hy hn
  have h256 : n * n ≤ 256 := Nat.mul_le_mul hn hn
  have hpi : ((x * n + y : Nat) : Int) < ((n * n : Nat) : Int) := by omega
  generalize hnn : n * n = nn at *
  generalize hxx : x * n = xx at *
  have e2 : at2 ms n x y = wd ms (xx + y) := by unfold at2; rw [hxx]
  rw [e2]
  clear hc hl e2 hnn hxx
  go_enter Tryd.func61, Tryd.ntmps61
  go_wp2
  go_ret
  exact ⟨rfl, (Below.refl _ _).alloc (Nat.le_refl _) _⟩
set_option maxRecDepth 100000 in
set_option maxHeartbeats 1000000 in
theorem tjoin_any (n : Nat) (a : Option Addr) (cap : Nat) (aj : Option Addr) (cj : Nat) (am : Option Addr) (cm : Nat) (bt tp : Int) (js : List Nat) (x y n₀ : Nat) (hn : n ≤ 16) (hx : x < n) (hy : y < n) (hl : js.length = n * n) (w : World) (hw : IsInts n₀ w aj js) (hn₀ : n₀ ≤ w.heap.size) :
    Calls Tryd.prog 60 #[.agg #[.int .i64 n, .slice a n cap, .slice aj (n * n) cj, .slice am (n * n) cm, .int .i64 bt, .int .i64 tp], .int .i64 x, .int .i64 y] w fun e w' => e = .returned (.int .i64 (at2 js n x y : Nat)) ∧ Below w.heap.size w w' := by
  have hpl := place_lt hx hy
  obtain ⟨b, off, rfl, hb, hc⟩ := hw.at (show x * n + y < js.length by rw [hl]; exact hpl)
  have hcx := hc (x * n + y) (by rw [hl]; exact hpl)
  have hbw : b < w.heap.size := by omega
  have hm := mul_in hx hn
  have ha := add_in hx hy hn
  have h256 : n * n ≤ 256 := Nat.mul_le_mul hn hn
  have hpi : ((x * n + y : Nat) : Int) < ((n * n : Nat) : Int) := by omega
  generalize hnn : n * n = nn at *
  generalize hxx : x * n = xx at *
  have e2 : at2 js n x y = wd js (xx + y) := by unfold at2; rw [hxx]
  rw [e2]
  clear hc hl e2 hnn hxx
  go_enter Tryd.func60, Tryd.ntmps60
  go_wp2
  go_ret
  exact ⟨rfl, (Below.refl _ _).alloc (Nat.le_refl _) _⟩

theorem wd_range {n k : Nat} (h : k < n) : wd (List.range n) k = k := by
  unfold wd; rw [List.getD_eq_getElem?_getD, List.getElem?_range h]; rfl

set_option maxRecDepth 100000 in
set_option maxHeartbeats 1000000 in
theorem elements_any (n : Nat) (a : Option Addr) (cap : Nat) (aj : Option Addr) (lj cj : Nat) (am : Option Addr) (lm cm : Nat) (bt tp : Int) (hn : n ≤ 16) (w : World) :
    Calls Tryd.prog 57 #[.agg #[.int .i64 n, .slice a n cap, .slice aj lj cj, .slice am lm cm, .int .i64 bt, .int .i64 tp]] w fun e w' => e = .returned (.slice (some ⟨w.heap.size + 1, 0, none⟩) n n) ∧ Below w.heap.size w w' ∧ Row w' (w.heap.size + 1) 3 (ivals (List.range n)) := by
  have hmk := run_make_row' (P := Tryd.prog) 43 3 (.int .i64 0) 8 Tryd.underlying43 info_int rfl .i64 .i64 n (by omega) (by omega)
  go_enter Tryd.func57, Tryd.ntmps57
  go_wp2
  go_loopw [11] (fun i wr => ∃ (k : Nat) (l : List Nat), k ≤ n ∧ i = .int .i64 k ∧ Below w.heap.size w wr ∧ l.length = n ∧ Row wr (w.heap.size + 1) 3 (ivals l) ∧ ∀ j, j < k → wd l j = j) (fun i _ => n - (intOf i).toNat)
  case atStart =>
    have r1 := Row.new (w.alloc (.cells #[.int .i64 n, .slice a n cap, .slice aj lj cj, .slice am lm cm, .int .i64 bt, .int .i64 tp] 69)) 3 (ivals (List.replicate n 0))
    rw [World.size_alloc, ← ivals_replicate] at r1
    exact ⟨0, List.replicate n 0, Nat.zero_le _, rfl, ((Below.refl _ _).alloc (Nat.le_refl _) _).alloc (by simp) _, by simp, r1, fun j hj => by omega⟩
  case round =>
    clear hmk
    obtain ⟨k, l, hk, rfl, hB, hl, r1, hall⟩ := hrel
    by_cases hlt : k < n
    · have f1 := r1.frozen k
      have c1 := r1.cell (ivals_at (show k < l.length by omega))
      go_wp2
      refine ⟨⟨k + 1, l.set k k, by omega, by go_num, hB.setCell (p := ⟨w.heap.size + 1, k, none⟩) (by simp) _, by simp [hl], by rw [← ivals_set]; exact r1.set k _, fun j hj => ?_⟩, by simp [intOf]; omega⟩
      rw [wd_set (by omega)]
      split
      · rename_i e; exact e
      · exact hall j (by omega)
    · obtain rfl : k = n := by omega
      go_wp2
      go_ret
      refine ⟨rfl, hB, ?_⟩
      have : l = List.range k := by
        apply List.ext_getElem (by simp [hl])
        intro i h1 h2
        have := hall i (by omega)
        unfold wd at this
        simpa [List.getD_eq_getElem?_getD, List.getElem?_eq_getElem h1] using this
      rw [← this]
      exact r1

set_option maxRecDepth 100000 in
set_option maxHeartbeats 1000000 in
theorem gathered_meet (T : Value) (f : Nat → Nat → Nat) (n x₀ : Nat) (ao : Option Addr) (co : Nat) (n₀ : Nat) (hn : n ≤ 16) (hx : x₀ < n) (hflt : ∀ a b, a < n → b < n → f a b < n) (w : World) (hw : IsInts n₀ w ao (List.range n)) (hn₀ : n₀ ≤ w.heap.size)
    (hcall : ∀ (x y : Nat) (W : World), x < n → y < n → Below w.heap.size w W → Calls Tryd.prog 61 #[T, .int .i64 x, .int .i64 y] W fun e w' => e = .returned (.int .i64 (f x y : Nat)) ∧ Below W.heap.size W w') :
    Calls Tryd.prog 72 #[.func (.func 61) #[T] #[], .int .i64 x₀, .slice ao n co] w fun e w' => e = .returned (.int .i64 (gath f x₀ n : Nat)) ∧ Below w.heap.size w w' := by
  go_enter Tryd.func72, Tryd.ntmps72
  go_wp2
  go_loopw [1, 11] (fun x i wr => ∃ (k : Nat), k ≤ n ∧ i = .int .i64 k ∧ x = .int .i64 (gath f x₀ k : Nat) ∧ Below w.heap.size w wr) (fun _ i _ => n - (intOf i).toNat)
  case atStart => exact ⟨0, Nat.zero_le _, rfl, rfl, Below.refl _ _⟩
  case round =>
    obtain ⟨k, hk, rfl, rfl, hB⟩ := hrel
    by_cases hlt : k < n
    · obtain ⟨b, off, rfl, hb, hc⟩ := (hw.below (hB.mono hn₀)).at (show k < (List.range n).length by simp; exact hlt)
      have hck := hc k (by simp; exact hlt)
      rw [wd_range hlt] at hck
      have hg := gath_lt hflt hx k (by omega)
      have hcl := hcall (gath f x₀ k) k wr hg hlt hB
      have hsz := hB.size
      clear hc hcall
      go_wp2_with (go_at_call 61; refine hcl.mono ?_; rintro e w2 ⟨rfl, hb2⟩)
      exact ⟨⟨k + 1, by omega, by go_num, rfl, hB.trans (hb2.mono hsz)⟩, by simp [intOf]; omega⟩
    · obtain rfl : k = n := by omega
      go_wp2
      go_ret
      exact ⟨rfl, hB⟩
set_option maxRecDepth 100000 in
set_option maxHeartbeats 1000000 in
theorem gathered_join (T : Value) (f : Nat → Nat → Nat) (n x₀ : Nat) (ao : Option Addr) (co : Nat) (n₀ : Nat) (hn : n ≤ 16) (hx : x₀ < n) (hflt : ∀ a b, a < n → b < n → f a b < n) (w : World) (hw : IsInts n₀ w ao (List.range n)) (hn₀ : n₀ ≤ w.heap.size)
    (hcall : ∀ (x y : Nat) (W : World), x < n → y < n → Below w.heap.size w W → Calls Tryd.prog 60 #[T, .int .i64 x, .int .i64 y] W fun e w' => e = .returned (.int .i64 (f x y : Nat)) ∧ Below W.heap.size W w') :
    Calls Tryd.prog 72 #[.func (.func 60) #[T] #[], .int .i64 x₀, .slice ao n co] w fun e w' => e = .returned (.int .i64 (gath f x₀ n : Nat)) ∧ Below w.heap.size w w' := by
  go_enter Tryd.func72, Tryd.ntmps72
  go_wp2
  go_loopw [1, 11] (fun x i wr => ∃ (k : Nat), k ≤ n ∧ i = .int .i64 k ∧ x = .int .i64 (gath f x₀ k : Nat) ∧ Below w.heap.size w wr) (fun _ i _ => n - (intOf i).toNat)
  case atStart => exact ⟨0, Nat.zero_le _, rfl, rfl, Below.refl _ _⟩
  case round =>
    obtain ⟨k, hk, rfl, rfl, hB⟩ := hrel
    by_cases hlt : k < n
    · obtain ⟨b, off, rfl, hb, hc⟩ := (hw.below (hB.mono hn₀)).at (show k < (List.range n).length by simp; exact hlt)
      have hck := hc k (by simp; exact hlt)
      rw [wd_range hlt] at hck
      have hg := gath_lt hflt hx k (by omega)
      have hcl := hcall (gath f x₀ k) k wr hg hlt hB
      have hsz := hB.size
      clear hc hcall
      go_wp2_with (go_at_call 60; refine hcl.mono ?_; rintro e w2 ⟨rfl, hb2⟩)
      exact ⟨⟨k + 1, by omega, by go_num, rfl, hB.trans (hb2.mono hsz)⟩, by simp [intOf]; omega⟩
    · obtain rfl : k = n := by omega
      go_wp2
      go_ret
      exact ⟨rfl, hB⟩

set_option maxRecDepth 100000 in
set_option maxHeartbeats 1000000 in
theorem MeetOf_any (n : Nat) (a : Option Addr) (cap : Nat) (aj : Option Addr) (cj : Nat) (am : Option Addr) (cm : Nat) (bt tp : Int) (ms : List Nat) (ao : Option Addr) (co : Nat) (n₀ : Nat) (hn : n ≤ 16) (h0 : 0 < n) (hl : ms.length = n * n) (hlt : ∀ a b, a < n → b < n → at2 ms n a b < n) (w : World) (hw : IsInts n₀ w am ms) (ho : IsInts n₀ w ao (List.range n)) (hn₀ : n₀ ≤ w.heap.size) :
    Calls Tryd.prog 56 #[.agg #[.int .i64 n, .slice a n cap, .slice aj (n * n) cj, .slice am (n * n) cm, .int .i64 bt, .int .i64 tp], .int .i64 0, .slice ao n co] w fun e w' => e = .returned (.int .i64 (gath (at2 ms n) 0 n : Nat)) ∧ Below w.heap.size w w' := by
  have hb0 : Below w.heap.size w (w.alloc (.cells #[.int .i64 n, .slice a n cap, .slice aj (n * n) cj, .slice am (n * n) cm, .int .i64 bt, .int .i64 tp] 69)) := (Below.refl _ _).alloc (Nat.le_refl _) _
  have hga := gathered_meet (.agg #[.int .i64 n, .slice a n cap, .slice aj (n * n) cj, .slice am (n * n) cm, .int .i64 bt, .int .i64 tp]) (at2 ms n) n 0 ao co n₀ hn h0 hlt _ (ho.below (hb0.mono hn₀)) (by simp; omega) (fun x y W hx hy hB => tmeet_any n a cap aj cj am cm bt tp ms x y n₀ hn hx hy hl W ((hw.below (hb0.mono hn₀)).below (hB.mono (by simp; omega))) (by have := hB.size; simp at this; omega))
  have Hb := hide hb0
  clear hb0
  go_enter Tryd.func56, Tryd.ntmps56
  go_wp2_with (go_at_call 72; refine hga.mono ?_; rintro e w1 ⟨rfl, hb1⟩)
  go_ret
  exact ⟨rfl, Hb.out.trans (hb1.mono (by simp))⟩
set_option maxRecDepth 100000 in
set_option maxHeartbeats 1000000 in
theorem JoinOf_any (n : Nat) (a : Option Addr) (cap : Nat) (aj : Option Addr) (cj : Nat) (am : Option Addr) (cm : Nat) (bt tp : Int) (js : List Nat) (ao : Option Addr) (co : Nat) (n₀ : Nat) (hn : n ≤ 16) (h0 : 0 < n) (hl : js.length = n * n) (hlt : ∀ a b, a < n → b < n → at2 js n a b < n) (w : World) (hw : IsInts n₀ w aj js) (ho : IsInts n₀ w ao (List.range n)) (hn₀ : n₀ ≤ w.heap.size) :
    Calls Tryd.prog 58 #[.agg #[.int .i64 n, .slice a n cap, .slice aj (n * n) cj, .slice am (n * n) cm, .int .i64 bt, .int .i64 tp], .int .i64 0, .slice ao n co] w fun e w' => e = .returned (.int .i64 (gath (at2 js n) 0 n : Nat)) ∧ Below w.heap.size w w' := by
  have hb0 : Below w.heap.size w (w.alloc (.cells #[.int .i64 n, .slice a n cap, .slice aj (n * n) cj, .slice am (n * n) cm, .int .i64 bt, .int .i64 tp] 69)) := (Below.refl _ _).alloc (Nat.le_refl _) _
  have hga := gathered_join (.agg #[.int .i64 n, .slice a n cap, .slice aj (n * n) cj, .slice am (n * n) cm, .int .i64 bt, .int .i64 tp]) (at2 js n) n 0 ao co n₀ hn h0 hlt _ (ho.below (hb0.mono hn₀)) (by simp; omega) (fun x y W hx hy hB => tjoin_any n a cap aj cj am cm bt tp js x y n₀ hn hx hy hl W ((hw.below (hb0.mono hn₀)).below (hB.mono (by simp; omega))) (by have := hB.size; simp at this; omega))
  have Hb := hide hb0
  clear hb0
  go_enter Tryd.func58, Tryd.ntmps58
  go_wp2_with (go_at_call 72; refine hga.mono ?_; rintro e w1 ⟨rfl, hb1⟩)
  go_ret
  exact ⟨rfl, Hb.out.trans (hb1.mono (by simp))⟩
end Go.Proofs.YtdomcjfgmnpbmaaDoor
