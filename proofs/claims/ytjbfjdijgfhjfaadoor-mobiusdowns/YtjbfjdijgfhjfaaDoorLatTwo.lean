/- The contracts of the program's join and meet of a table, of its elements, and of what is put together two by two. -/
import Derived.Test.YtjbfjdijgfhjfaaDoorLatLow
namespace Go.Proofs.YtjbfjdijgfhjfaaDoor
open Go.RowKit Go.Shelf

theorem mul_in {x n : Nat} (hx : x < n) (hn : n ≤ 16) : IntKind.i64.wrap ((x : Int) * (n : Int)) = ((x * n : Nat) : Int) := by
  have h : x * n ≤ 16 * 16 := Nat.mul_le_mul (by omega) hn
  rw [← Int.natCast_mul]; exact IntWalk.i64_in _ (by omega)
theorem add_in {x y n : Nat} (hx : x < n) (hy : y < n) (hn : n ≤ 16) : IntKind.i64.wrap (((x * n : Nat) : Int) + (y : Int)) = ((x * n + y : Nat) : Int) := by
  have h : x * n ≤ 16 * 16 := Nat.mul_le_mul (by omega) hn
  rw [← Int.natCast_add]; exact IntWalk.i64_in _ (by omega)

set_option maxRecDepth 100000 in
set_option maxHeartbeats 1000000 in
theorem tmeet_any (n : Nat) (a : Option Addr) (cap : Nat) (aj : Option Addr) (cj : Nat) (am : Option Addr) (cm : Nat) (bt tp : Int) (ms : List Nat) (x y n₀ : Nat) (hn : n ≤ 16) (hx : x < n) (hy : y < n) (hl : ms.length = n * n) (w : World) (hw : IsInts n₀ w am ms) (hn₀ : n₀ ≤ w.heap.size) :
    Calls Tryd.prog 59 #[.agg #[.int .i64 n, .slice a n cap, .slice aj (n * n) cj, .slice am (n * n) cm, .int .i64 bt, .int .i64 tp], .int .i64 x, .int .i64 y] w fun e w' => e = .returned (.int .i64 (at2 ms n x y : Nat)) ∧ Below w.heap.size w w' := by
  have hpl := place_lt hx hy
  obtain ⟨b, off, rfl, hb, hc⟩ := hw.at (show x * n + y < ms.length by rw [hl]; exact hpl)
  have hcx := hc (x * n + y) (by rw [hl]; exact hpl)
  have hbw : b < w.heap.size := by omega
  have hm := mul_in hx hn
  have ha := add_in hx hy hn
  have h256 : n * n ≤ 256 := Nat.mul_le_mul hn hn
  have hpi : ((x * n + y : Nat) : Int) < ((n * n : Nat) : Int) := by omega
  generalize hnn : n * n = nn at *
  generalize hxx : x * n = xx at *
  have e2 : at2 ms n x y = wd ms (xx + y) := by unfold at2; rw [hxx]
  rw [e2]
  clear hc hl e2 hnn hxx
  go_enter Tryd.func59, Tryd.ntmps59
  go_wp2
  go_ret
  exact ⟨rfl, (Below.refl _ _).alloc (Nat.le_refl _) _⟩
set_option maxRecDepth 100000 in
set_option maxHeartbeats 1000000 in
theorem tjoin_any (n : Nat) (a : Option Addr) (cap : Nat) (aj : Option Addr) (cj : Nat) (am : Option Addr) (cm : Nat) (bt tp : Int) (js : List Nat) (x y n₀ : Nat) (hn : n ≤ 16) (hx : x < n) (hy : y < n) (hl : js.length = n * n) (w : World) (hw : IsInts n₀ w aj js) (hn₀ : n₀ ≤ w.heap.size) :
    Calls Tryd.prog 60 #[.agg #[.int .i64 n, .slice a n cap, .slice aj (n * n) cj, .slice am (n * n) cm, .int .i64 bt, .int .i64 tp], .int .i64 x, .int .i64 y] w fun e w' => e = .returned (.int .i64 (at2 js n x y : Nat)) ∧ Below w.heap.size w w' := by
  have hpl := place_lt hx hy
  obtain ⟨b, off, rfl, hb, hc⟩ := hw.at (show x * n + y < js.length by rw [hl]; exact hpl)
  have hcx := hc (x * n + y) (by rw [hl]; exact hpl)
  have hbw : b < w.heap.size := by omega
  have hm := mul_in hx hn
  have ha := add_in hx hy hn
  have h256 : n * n ≤ 256 := Nat.mul_le_mul hn hn
  have hpi : ((x * n + y : Nat) : Int) < ((n * n : Nat) : Int) := by omega
  generalize hnn : n * n = nn at *
  generalize hxx : x * n = xx at *
  have e2 : at2 js n x y = wd js (xx + y) := by unfold at2; rw [hxx]
  rw [e2]
  clear hc hl e2 hnn hxx
  go_enter Tryd.func60, Tryd.ntmps60
  go_wp2
  go_ret
  exact ⟨rfl, (Below.refl _ _).alloc (Nat.le_refl _) _⟩

theorem wd_range {n k : Nat} (h : k < n) : wd (List.range n) k = k := by
  unfold wd; rw [List.getD_eq_getElem?_getD, List.getElem?_range h]; rfl

set_option maxRecDepth 100000 in
set_option maxHeartbeats 1000000 in
theorem elements_any (n : Nat) (a : Option Addr) (cap : Nat) (aj : Option Addr) (lj cj : Nat) (am : Option Addr) (lm cm : Nat) (bt tp : Int) (hn : n ≤ 16) (w : World) :
    Calls Tryd.prog 51 #[.agg #[.int .i64 n, .slice a n cap, .slice aj lj cj, .slice am lm cm, .int .i64 bt, .int .i64 tp]] w fun e w' => e = .returned (.slice (some ⟨w.heap.size + 1, 0, none⟩) n n) ∧ Below w.heap.size w w' ∧ Row w' (w.heap.size + 1) 3 (ivals (List.range n)) := by
  have hmk := run_make_row' (P := Tryd.prog) 25 3 (.int .i64 0) 8 Tryd.underlying25 info_int rfl .i64 .i64 n (by omega) (by omega)
  go_enter Tryd.func51, Tryd.ntmps51
  go_wp2
  go_loopw [11] (fun i wr => ∃ (k : Nat) (l : List Nat), k ≤ n ∧ i = .int .i64 k ∧ Below w.heap.size w wr ∧ l.length = n ∧ Row wr (w.heap.size + 1) 3 (ivals l) ∧ ∀ j, j < k → wd l j = j) (fun i _ => n - (intOf i).toNat)
  case atStart =>
    have r1 := Row.new (w.alloc (.cells #[.int .i64 n, .slice a n cap, .slice aj lj cj, .slice am lm cm, .int .i64 bt, .int .i64 tp] 73)) 3 (ivals (List.replicate n 0))
    rw [World.size_alloc, ← ivals_replicate] at r1
    exact ⟨0, List.replicate n 0, Nat.zero_le _, rfl, ((Below.refl _ _).alloc (Nat.le_refl _) _).alloc (by simp) _, by simp, r1, fun j hj => by omega⟩
  case round =>
    clear hmk
    obtain ⟨k, l, hk, rfl, hB, hl, r1, hall⟩ := hrel
    by_cases hlt : k < n
    · have f1 := r1.frozen k
      have c1 := r1.cell (ivals_at (show k < l.length by omega))
      go_wp2
      refine ⟨⟨k + 1, l.set k k, by omega, by go_num, hB.setCell (p := ⟨w.heap.size + 1, k, none⟩) (by simp) _, by simp [hl], by rw [← ivals_set]; exact r1.set k _, fun j hj => ?_⟩, by simp [intOf]; omega⟩
      rw [wd_set (by omega)]
      split
      · rename_i e; exact e
      · exact hall j (by omega)
    · obtain rfl : k = n := by omega
      go_wp2
      go_ret
      refine ⟨rfl, hB, ?_⟩
      have : l = List.range k := by
        apply List.ext_getElem (by simp [hl])
        intro i h1 h2
        have := hall i (by omega)
        unfold wd at this
        simpa [List.getD_eq_getElem?_getD, List.getElem?_eq_getElem h1] using this
      rw [← this]
      exact r1

set_option maxRecDepth 100000 in
set_option maxHeartbeats 1000000 in
theorem gathered_meet (T : Value) (f : Nat → Nat → Nat) (n x₀ : Nat) (ao : Option Addr) (co : Nat) (n₀ : Nat) (hn : n ≤ 16) (hx : x₀ < n) (hflt : ∀ a b, a < n → b < n → f a b < n) (w : World) (hw : IsInts n₀ w ao (List.range n)) (hn₀ : n₀ ≤ w.heap.size)
    (hcall : ∀ (x y : Nat) (W : World), x < n → y < n → Below w.heap.size w W → Calls Tryd.prog 59 #[T, .int .i64 x, .int .i64 y] W fun e w' => e = .returned (.int .i64 (f x y : Nat)) ∧ Below W.heap.size W w') :
    Calls Tryd.prog 58 #[.func (.func 59) #[T] #[], .int .i64 x₀, .slice ao n co] w fun e w' => e = .returned (.int .i64 (gath f x₀ n : Nat)) ∧ Below w.heap.size w w' := by
  go_enter Tryd.func58, Tryd.ntmps58
  go_wp2
  go_loopw [1, 11] (fun x i wr => ∃ (k : Nat), k ≤ n ∧ i = .int .i64 k ∧ x = .int .i64 (gath f x₀ k : Nat) ∧ Below w.heap.size w wr) (fun _ i _ => n - (intOf i).toNat)
  case atStart => exact ⟨0, Nat.zero_le _, rfl, rfl, Below.refl _ _⟩
  case round =>
    obtain ⟨k, hk, rfl, rfl, hB⟩ := hrel
    by_cases hlt : k < n
    · obtain ⟨b, off, rfl, hb, hc⟩ := (hw.below (hB.mono hn₀)).at (show k < (List.range n).length by simp; exact hlt)
      have hck := hc k (by simp; exact hlt)
      rw [wd_range hlt] at hck
      have hg := gath_lt hflt hx k (by omega)
      have hcl := hcall (gath f x₀ k) k wr hg hlt hB
      have hsz := hB.size
      clear hc hcall
      go_wp2_with (go_at_call 59; refine hcl.mono ?_; rintro e w2 ⟨rfl, hb2⟩)
      exact ⟨⟨k + 1, by omega, by go_num, rfl, hB.trans (hb2.mono hsz)⟩, by simp [intOf]; omega⟩
    · obtain rfl : k = n := by omega
      go_wp2
      go_ret
      exact ⟨rfl, hB⟩
set_option maxRecDepth 100000 in
set_option maxHeartbeats 1000000 in
theorem gathered_join (T : Value) (f : Nat → Nat → Nat) (n x₀ : Nat) (ao : Option Addr) (co : Nat) (n₀ : Nat) (hn : n ≤ 16) (hx : x₀ < n) (hflt : ∀ a b, a < n → b < n → f a b < n) (w : World) (hw : IsInts n₀ w ao (List.range n)) (hn₀ : n₀ ≤ w.heap.size)
    (hcall : ∀ (x y : Nat) (W : World), x < n → y < n → Below w.heap.size w W → Calls Tryd.prog 60 #[T, .int .i64 x, .int .i64 y] W fun e w' => e = .returned (.int .i64 (f x y : Nat)) ∧ Below W.heap.size W w') :
    Calls Tryd.prog 58 #[.func (.func 60) #[T] #[], .int .i64 x₀, .slice ao n co] w fun e w' => e = .returned (.int .i64 (gath f x₀ n : Nat)) ∧ Below w.heap.size w w' := by
  go_enter Tryd.func58, Tryd.ntmps58
  go_wp2
  go_loopw [1, 11] (fun x i wr => ∃ (k : Nat), k ≤ n ∧ i = .int .i64 k ∧ x = .int .i64 (gath f x₀ k : Nat) ∧ Below w.heap.size w wr) (fun _ i _ => n - (intOf i).toNat)
  case atStart => exact ⟨0, Nat.zero_le _, rfl, rfl, Below.refl _ _⟩
  case round =>
    obtain ⟨k, hk, rfl, rfl, hB⟩ := hrel
    by_cases hlt : k < n
    · obtain ⟨b, off, rfl, hb, hc⟩ := (hw.below (hB.mono hn₀)).at (show k < (List.range n).length by simp; exact hlt)
      have hck := hc k (by simp; exact hlt)
      rw [wd_range hlt] at hck
      have hg := gath_lt hflt hx k (by omega)
      have hcl := hcall (gath f x₀ k) k wr hg hlt hB
      have hsz := hB.size
      clear hc hcall
      go_wp2_with (go_at_call 60; refine hcl.mono ?_; rintro e w2 ⟨rfl, hb2⟩)
      exact ⟨⟨k + 1, by omega, by go_num, rfl, hB.trans (hb2.mono hsz)⟩, by simp [intOf]; omega⟩
    · obtain rfl : k = n := by omega
      go_wp2
      go_ret
      exact ⟨rfl, hB⟩

set_option maxRecDepth 100000 in
set_option maxHeartbeats 1000000 in
theorem MeetOf_any (n : Nat) (a : Option Addr) (cap : Nat) (aj : Option Addr) (cj : Nat) (am : Option Addr) (cm : Nat) (bt tp : Int) (ms : List Nat) (ao : Option Addr) (co : Nat) (n₀ : Nat) (hn : n ≤ 16) (h0 : 0 < n) (hl : ms.length = n * n) (hlt : ∀ a b, a < n → b < n → at2 ms n a b < n) (w : World) (hw : IsInts n₀ w am ms) (ho : IsInts n₀ w ao (List.range n)) (hn₀ : n₀ ≤ w.heap.size) :
    Calls Tryd.prog 50 #[.agg #[.int .i64 n, .slice a n cap, .slice aj (n * n) cj, .slice am (n * n) cm, .int .i64 bt, .int .i64 tp], .int .i64 0, .slice ao n co] w fun e w' => e = .returned (.int .i64 (gath (at2 ms n) 0 n : Nat)) ∧ Below w.heap.size w w' := by
  have hb0 : Below w.heap.size w (w.alloc (.cells #[.int .i64 n, .slice a n cap, .slice aj (n * n) cj, .slice am (n * n) cm, .int .i64 bt, .int .i64 tp] 73)) := (Below.refl _ _).alloc (Nat.le_refl _) _
  have hga := gathered_meet (.agg #[.int .i64 n, .slice a n cap, .slice aj (n * n) cj, .slice am (n * n) cm, .int .i64 bt, .int .i64 tp]) (at2 ms n) n 0 ao co n₀ hn h0 hlt _ (ho.below (hb0.mono hn₀)) (by simp; omega) (fun x y W hx hy hB => tmeet_any n a cap aj cj am cm bt tp ms x y n₀ hn hx hy hl W ((hw.below (hb0.mono hn₀)).below (hB.mono (by simp; omega))) (by have := hB.size; simp at this; omega))
  have Hb := hide hb0
  clear hb0
  go_enter Tryd.func50, Tryd.ntmps50
  go_wp2_with (go_at_call 58; refine hga.mono ?_; rintro e w1 ⟨rfl, hb1⟩)
  go_ret
  exact ⟨rfl, Hb.out.trans (hb1.mono (by simp))⟩
set_option maxRecDepth 100000 in
set_option maxHeartbeats 1000000 in
theorem JoinOf_any (n : Nat) (a : Option Addr) (cap : Nat) (aj : Option Addr) (cj : Nat) (am : Option Addr) (cm : Nat) (bt tp : Int) (js : List Nat) (ao : Option Addr) (co : Nat) (n₀ : Nat) (hn : n ≤ 16) (h0 : 0 < n) (hl : js.length = n * n) (hlt : ∀ a b, a < n → b < n → at2 js n a b < n) (w : World) (hw : IsInts n₀ w aj js) (ho : IsInts n₀ w ao (List.range n)) (hn₀ : n₀ ≤ w.heap.size) :
    Calls Tryd.prog 52 #[.agg #[.int .i64 n, .slice a n cap, .slice aj (n * n) cj, .slice am (n * n) cm, .int .i64 bt, .int .i64 tp], .int .i64 0, .slice ao n co] w fun e w' => e = .returned (.int .i64 (gath (at2 js n) 0 n : Nat)) ∧ Below w.heap.size w w' := by
  have hb0 : Below w.heap.size w (w.alloc (.cells #[.int .i64 n, .slice a n cap, .slice aj (n * n) cj, .slice am (n * n) cm, .int .i64 bt, .int .i64 tp] 73)) := (Below.refl _ _).alloc (Nat.le_refl _) _
  have hga := gathered_join (.agg #[.int .i64 n, .slice a n cap, .slice aj (n * n) cj, .slice am (n * n) cm, .int .i64 bt, .int .i64 tp]) (at2 js n) n 0 ao co n₀ hn h0 hlt _ (ho.below (hb0.mono hn₀)) (by simp; omega) (fun x y W hx hy hB => tjoin_any n a cap aj cj am cm bt tp js x y n₀ hn hx hy hl W ((hw.below (hb0.mono hn₀)).below (hB.mono (by simp; omega))) (by have := hB.size; simp at this; omega))
  have Hb := hide hb0
  clear hb0
  go_enter Tryd.func52, Tryd.ntmps52
  go_wp2_with (go_at_call 58; refine hga.mono ?_; rintro e w1 ⟨rfl, hb1⟩)
  go_ret
  exact ⟨rfl, Hb.out.trans (hb1.mono (by simp))⟩
end Go.Proofs.YtjbfjdijgfhjfaaDoor
