/- The contracts of a table's complemented, of its closure, and of slices.ContainsFunc and IndexFunc at it. The contract of threes and of the iterator that it hands back: all three elements, by the first, then the second, then the third. -/
import Derived.Test.YtdomcjfgmnpbmaaDoorPart21
import Derived.Laws.EntriesVeiled
import Derived.Test.YtdomcjfgmnpbmaaDoorPart22
import Derived.Test.YtdomcjfgmnpbmaaDoorPart2
import Derived.RangeFuncKeeps
namespace Go.Proofs.YtdomcjfgmnpbmaaDoor
open Go.RowKit Go.Shelf

/-- are x and y complements of each other? -/
def compB (js ms : List Nat) (n bt tp x y : Nat) : Bool := decide (at2 js n x y = tp) && decide (at2 ms n x y = bt)

set_option maxRecDepth 100000 in
set_option maxHeartbeats 2000000 in
theorem comp1_any (BT BA n : Nat) (a : Option Addr) (cap : Nat) (aj : Option Addr) (cj : Nat) (am : Option Addr) (cm : Nat) (bt tp : Nat) (js ms : List Nat) (x y n₀ : Nat) (hn : n ≤ 16) (hx : x < n) (hy : y < n) (hlj : js.length = n * n) (hlm : ms.length = n * n) (w : World) (hT : Row w BT 69 [.int .i64 n, .slice a n cap, .slice aj (n * n) cj, .slice am (n * n) cm, .int .i64 (bt : Nat), .int .i64 (tp : Nat)]) (hA : w.cell? ⟨BA, 0, none⟩ = some (.int .i64 x)) (hj : IsInts n₀ w aj js) (hm : IsInts n₀ w am ms) (hn₀ : n₀ ≤ w.heap.size) :
    Calls Tryd.prog 59 #[.int .i64 y, .pointer (some ⟨BT, 0, none⟩), .pointer (some ⟨BA, 0, none⟩)] w fun e w' => e = .returned (.bool (compB js ms n bt tp x y)) ∧ Below w.heap.size w w' := by
  have t0 := cell_regrown (hT.cell (i := 0) rfl)
  have t1 := cell_regrown (hT.cell (i := 1) rfl)
  have t2 := cell_regrown (hT.cell (i := 2) rfl)
  have t3 := cell_regrown (hT.cell (i := 3) rfl)
  have t4 := cell_regrown (hT.cell (i := 4) rfl)
  have t5 := cell_regrown (hT.cell (i := 5) rfl)
  have a0 := cell_regrown hA
  obtain ⟨J, eJ⟩ : ∃ r, at2 js n x y = r := ⟨_, rfl⟩
  obtain ⟨M, eM⟩ : ∃ r, at2 ms n x y = r := ⟨_, rfl⟩
  have hcomp : compB js ms n bt tp x y = (decide (J = tp) && decide (M = bt)) := by unfold compB; rw [eJ, eM]
  rw [hcomp]
  have c1 := tjoin_re n a cap aj cj am cm (bt : Nat) (tp : Nat) js n₀ hn hlj w hj hn₀ x y J hx hy eJ
  have c2 := tmeet_re n a cap aj cj am cm (bt : Nat) (tp : Nat) ms n₀ hn hlm w hm hn₀ x y M hx hy eM
  clear eJ eM hcomp hA
  by_cases h1 : J = tp
  · have d1 : ((J : Int) == (tp : Int)) = true := by rw [h1]; simp
    have he : ((M : Int) == (bt : Int)) = decide (M = bt) := by
      by_cases e : M = bt
      · rw [decide_eq_true e, e]; simp
      · rw [decide_eq_false e, beq_eq_false_iff_ne]; omega
    have He := hide he
    have H1 := hide h1
    clear he h1
    go_enter Tryd.func59, Tryd.ntmps59
    go_wp2
    refine wp_region_quiet_below (by kernel_rfl) (by kernel_rfl) ?_
    repeat (go_big_quiet_step (first | with_reducible exact c1 _ _ | with_reducible exact c2 _ _))
    refine wpQuiet_nil ?_
    intro _ hw'
    obtain ⟨⟨dq, osq⟩, hw''⟩ := hw'
    subst hw''
    go_wp2
    go_ret
    exact ⟨ret_bool (by rw [He.out, decide_eq_true H1.out]; rfl), below_regrown _ _ _⟩
  · have d1 : ((J : Int) == (tp : Int)) = false := by rw [beq_eq_false_iff_ne]; omega
    have H1 := hide h1
    clear h1
    go_enter Tryd.func59, Tryd.ntmps59
    go_wp2
    refine wp_region_quiet_below (by kernel_rfl) (by kernel_rfl) ?_
    repeat (go_big_quiet_step (first | with_reducible exact c1 _ _ | with_reducible exact c2 _ _))
    refine wpQuiet_nil ?_
    intro _ hw'
    obtain ⟨⟨dq, osq⟩, hw''⟩ := hw'
    subst hw''
    go_wp2
    go_ret
    exact ⟨ret_bool (by rw [decide_eq_false H1.out]; rfl), below_regrown _ _ _⟩

/-- is there one of the first k? -/
def anyTo (js ms : List Nat) (n bt tp x k : Nat) : Bool := (List.range k).any fun y => compB js ms n bt tp x y

set_option maxRecDepth 100000 in
set_option maxHeartbeats 1000000 in
theorem IndexFunc_any (BT BA n : Nat) (a : Option Addr) (cap : Nat) (aj : Option Addr) (cj : Nat) (am : Option Addr) (cm : Nat) (bt tp : Nat) (js ms : List Nat) (x : Nat) (ao : Option Addr) (co : Nat) (n₀ : Nat) (hn : n ≤ 16) (hx : x < n) (hlj : js.length = n * n) (hlm : ms.length = n * n) (w : World) (hT : Row w BT 69 [.int .i64 n, .slice a n cap, .slice aj (n * n) cj, .slice am (n * n) cm, .int .i64 (bt : Nat), .int .i64 (tp : Nat)]) (hA : w.cell? ⟨BA, 0, none⟩ = some (.int .i64 x)) (hBA : BA < w.heap.size) (hj : IsInts n₀ w aj js) (hm : IsInts n₀ w am ms) (ho : IsInts n₀ w ao (List.range n)) (hn₀ : n₀ ≤ w.heap.size) :
    Calls Tryd.prog 73 #[.slice ao n co, .func (.func 59) #[] #[.pointer (some ⟨BT, 0, none⟩), .pointer (some ⟨BA, 0, none⟩)]] w fun e w' => Below w.heap.size w w' ∧ ((anyTo js ms n bt tp x n = false ∧ e = .returned (.int .i64 (-1))) ∨ (anyTo js ms n bt tp x n = true ∧ ∃ i : Nat, e = .returned (.int .i64 (i : Nat)))) := by
  go_enter Tryd.func73, Tryd.ntmps73
  go_wp2
  go_loopw [8] (fun i wr => ∃ k : Nat, k ≤ n ∧ i = .int .i64 k ∧ anyTo js ms n bt tp x k = false ∧ Below w.heap.size w wr) (fun i _ => n - (intOf i).toNat)
  case atStart => exact ⟨0, Nat.zero_le _, rfl, rfl, Below.refl _ _⟩
  case round =>
    obtain ⟨k, hk, rfl, hno, hB⟩ := hrel
    have hs := hB.size
    by_cases hlt : k < n
    · obtain ⟨b, off, rfl, hb, hc⟩ := (ho.below (hB.mono hn₀)).at (show k < (List.range n).length by simp; exact hlt)
      have hck := hc k (by simp; exact hlt)
      rw [wd_range hlt] at hck
      have hcall := comp1_any BT BA n a cap aj cj am cm bt tp js ms x k n₀ hn hx hlt hlj hlm wr (row_below hT hB hT.lt) ((hB.cell (p := ⟨BA, 0, none⟩) hBA).trans hA) (hj.below (hB.mono hn₀)) (hm.below (hB.mono hn₀)) (by omega)
      have hstep : anyTo js ms n bt tp x (k + 1) = (anyTo js ms n bt tp x k || compB js ms n bt tp x k) := by unfold anyTo; rw [List.range_succ, List.any_append]; simp
      rw [hno] at hstep
      clear hc
      cases hcb : compB js ms n bt tp x k with
      | true =>
        rw [hcb] at hcall
        have HC := hide (show anyTo js ms n bt tp x n = true from List.any_eq_true.2 ⟨k, List.mem_range.2 hlt, hcb⟩)
        clear hcb hstep
        go_wp2_with (go_at_call 59; refine hcall.mono ?_; rintro e w2 ⟨rfl, hb2⟩)
        go_ret
        exact ⟨hB.trans (hb2.mono hs), .inr ⟨HC.out, k, rfl⟩⟩
      | false =>
        rw [hcb] at hcall hstep
        have HS := hide hstep
        clear hcb hstep
        go_wp2_with (go_at_call 59; refine hcall.mono ?_; rintro e w2 ⟨rfl, hb2⟩)
        exact ⟨⟨k + 1, by omega, by go_num, HS.out, hB.trans (hb2.mono hs)⟩, by simp [intOf]; omega⟩
    · obtain rfl : k = n := by omega
      have HN := hide hno
      clear hno
      go_wp2
      go_ret
      exact ⟨hB, .inl ⟨HN.out, rfl⟩⟩

set_option maxRecDepth 100000 in
set_option maxHeartbeats 1000000 in
theorem ContainsFunc_any (BT BA n : Nat) (a : Option Addr) (cap : Nat) (aj : Option Addr) (cj : Nat) (am : Option Addr) (cm : Nat) (bt tp : Nat) (js ms : List Nat) (x : Nat) (ao : Option Addr) (co : Nat) (n₀ : Nat) (hn : n ≤ 16) (hx : x < n) (hlj : js.length = n * n) (hlm : ms.length = n * n) (w : World) (hT : Row w BT 69 [.int .i64 n, .slice a n cap, .slice aj (n * n) cj, .slice am (n * n) cm, .int .i64 (bt : Nat), .int .i64 (tp : Nat)]) (hA : w.cell? ⟨BA, 0, none⟩ = some (.int .i64 x)) (hBA : BA < w.heap.size) (hj : IsInts n₀ w aj js) (hm : IsInts n₀ w am ms) (ho : IsInts n₀ w ao (List.range n)) (hn₀ : n₀ ≤ w.heap.size) :
    Calls Tryd.prog 62 #[.slice ao n co, .func (.func 59) #[] #[.pointer (some ⟨BT, 0, none⟩), .pointer (some ⟨BA, 0, none⟩)]] w fun e w' => e = .returned (.bool (anyTo js ms n bt tp x n)) ∧ Below w.heap.size w w' := by
  have hix := IndexFunc_any BT BA n a cap aj cj am cm bt tp js ms x ao co n₀ hn hx hlj hlm w hT hA hBA hj hm ho hn₀
  cases hb : anyTo js ms n bt tp x n with
  | false =>
    have h1 := hix.mono (R' := fun e w' => e = .returned (.int .i64 (-1)) ∧ Below w.heap.size w w') (by
      rintro e w' ⟨hbel, ⟨_, rfl⟩ | ⟨h, _⟩⟩
      · exact ⟨rfl, hbel⟩
      · rw [hb] at h; cases h)
    clear hix hb
    go_enter Tryd.func62, Tryd.ntmps62
    go_wp2_with (go_at_call 73; refine h1.mono ?_; rintro e w1 ⟨rfl, hb1⟩)
    go_ret
    exact ⟨rfl, hb1⟩
  | true =>
    have h1 := hix.mono (R' := fun e w' => (∃ i : Nat, e = .returned (.int .i64 (i : Nat))) ∧ Below w.heap.size w w') (by
      rintro e w' ⟨hbel, ⟨h, _⟩ | ⟨_, h⟩⟩
      · rw [hb] at h; cases h
      · exact ⟨h, hbel⟩)
    clear hix hb
    go_enter Tryd.func62, Tryd.ntmps62
    go_wp2_with (go_at_call 73; refine h1.mono ?_; rintro e w1 ⟨⟨i, rfl⟩, hb1⟩)
    go_ret
    exact ⟨ret_bool (by simp), hb1⟩

/-- has each of the first k a complement? -/
def complTo (js ms : List Nat) (n bt tp k : Nat) : Bool := (List.range k).all fun x => anyTo js ms n bt tp x n

set_option maxRecDepth 100000 in
set_option maxHeartbeats 1000000 in
theorem complemented_any (n : Nat) (a : Option Addr) (cap : Nat) (aj : Option Addr) (cj : Nat) (am : Option Addr) (cm : Nat) (bt tp : Nat) (js ms : List Nat) (n₀ : Nat) (hn : n ≤ 16) (hlj : js.length = n * n) (hlm : ms.length = n * n) (w : World) (hj : IsInts n₀ w aj js) (hm : IsInts n₀ w am ms) (hn₀ : n₀ ≤ w.heap.size) :
    Calls Tryd.prog 41 #[.agg #[.int .i64 n, .slice a n cap, .slice aj (n * n) cj, .slice am (n * n) cm, .int .i64 (bt : Nat), .int .i64 (tp : Nat)]] w fun e w' => e = .returned (.bool (complTo js ms n bt tp n)) ∧ Below w.heap.size w w' := by
  have r0 := Row.new w 69 [.int .i64 n, .slice a n cap, .slice aj (n * n) cj, .slice am (n * n) cm, .int .i64 (bt : Nat), .int .i64 (tp : Nat)]
  have hb0 : Below w.heap.size w (w.alloc (.cells #[.int .i64 n, .slice a n cap, .slice aj (n * n) cj, .slice am (n * n) cm, .int .i64 (bt : Nat), .int .i64 (tp : Nat)] 69)) := (Below.refl _ _).alloc (Nat.le_refl _) _
  go_enter Tryd.func41, Tryd.ntmps41
  go_wp2
  obtain ⟨V, hV⟩ : ∃ V, V = w.alloc (.cells #[.int .i64 n, .slice a n cap, .slice aj (n * n) cj, .slice am (n * n) cm, .int .i64 (bt : Nat), .int .i64 (tp : Nat)] 69) := ⟨_, rfl⟩
  have hsV : V.heap.size = w.heap.size + 1 := by rw [hV]; simp
  rw [← hV] at r0 hb0 ⊢
  clear hV
  have hjV := hj.below (hb0.mono hn₀)
  have hmV := hm.below (hb0.mono hn₀)
  have lt0 := r0.lt
  go_loopw [8] (fun i wr => ∃ k : Nat, k ≤ n ∧ i = .int .i64 k ∧ complTo js ms n bt tp k = true ∧ Below V.heap.size V wr) (fun i _ => n - (intOf i).toNat)
  case atStart => exact ⟨0, Nat.zero_le _, rfl, rfl, Below.refl _ _⟩
  case round =>
    obtain ⟨k, hk, rfl, hall, hB⟩ := hrel
    have hs := hB.size
    by_cases hlt : k < n
    · obtain ⟨U, hU⟩ : ∃ U, U = wr.alloc (.cells #[.int .i64 (k : Nat)] 3) := ⟨_, rfl⟩
      have bU := Boxed.new wr 3 (.int .i64 (k : Nat))
      have hbU : Below wr.heap.size wr (wr.alloc (.cells #[.int .i64 (k : Nat)] 3)) := (Below.refl _ _).alloc (Nat.le_refl _) _
      have hsU : (wr.alloc (.cells #[.int .i64 (k : Nat)] 3)).heap.size = wr.heap.size + 1 := by simp
      have hel := elements_any n a cap aj (n * n) cj am (n * n) cm (bt : Nat) (tp : Nat) hn (wr.alloc (.cells #[.int .i64 (k : Nat)] 3))
      have yT := row_below r0 hB lt0
      have lyT := yT.lt
      have t0 := yT.cell (i := 0) rfl
      have t1 := yT.cell (i := 1) rfl
      have t2 := yT.cell (i := 2) rfl
      have t3 := yT.cell (i := 3) rfl
      have t4 := yT.cell (i := 4) rfl
      have t5 := yT.cell (i := 5) rfl
      have hcf : ∀ W, Below (wr.heap.size + 1) (wr.alloc (.cells #[.int .i64 (k : Nat)] 3)) W → Row W (wr.heap.size + 1 + 1) 3 (ivals (List.range n)) → Calls Tryd.prog 62 #[.slice (some ⟨wr.heap.size + 1 + 1, 0, none⟩) n n, .func (.func 59) #[] #[.pointer (some ⟨w.heap.size, 0, none⟩), .pointer (some ⟨wr.heap.size, 0, none⟩)]] W fun e w' => e = .returned (.bool (anyTo js ms n bt tp k n)) ∧ Below W.heap.size W w' := fun W hW hE => by
        have hBW : Below wr.heap.size wr W := hbU.trans (hW.mono (by omega))
        have hVW : Below V.heap.size V W := hB.trans (hBW.mono hs)
        have hsW := hW.size
        simp at hsW
        exact ContainsFunc_any w.heap.size wr.heap.size n a cap aj cj am cm bt tp js ms k (some ⟨wr.heap.size + 1 + 1, 0, none⟩) n W.heap.size hn hlt hlj hlm W (row_below r0 hVW lt0) ((hW.cell (p := ⟨wr.heap.size, 0, none⟩) (by simp)).trans bU.cell) (by omega) ((hjV.below (hVW.mono (by omega))).mono (by omega)) ((hmV.below (hVW.mono (by omega))).mono (by omega)) (hE.ints hE.lt) (Nat.le_refl _)
      have hstep : complTo js ms n bt tp (k + 1) = (complTo js ms n bt tp k && anyTo js ms n bt tp k n) := by unfold complTo; rw [List.range_succ, List.all_append]; simp
      rw [hall] at hstep
      rw [hsU] at hel
      clear hU
      cases hcb : anyTo js ms n bt tp k n with
      | true =>
        rw [hcb] at hcf hstep
        have HS := hide hstep
        clear hcb hstep hall
        go_wp2_with (first
          | (go_at_call 57; refine hel.mono ?_; rintro e w2 ⟨rfl, hb2, rE⟩; have s2 := hcf w2 hb2 rE; clear hel hcf)
          | (go_at_call 62; refine s2.mono ?_; rintro e w3 ⟨rfl, hb3⟩))
        exact ⟨⟨k + 1, by omega, by go_num, HS.out, hB.trans (((hbU.trans (hb2.mono (by omega))).trans (hb3.mono (by have := hb2.size; simp at this; omega))).mono hs)⟩, by simp [intOf]; omega⟩
      | false =>
        rw [hcb] at hcf
        have HF := hide (show complTo js ms n bt tp n = false by
          cases h : complTo js ms n bt tp n with
          | false => rfl
          | true =>
            have := List.all_eq_true.1 h k (List.mem_range.2 hlt)
            rw [hcb] at this
            cases this)
        clear hcb hstep hall
        go_wp2_with (first
          | (go_at_call 57; refine hel.mono ?_; rintro e w2 ⟨rfl, hb2, rE⟩; have s2 := hcf w2 hb2 rE; clear hel hcf)
          | (go_at_call 62; refine s2.mono ?_; rintro e w3 ⟨rfl, hb3⟩))
        go_ret
        exact ⟨ret_bool HF.out.symm, hb0.trans ((hB.trans (((hbU.trans (hb2.mono (by omega))).trans (hb3.mono (by have := hb2.size; simp at this; omega))).mono hs)).mono (by omega))⟩
    · obtain rfl : k = n := by omega
      have HA := hide hall
      clear hall
      go_wp2
      go_ret
      exact ⟨ret_bool HA.out.symm, hb0.trans (hB.mono (by omega))⟩
end Go.Proofs.YtdomcjfgmnpbmaaDoor

namespace Go.Proofs.YtdomcjfgmnpbmaaDoor
open Go.RowKit Go.Shelf
attribute [local go_sem] Oper.semAt_some

def rowC (a b c : Nat) : List (Nat × Nat × Nat) := (List.range c).map fun z => (a, b, z)
def rowB (n a b : Nat) : List (Nat × Nat × Nat) := (List.range b).flatMap fun y => rowC a y n
def triA (n a : Nat) : List (Nat × Nat × Nat) := (List.range a).flatMap fun x => rowB n x n
theorem rowC_succ (a b c : Nat) : rowC a b (c + 1) = rowC a b c ++ [(a, b, c)] := by unfold rowC; rw [List.range_succ]; simp
theorem rowB_succ (n a b : Nat) : rowB n a (b + 1) = rowB n a b ++ rowC a b n := by unfold rowB; rw [List.range_succ]; simp
theorem triA_succ (n a : Nat) : triA n (a + 1) = triA n a ++ rowB n a n := by unfold triA; rw [List.range_succ]; simp
theorem rowC_len (a b c : Nat) : (rowC a b c).length = c := by unfold rowC; simp
theorem rowB_len (n a : Nat) : ∀ b, (rowB n a b).length = b * n
  | 0 => by simp [rowB]
  | b + 1 => by rw [rowB_succ, List.length_append, rowB_len n a b, rowC_len, Nat.add_mul]; omega
theorem triA_len (n : Nat) : ∀ a, (triA n a).length = a * (n * n)
  | 0 => by simp [triA]
  | a + 1 => by rw [triA_succ, List.length_append, triA_len n a, rowB_len, Nat.add_mul]; omega
theorem tri_lt {n a b c : Nat} (ha : a < n) (hb : b < n) (hc : c < n) : (triA n a ++ rowB n a b ++ rowC a b c).length < n * (n * n) := by
  rw [List.length_append, List.length_append, triA_len, rowB_len, rowC_len]
  have h1 := Nat.mul_le_mul_right (n * n) (show a + 1 ≤ n from ha)
  have h2 := Nat.mul_le_mul_right n (show b + 1 ≤ n from hb)
  rw [Nat.add_mul] at h1 h2
  omega
/-- what a round keeps: all that lay below m₀, and the number n in block Bn -/
def KeepN (Bn n m₀ : Nat) (A B : World) : Prop := Below m₀ A B ∧ (A.cell? ⟨Bn, 0, none⟩ = some (.int .i64 n) → B.cell? ⟨Bn, 0, none⟩ = some (.int .i64 n))
theorem keepN_t {Bn n m₀ : Nat} {A B C : World} (h : KeepN Bn n m₀ A B) (k : KeepN Bn n m₀ B C) : KeepN Bn n m₀ A C := ⟨h.1.trans k.1, fun hc => k.2 (h.2 hc)⟩
theorem keepN_b {Bn n m₀ : Nat} {w : World} (hm : m₀ ≤ w.heap.size) (hB : Bn < w.heap.size) (W : World) (l : Nat) (o o' : Obj) (hl : w.heap.size ≤ l) (h : W.heap[l]? = some o) (h1 : o.isCells = false) (h2 : o.isWalk = false) : KeepN Bn n m₀ W (W.putObj l o') :=
  ⟨belowK_b hm W l o o' hl h h1 h2, fun hc => ((belowK_b (n₀ := w.heap.size) (Nat.le_refl _) W l o o' hl h h1 h2).cell (p := ⟨Bn, 0, none⟩) hB).trans hc⟩
/-- three elements -/
def El3 (n : Nat) : Type := { p : Nat × Nat × Nat // p.1 < n ∧ p.2.1 < n ∧ p.2.2 < n }
def enc3 {n : Nat} (y : El3 n) : Array Value := #[Value.agg #[.int .i64 (y.1.1 : Nat), .int .i64 (y.1.2.1 : Nat), .int .i64 (y.1.2.2 : Nat)]]

theorem threes_any (n : Nat) (w : World) :
    Calls Tryd.prog 42 #[.int .i64 n] w fun e w' => e = .returned (.func (.func 63) #[] #[.pointer (some ⟨w.heap.size, 0, none⟩)]) ∧ w' = w.alloc (.cells #[.int .i64 n] 3) := by
  go_enter Tryd.func42, Tryd.ntmps42
  go_wp2
  go_ret
  exact ⟨rfl, rfl⟩

set_option maxRecDepth 100000 in
set_option maxHeartbeats 2000000 in
theorem threes1_in (f : Nat) (l Bn m₀ : Nat) (n : Nat) (hn : n ≤ 16) (J Jx : List (El3 n) → World → Prop)
    (hY : ∀ pre y W, J pre W → pre.length < n * (n * n) → YieldAt Fence.wide (f - 1) Tryd.prog l (enc3 y) W fun e W' =>
      (e = .returned (.bool true) ∧ J (pre ++ [y]) W' ∧ KeepN Bn n m₀ W W') ∨ (e = .returned (.bool false) ∧ Jx (pre ++ [y]) W'))
    (W : World) (hBn : W.cell? ⟨Bn, 0, none⟩ = some (.int .i64 n)) (h0 : J [] W) :
    CallsIn Fence.wide f Tryd.prog 63 #[.func (.yield l) #[] #[], .pointer (some ⟨Bn, 0, none⟩)] W fun e W' => (∃ v, e = .returned v) ∧
      ((∃ ys : List (El3 n), ys.map (·.1) = triA n n ∧ J ys W') ∨ (∃ pre : List (El3 n), True ∧ Jx pre W')) := by
  have hfn := wide_fn
  have hdep := wide_depth
  refine callsIn_of_wp Tryd.func63 rfl trivial ?_ rfl
  simp only [Tryd.ntmps63, List.size_toArray, List.length_cons, List.length_nil, Nat.reduceAdd, Nat.reduceSub, Array.replicate_succ, Array.replicate_zero, List.push_toArray, List.append_toArray, List.nil_append, List.cons_append]
  gi_wp2
  gi_loopw [7] (fun i wr => ∃ (a : Nat) (pre : List (El3 n)), a ≤ n ∧ i = .int .i64 a ∧ pre.map (·.1) = triA n a ∧ wr.cell? ⟨Bn, 0, none⟩ = some (.int .i64 n) ∧ J pre wr) (fun i _ => n - (intOf i).toNat)
  case atStart => exact ⟨0, [], Nat.zero_le _, rfl, rfl, hBn, h0⟩
  case round =>
    obtain ⟨a, pre, ha, rfl, hpre, hc, hJ⟩ := hrel
    have Hp := hide hpre
    clear hpre
    by_cases hla : a < n
    · gi_wp2
      gi_loopw [11] (fun i wr => ∃ (b : Nat) (pre : List (El3 n)), b ≤ n ∧ i = .int .i64 b ∧ pre.map (·.1) = triA n a ++ rowB n a b ∧ wr.cell? ⟨Bn, 0, none⟩ = some (.int .i64 n) ∧ J pre wr) (fun i _ => n - (intOf i).toNat)
      case atStart => exact ⟨0, pre, Nat.zero_le _, rfl, by rw [Hp.out]; simp [rowB], hc, hJ⟩
      case round =>
        clear Hp hc hJ
        obtain ⟨b, pre, hb, rfl, hpre, hc, hJ⟩ := hrel
        have Hp := hide hpre
        clear hpre
        by_cases hlb : b < n
        · gi_wp2
          gi_loopw [15] (fun i wr => ∃ (c : Nat) (pre : List (El3 n)), c ≤ n ∧ i = .int .i64 c ∧ pre.map (·.1) = triA n a ++ rowB n a b ++ rowC a b c ∧ wr.cell? ⟨Bn, 0, none⟩ = some (.int .i64 n) ∧ J pre wr) (fun i _ => n - (intOf i).toNat)
          case atStart => exact ⟨0, pre, Nat.zero_le _, rfl, by rw [Hp.out]; simp [rowC], hc, hJ⟩
          case round =>
            clear Hp hc hJ
            obtain ⟨c, pre, hcn, rfl, hpre, hc, hJ⟩ := hrel
            have hpl : c < n → pre.length < n * (n * n) := fun h => by
              have := tri_lt hla hlb h
              rw [← hpre, List.length_map] at this
              exact this
            have Hp := hide hpre
            clear hpre
            by_cases hlc : c < n
            · obtain ⟨fn, tmps, assign, body, hy, hR⟩ := hY pre ⟨(a, b, c), hla, hlb, hlc⟩ wr hJ (hpl hlc)
              simp only [enc3] at hy
              gi_wp2
              refine hR.mono ?_
              rintro e W3 (⟨rfl, hJ3, hk3⟩ | ⟨rfl, hJx3⟩)
              · have hc3 := hk3.2 hc
                gi_wp2
                exact ⟨⟨c + 1, pre ++ [⟨(a, b, c), hla, hlb, hlc⟩], by omega, by go_num, by rw [List.map_append, Hp.out, rowC_succ, ← List.append_assoc]; rfl, hc3, hJ3⟩, by simp [intOf]; omega⟩
              · gi_wp2
                refine bodyPost_ret (results_none rfl _ _ _) rfl ?_
                exact ⟨⟨_, rfl⟩, .inr ⟨_, trivial, hJx3⟩⟩
            · obtain rfl : c = n := by omega
              gi_wp2
              exact ⟨⟨b + 1, pre, by omega, by go_num, by rw [Hp.out, rowB_succ, List.append_assoc], hc, hJ⟩, by simp [intOf]; omega⟩
        · obtain rfl : b = n := by omega
          gi_wp2
          exact ⟨⟨a + 1, pre, by omega, by go_num, by rw [Hp.out, triA_succ], hc, hJ⟩, by simp [intOf]; omega⟩
    · obtain rfl : a = n := by omega
      gi_wp2
      go_end0
      exact ⟨⟨_, rfl⟩, .inl ⟨pre, Hp.out, hJ⟩⟩
/-- threes' value is an iterator over all three elements, for every loop body that keeps what lay below m₀, and the number -/
theorem threes_stops (f : Nat) (Bn m₀ n : Nat) (hn : n ≤ 16) (w : World) (hBn : Bn < w.heap.size) (hc : w.cell? ⟨Bn, 0, none⟩ = some (.int .i64 n)) :
    SeqStopsK Fence.wide f Tryd.prog 63 #[.pointer (some ⟨Bn, 0, none⟩)] (fun y : El3 n => enc3 y) (KeepN Bn n m₀) (fun ys => ys.map (·.1) = triA n n) (fun _ => True) (n * (n * n)) w := fun l J Jx W hW _ _ hY h0 =>
  threes1_in f l Bn m₀ n hn J Jx hY W ((hW.cell (p := ⟨Bn, 0, none⟩) hBn).trans hc) h0
end Go.Proofs.YtdomcjfgmnpbmaaDoor
