/- The contract of threes and of the iterator that it hands back: all three elements, by the first, then the second, then the third. TableOf where there is no lattice. -/
import Derived.Test.YtdomcjfgmnpbmaaDoorPart2
import Derived.RangeFuncKeeps
import Derived.Test.YtdomcjfgmnpbmaaDoorPart23
import Derived.Test.YtdomcjfgmnpbmaaDoorPart21
namespace Go.Proofs.YtdomcjfgmnpbmaaDoor
open Go.RowKit Go.Shelf
attribute [local go_sem] Oper.semAt_some

def rowC (a b c : Nat) : List (Nat × Nat × Nat) := (List.range c).map fun z => (a, b, z)
def rowB (n a b : Nat) : List (Nat × Nat × Nat) := (List.range b).flatMap fun y => rowC a y n
def triA (n a : Nat) : List (Nat × Nat × Nat) := (List.range a).flatMap fun x => rowB n x n
theorem rowC_succ (a b c : Nat) : rowC a b (c + 1) = rowC a b c ++ [(a, b, c)] := by unfold rowC; rw [List.range_succ]; simp
theorem rowB_succ (n a b : Nat) : rowB n a (b + 1) = rowB n a b ++ rowC a b n := by unfold rowB; rw [List.range_succ]; simp
theorem triA_succ (n a : Nat) : triA n (a + 1) = triA n a ++ rowB n a n := by unfold triA; rw [List.range_succ]; simp
theorem rowC_len (a b c : Nat) : (rowC a b c).length = c := by unfold rowC; simp
theorem rowB_len (n a : Nat) : ∀ b, (rowB n a b).length = b * n
  | 0 => by simp [rowB]
  | b + 1 => by rw [rowB_succ, List.length_append, rowB_len n a b, rowC_len, Nat.add_mul]; omega
theorem triA_len (n : Nat) : ∀ a, (triA n a).length = a * (n * n)
  | 0 => by simp [triA]
  | a + 1 => by rw [triA_succ, List.length_append, triA_len n a, rowB_len, Nat.add_mul]; omega
theorem tri_lt {n a b c : Nat} (ha : a < n) (hb : b < n) (hc : c < n) : (triA n a ++ rowB n a b ++ rowC a b c).length < n * (n * n) := by
  rw [List.length_append, List.length_append, triA_len, rowB_len, rowC_len]
  have h1 := Nat.mul_le_mul_right (n * n) (show a + 1 ≤ n from ha)
  have h2 := Nat.mul_le_mul_right n (show b + 1 ≤ n from hb)
  rw [Nat.add_mul] at h1 h2
  omega
/-- what a round keeps: all that lay below m₀, and the number n in block Bn -/
def KeepN (Bn n m₀ : Nat) (A B : World) : Prop := Below m₀ A B ∧ (A.cell? ⟨Bn, 0, none⟩ = some (.int .i64 n) → B.cell? ⟨Bn, 0, none⟩ = some (.int .i64 n))
theorem keepN_t {Bn n m₀ : Nat} {A B C : World} (h : KeepN Bn n m₀ A B) (k : KeepN Bn n m₀ B C) : KeepN Bn n m₀ A C := ⟨h.1.trans k.1, fun hc => k.2 (h.2 hc)⟩
theorem keepN_b {Bn n m₀ : Nat} {w : World} (hm : m₀ ≤ w.heap.size) (hB : Bn < w.heap.size) (W : World) (l : Nat) (o o' : Obj) (hl : w.heap.size ≤ l) (h : W.heap[l]? = some o) (h1 : o.isCells = false) (h2 : o.isWalk = false) : KeepN Bn n m₀ W (W.putObj l o') :=
  ⟨belowK_b hm W l o o' hl h h1 h2, fun hc => ((belowK_b (n₀ := w.heap.size) (Nat.le_refl _) W l o o' hl h h1 h2).cell (p := ⟨Bn, 0, none⟩) hB).trans hc⟩
/-- three elements -/
def El3 (n : Nat) : Type := { p : Nat × Nat × Nat // p.1 < n ∧ p.2.1 < n ∧ p.2.2 < n }
def enc3 {n : Nat} (y : El3 n) : Array Value := #[Value.agg #[.int .i64 (y.1.1 : Nat), .int .i64 (y.1.2.1 : Nat), .int .i64 (y.1.2.2 : Nat)]]

theorem threes_any (n : Nat) (w : World) :
    Calls Tryd.prog 42 #[.int .i64 n] w fun e w' => e = .returned (.func (.func 63) #[] #[.pointer (some ⟨w.heap.size, 0, none⟩)]) ∧ w' = w.alloc (.cells #[.int .i64 n] 3) := by
  go_enter Tryd.func42, Tryd.ntmps42
  go_wp2
  go_ret
  exact ⟨rfl, rfl⟩

set_option maxRecDepth 100000 in
set_option maxHeartbeats 2000000 in
theorem threes1_in (f : Nat) (l Bn m₀ : Nat) (n : Nat) (hn : n ≤ 16) (J Jx : List (El3 n) → World → Prop)
    (hY : ∀ pre y W, J pre W → pre.length < n * (n * n) → YieldAt Fence.wide (f - 1) Tryd.prog l (enc3 y) W fun e W' =>
      (e = .returned (.bool true) ∧ J (pre ++ [y]) W' ∧ KeepN Bn n m₀ W W') ∨ (e = .returned (.bool false) ∧ Jx (pre ++ [y]) W'))
    (W : World) (hBn : W.cell? ⟨Bn, 0, none⟩ = some (.int .i64 n)) (h0 : J [] W) :
    CallsIn Fence.wide f Tryd.prog 63 #[.func (.yield l) #[] #[], .pointer (some ⟨Bn, 0, none⟩)] W fun e W' => (∃ v, e = .returned v) ∧
      ((∃ ys : List (El3 n), ys.map (·.1) = triA n n ∧ J ys W') ∨ (∃ pre : List (El3 n), True ∧ Jx pre W')) := by
  have hfn := wide_fn
  have hdep := wide_depth
  refine callsIn_of_wp Tryd.func63 rfl trivial ?_ rfl
  simp only [Tryd.ntmps63, List.size_toArray, List.length_cons, List.length_nil, Nat.reduceAdd, Nat.reduceSub, Array.replicate_succ, Array.replicate_zero, List.push_toArray, List.append_toArray, List.nil_append, List.cons_append]
  gi_wp2
  gi_loopw [7] (fun i wr => ∃ (a : Nat) (pre : List (El3 n)), a ≤ n ∧ i = .int .i64 a ∧ pre.map (·.1) = triA n a ∧ wr.cell? ⟨Bn, 0, none⟩ = some (.int .i64 n) ∧ J pre wr) (fun i _ => n - (intOf i).toNat)
  case atStart => exact ⟨0, [], Nat.zero_le _, rfl, rfl, hBn, h0⟩
  case round =>
    obtain ⟨a, pre, ha, rfl, hpre, hc, hJ⟩ := hrel
    have Hp := hide hpre
    clear hpre
    by_cases hla : a < n
    · gi_wp2
      gi_loopw [11] (fun i wr => ∃ (b : Nat) (pre : List (El3 n)), b ≤ n ∧ i = .int .i64 b ∧ pre.map (·.1) = triA n a ++ rowB n a b ∧ wr.cell? ⟨Bn, 0, none⟩ = some (.int .i64 n) ∧ J pre wr) (fun i _ => n - (intOf i).toNat)
      case atStart => exact ⟨0, pre, Nat.zero_le _, rfl, by rw [Hp.out]; simp [rowB], hc, hJ⟩
      case round =>
        clear Hp hc hJ
        obtain ⟨b, pre, hb, rfl, hpre, hc, hJ⟩ := hrel
        have Hp := hide hpre
        clear hpre
        by_cases hlb : b < n
        · gi_wp2
          gi_loopw [15] (fun i wr => ∃ (c : Nat) (pre : List (El3 n)), c ≤ n ∧ i = .int .i64 c ∧ pre.map (·.1) = triA n a ++ rowB n a b ++ rowC a b c ∧ wr.cell? ⟨Bn, 0, none⟩ = some (.int .i64 n) ∧ J pre wr) (fun i _ => n - (intOf i).toNat)
          case atStart => exact ⟨0, pre, Nat.zero_le _, rfl, by rw [Hp.out]; simp [rowC], hc, hJ⟩
          case round =>
            clear Hp hc hJ
            obtain ⟨c, pre, hcn, rfl, hpre, hc, hJ⟩ := hrel
            have hpl : c < n → pre.length < n * (n * n) := fun h => by
              have := tri_lt hla hlb h
              rw [← hpre, List.length_map] at this
              exact this
            have Hp := hide hpre
            clear hpre
            by_cases hlc : c < n
            · obtain ⟨fn, tmps, assign, body, hy, hR⟩ := hY pre ⟨(a, b, c), hla, hlb, hlc⟩ wr hJ (hpl hlc)
              simp only [enc3] at hy
              gi_wp2
              refine hR.mono ?_
              rintro e W3 (⟨rfl, hJ3, hk3⟩ | ⟨rfl, hJx3⟩)
              · have hc3 := hk3.2 hc
                gi_wp2
                exact ⟨⟨c + 1, pre ++ [⟨(a, b, c), hla, hlb, hlc⟩], by omega, by go_num, by rw [List.map_append, Hp.out, rowC_succ, ← List.append_assoc]; rfl, hc3, hJ3⟩, by simp [intOf]; omega⟩
              · gi_wp2
                refine bodyPost_ret (results_none rfl _ _ _) rfl ?_
                exact ⟨⟨_, rfl⟩, .inr ⟨_, trivial, hJx3⟩⟩
            · obtain rfl : c = n := by omega
              gi_wp2
              exact ⟨⟨b + 1, pre, by omega, by go_num, by rw [Hp.out, rowB_succ, List.append_assoc], hc, hJ⟩, by simp [intOf]; omega⟩
        · obtain rfl : b = n := by omega
          gi_wp2
          exact ⟨⟨a + 1, pre, by omega, by go_num, by rw [Hp.out, triA_succ], hc, hJ⟩, by simp [intOf]; omega⟩
    · obtain rfl : a = n := by omega
      gi_wp2
      go_end0
      exact ⟨⟨_, rfl⟩, .inl ⟨pre, Hp.out, hJ⟩⟩
/-- threes' value is an iterator over all three elements, for every loop body that keeps what lay below m₀, and the number -/
theorem threes_stops (f : Nat) (Bn m₀ n : Nat) (hn : n ≤ 16) (w : World) (hBn : Bn < w.heap.size) (hc : w.cell? ⟨Bn, 0, none⟩ = some (.int .i64 n)) :
    SeqStopsK Fence.wide f Tryd.prog 63 #[.pointer (some ⟨Bn, 0, none⟩)] (fun y : El3 n => enc3 y) (KeepN Bn n m₀) (fun ys => ys.map (·.1) = triA n n) (fun _ => True) (n * (n * n)) w := fun l J Jx W hW _ _ hY h0 =>
  threes1_in f l Bn m₀ n hn J Jx hY W ((hW.cell (p := ⟨Bn, 0, none⟩) hBn).trans hc) h0
end Go.Proofs.YtdomcjfgmnpbmaaDoor

namespace Go.Proofs.YtdomcjfgmnpbmaaDoor
open Go.RowKit Go.Shelf

theorem n_zero {n : Int} {us : List Nat} (hc : codeOf n us = 0) : (n == 0) = decide (us.length = 0) := by
  obtain ⟨h0, h16, hlen, hin, hord⟩ := code_zero hc
  by_cases e : us.length = 0
  · rw [decide_eq_true e, beq_iff_eq]; omega
  · rw [decide_eq_false e, beq_eq_false_iff_ne]; omega
theorem TableOf_none (n : Int) (a : Option Addr) (cap : Nat) (us ds : List Nat) (n₀ : Nat) (hf : Fit us) (w : World) (hT : TabAt w) (hw : IsWords n₀ w a us) (hg : 0 < n₀) (hn₀ : n₀ ≤ w.heap.size) (hc : codeOf n us = 0) (hD : Tur us us.length [] ds) (hno : latB us ds = false) :
    Calls Tryd.prog 40 #[.agg #[.int .i64 n, .slice a us.length cap]] w fun e w' => e = tabErr 5 ∧ Below w.heap.size w w' := by
  have hz := n_zero hc
  unfold latB at hno
  cases e0 : decide (us.length = 0) with
  | true =>
    rw [e0] at hz
    exact TableOf_none1 n a cap us ds _ _ n₀ hf w hT hw hg hn₀ hc hD hz rfl rfl
  | false =>
    rw [e0] at hz hno
    cases e1 : nearB us with
    | false => exact TableOf_none2 n a cap us ds _ n₀ hf w hT hw hg hn₀ hc hD hz e1 rfl
    | true =>
      rw [e1] at hno
      exact TableOf_none3 n a cap us ds n₀ hf w hT hw hg hn₀ hc hD hz e1 (by simpa using hno)
theorem latB_parts {us ds : List Nat} (h : latB us ds = true) : us.length ≠ 0 ∧ nearB us = true ∧ nearB ds = true := by
  unfold latB at h
  simpa [Bool.and_eq_true, and_assoc] using h
end Go.Proofs.YtdomcjfgmnpbmaaDoor
