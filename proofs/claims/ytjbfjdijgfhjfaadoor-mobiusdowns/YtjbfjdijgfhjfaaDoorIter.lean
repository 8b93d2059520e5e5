/- The contract of bitsOf and of the iterator that it hands back: the elements of the word, the least one first. -/
import Derived.Test.YtjbfjdijgfhjfaaDoorLeaf
namespace Go.Proofs.YtjbfjdijgfhjfaaDoor
open Go.RowKit Go.Shelf
attribute [local go_sem] Oper.semAt_some

theorem TabAt.below {n₀ : Nat} {A B : World} (h : TabAt A) (hb : Below n₀ A B) (hn : 0 < n₀) : TabAt B :=
  fun j hj => (hb.cell (p := ⟨0, j, none⟩) hn).trans (h j hj)

theorem bitsOf_any (x : Nat) (w : World) :
    Calls Tryd.prog 24 #[.int .u32 x] w fun e w' => e = .returned (.func (.func 41) #[] #[.pointer (some ⟨w.heap.size, 0, none⟩)]) ∧ w' = w.alloc (.cells #[.int .u32 x] 50) := by
  go_enter Tryd.func24, Tryd.ntmps24
  go_wp2
  go_ret
  exact ⟨rfl, rfl⟩

theorem pop_step (r : Nat) (hr : r ≠ 0) (h : r < 4294967296) : bits BinOp.and IntKind.u64 (r : Int) (((r : Int) - 1)) = ((popW r : Nat) : Int) := by
  have e : ((r : Int) - 1) = ((r - 1 : Nat) : Int) := by omega
  rw [e, bits_and_u64_nat r (r - 1) (by omega) (by omega)]; rfl

set_option maxRecDepth 100000 in
set_option maxHeartbeats 1000000 in
theorem bitsOf1_in (n : Nat) (l Bn n₀ : Nat) (x : Nat) (hx : x < 4294967296) (J Jx : List (El x) → World → Prop)
    (hY : ∀ pre y W, J pre W → pre.length < (elems x).length → YieldAt Fence.wide (n - 1) Tryd.prog l #[.int .i64 (y.1 : Nat)] W fun e W' =>
      (e = .returned (.bool true) ∧ J (pre ++ [y]) W' ∧ Below n₀ W W') ∨ (e = .returned (.bool false) ∧ Jx (pre ++ [y]) W'))
    (W : World) (hBn : W.cell? ⟨Bn, 0, none⟩ = some (.int .u32 x)) (hT : TabAt W) (hg : 0 < n₀) (h0 : J [] W) :
    CallsIn Fence.wide n Tryd.prog 41 #[.func (.yield l) #[] #[], .pointer (some ⟨Bn, 0, none⟩)] W fun e W' => (∃ v, e = .returned v) ∧
      ((∃ ys, ys = elemsS x (by omega) ∧ J ys W') ∨ (∃ pre, pre <+: elemsS x (by omega) ∧ Jx pre W')) := by
  have hfn := wide_fn
  have hdep := wide_depth
  refine callsIn_of_wp Tryd.func41 rfl trivial ?_ rfl
  simp only [Tryd.ntmps41, List.size_toArray, List.length_cons, List.length_nil, Nat.reduceAdd, Nat.reduceSub, Array.replicate_succ, Array.replicate_zero, List.push_toArray, List.append_toArray, List.nil_append, List.cons_append]
  gi_wp2
  gi_loopw [3] (fun p wr => ∃ (pre : List (El x)) (r : Nat), p = .int .u64 (r : Nat) ∧ r < 4294967296 ∧ elems x = pre.map (·.1) ++ elems r ∧ TabAt wr ∧ J pre wr)
    (fun p _ => (intOf p).toNat)
  case atStart =>
    exact ⟨[], x, rfl, hx, by simp, hT, h0⟩
  case round =>
    obtain ⟨pre, r, rfl, hr, hel, hTr, hJr⟩ := hrel
    by_cases hr0 : r = 0
    · subst hr0
      have Hel := hide hel; clear hel
      gi_wp2
      go_end0
      have hel := Hel.out
      rw [elems_zero, List.append_nil] at hel
      exact ⟨⟨_, rfl⟩, .inl ⟨pre, map_val_inj (by rw [elemsS_val, hel]), hJr⟩⟩
    · rw [elems_pos hr0] at hel
      obtain ⟨y, hyv⟩ : ∃ y : El x, lowW r = y.1 := ⟨⟨lowW r, elems_all (by omega) _ (by rw [hel]; simp)⟩, rfl⟩
      obtain ⟨fn, tmps, assign, body, hy, hR⟩ := hY pre y wr hJr (by rw [hel]; simp)
      have htz := tz_any r (by omega) hr0 wr hTr
      rw [hyv] at htz hel
      have hne : ((r : Int) != 0) = true := by rw [bne_iff_ne]; omega
      have hpop : IntKind.u64.wrap ((r : Int) - 1) = (r : Int) - 1 := by rw [IntKind.wrap_u64]; omega
      have Hel := hide hel; clear hel
      have Hyv := hide hyv; clear hyv
      gi_wp2_with (gi_at_call 42; refine (callsIn_wide.2 htz).mono ?_; rintro e w' ⟨rfl, rfl⟩)
      refine hR.mono ?_
      rintro e W3 (⟨rfl, hJ3, hk3⟩ | ⟨rfl, hJx3⟩)
      · have hT3 := hTr.below hk3 hg
        gi_wp2
        go_roundw
        case rel =>
          refine ⟨pre ++ [y], popW r, ?_, by have := popW_lt hr0; omega, ?_, hT3, hJ3⟩
          · rw [pop_step r hr0 hr]
          · rw [Hel.out]; simp
        case measure =>
          simp only [intOf]
          have := popW_lt hr0
          first | (rw [pop_step r hr0 hr]; simp; omega) | skip
      · gi_wp2
        refine bodyPost_ret (results_none rfl _ _ _) rfl ?_
        exact ⟨⟨_, rfl⟩, .inr ⟨pre ++ [y], prefix_of _ Hel.out, hJx3⟩⟩

/-- bitsOf's value is an iterator over the elements of the word, for every loop body that keeps what lay below n₀ -/
theorem bitsOf_stops (n : Nat) (Bn n₀ : Nat) (x : Nat) (hx : x < 4294967296) (w : World) (hBn : Bn < w.heap.size) (hn₀ : n₀ ≤ w.heap.size)
    (hc : w.cell? ⟨Bn, 0, none⟩ = some (.int .u32 x)) (hT : TabAt w) (hg : 0 < n₀) :
    SeqStopsK Fence.wide n Tryd.prog 41 #[.pointer (some ⟨Bn, 0, none⟩)] (fun y : El x => #[Value.int .i64 (y.1 : Nat)]) (Below n₀) (fun ys => ys = elemsS x (by omega)) (fun pre => pre <+: elemsS x (by omega)) (elems x).length w := fun l J Jx W hW _ _ hY h0 =>
  bitsOf1_in n l Bn n₀ x hx J Jx hY W ((hW.cell (p := ⟨Bn, 0, none⟩) hBn).trans hc) (hT.below (hW.mono hn₀) hg) hg h0
end Go.Proofs.YtjbfjdijgfhjfaaDoor
