/- Package mobius: a row of a square, what add writes, a square of zeros. -/
import Derived.Test.YtekpielpfegclabDoorMobMem
import Derived.Test.YtekpielpfegclabDoorRefCheck
namespace Go.Proofs.YtekpielpfegclabDoor
open Go.RowKit Go.Shelf

/-- a square of n * n numbers that lie in block p -/
def sqV (n p : Nat) : Value := .agg #[.int .i64 n, .slice (some ⟨p, 0, none⟩) (n * n) (n * n)]

set_option maxRecDepth 100000 in
set_option maxHeartbeats 1000000 in
theorem row_any (n p a : Nat) (hn : n ≤ 16) (ha : a < n) (w : World) :
    Calls Tryd.prog 26 #[sqV n p, .int .i64 a] w fun e w' => e = .returned (.slice (some ⟨p, a * n, none⟩) n (n * n - a * n)) ∧ Below w.heap.size w w' := by
  have h1 : (a + 1) * n ≤ n * n := Nat.mul_le_mul_right _ ha
  have h2 : n * n ≤ 256 := Nat.mul_le_mul hn hn
  rw [Nat.succ_mul] at h1
  have hz : ((a : Int) + 1) * (n : Int) = ((a * n + n : Nat) : Int) := by push_cast; grind
  unfold sqV
  go_enter Tryd.func26, Tryd.ntmps26
  go_wp2
  go_ret
  refine ⟨?_, (Below.refl _ _).alloc (Nat.le_refl _) _⟩
  show Ending.returned (.slice (some ⟨p, a * n, none⟩) (a * n + n - a * n) (n * n - a * n)) = _
  rw [show a * n + n - a * n = n by omega]

set_option maxRecDepth 100000 in
set_option maxHeartbeats 1000000 in
/-- **add** writes k times the row into its part of the block p, and nothing else -/
theorem add_any (p off m ct q off2 cr : Nat) (T : List B64) (r : Nat → B64) (k : B64) (h16 : m ≤ 256) (hoff : off ≤ 65536) (hm : off + m ≤ T.length) (w : World) (hp : Row w p 2 (bvals T))
    (hR : ∀ W' T', w.grownBy W' (some p) → Row W' p 2 (bvals T') → T'.length = T.length → (∀ j, (j < off ∨ off + m ≤ j) → bd T' j = bd T j) → CellsB W' q off2 m r) :
    Calls Tryd.prog 43 #[.slice (some ⟨p, off, none⟩) m ct, .int .i64 k.toInt, .slice (some ⟨q, off2, none⟩) m cr] w fun e w' => e = .returned (.tuple #[]) ∧ w.grownBy w' (some p) ∧ ∃ T', Row w' p 2 (bvals T') ∧ T'.length = T.length ∧ (∀ j, (j < off ∨ off + m ≤ j) → bd T' j = bd T j) ∧ ∀ i, i < m → bd T' (off + i) = bd T (off + i) + k * r i := by
  go_enter Tryd.func43, Tryd.ntmps43
  go_wp2
  go_loopw [10] (fun i wr => ∃ (j : Nat) (S : List B64), j ≤ m ∧ i = .int .i64 j ∧ w.grownBy wr (some p) ∧ Row wr p 2 (bvals S) ∧ S.length = T.length ∧ (∀ x, (x < off ∨ off + j ≤ x) → bd S x = bd T x) ∧ (∀ x, x < j → bd S (off + x) = bd T (off + x) + k * r x)) (fun i _ => m - (intOf i).toNat)
  case atStart => exact ⟨0, T, Nat.zero_le _, rfl, ⟨rfl, rfl, rfl, Nat.le_refl _, fun _ _ _ => rfl⟩, hp, rfl, fun _ _ => rfl, fun x hx => absurd hx (Nat.not_lt_zero _)⟩
  case round =>
    obtain ⟨j, S, hj, rfl, hg, hS, hlS, hout, hin⟩ := hrel
    by_cases hlt : j < m
    · have hc := hR wr S hg hS hlS (fun x hx => hout x (by omega)) j hlt
      have hs := hS.cell (bvals_at (i := off + j) (by omega))
      have hf := hS.frozen (off + j)
      have hset := hS.set (off + j) (.int .i64 (bd T (off + j) + k * r j).toInt)
      rw [bvals_set] at hset
      have hv := hout (off + j) (by omega)
      rw [hv] at hs
      have hw1 := wrap_mul k (r j)
      have hw2 := wrap_add (bd T (off + j)) (k * r j)
      have HO := hide hout
      have HI := hide hin
      have hbd : off + j < S.length := by omega
      clear hout hin hR
      generalize hy : k * r j = y at *
      generalize hz : bd T (off + j) + y = z at *
      generalize (bd T (off + j)).toInt = s0 at *
      generalize (r j).toInt = x at *
      go_wp2
      refine ⟨⟨j + 1, S.set (off + j) z, by omega, by go_num, hg.trans (grownBy_setCellAt _ _ _ _), hset, by rw [List.length_set, hlS], fun i hi => ?_, fun i hi => ?_⟩, by simp [intOf]; omega⟩
      · rw [bd_set (by omega), if_neg (by omega), HO.out i (by omega)]
      · rw [bd_set (by omega)]
        by_cases e : off + j = off + i
        · obtain rfl : j = i := by omega
          rw [if_pos rfl, ← hz, ← hy]
        · rw [if_neg e, HI.out i (by omega)]
    · obtain rfl : j = m := by omega
      go_wp2
      go_end0
      exact ⟨rfl, hg, S, hS, hlS, hout, hin⟩
end Go.Proofs.YtekpielpfegclabDoor
