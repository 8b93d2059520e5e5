/- The law package's ones. -/
import Derived.Test.YtilffmalkegioaaDoorMobRefZ
namespace Go.Proofs.YtilffmalkegioaaDoor
open Go.RowKit Go.Shelf

set_option maxRecDepth 100000 in
set_option maxHeartbeats 2000000 in
theorem kones_any (n : Nat) (hn : n ≤ 16) (w : World) :
    Calls Tryd.prog 33 #[.int .i64 n] w fun e w' => ∃ p, e = .returned (.slice (some ⟨p, 0, none⟩) (n * n) (n * n)) ∧ w.heap.size ≤ p ∧ Below w.heap.size w w' ∧ Row w' p 2 (bvals (tabL n one)) := by
  have h2 : n * n ≤ 256 := Nat.mul_le_mul hn hn
  have hz : (n : Int) * (n : Int) = ((n * n : Nat) : Int) := by push_cast; rfl
  have hmk := run_make_row' (P := Tryd.prog) 25 2 (.int .i64 0) 8 Tryd.underlying25 info_i64 rfl .i64 .i64 (n * n) (by omega) (by omega)
  simp only [← hz] at hmk
  have hwz : wrap64 ((n : Int) * (n : Int)) = (n : Int) * (n : Int) := by rw [hz, IntWalk.wrap64_in _ (by omega)]
  clear hz
  have hrows : ∀ y, y < n → y * n + n ≤ n * n := fun y hy => by
    have := Nat.mul_le_mul_right n (show y + 1 ≤ n from hy)
    rwa [Nat.succ_mul] at this
  have r1 := Row.new w 2 (bvals (List.replicate (n * n) 0))
  rw [← bvals_replicate] at r1
  go_enter Tryd.func33, Tryd.ntmps33
  go_wp2_with fail
  clear hmk
  go_loopw [4] (fun i wr => ∃ (k : Nat) (P : List B64), k ≤ n ∧ i = .int .i64 k ∧ Below w.heap.size w wr ∧ Row wr w.heap.size 2 (bvals P) ∧ P.length = n * n ∧ ∀ a, a < n → ∀ b, b < n → mat n P a b = if a = b ∧ a < k then 1 else 0) (fun i _ => n - (intOf i).toNat)
  case atStart => exact ⟨0, _, Nat.zero_le _, rfl, (Below.refl _ _).alloc (Nat.le_refl _) _, r1, by simp, fun a _ b _ => by rw [if_neg (by omega)]; exact bd_replicate _ _⟩
  case round =>
    obtain ⟨k, P, hk, rfl, hB, rP, hlP, hP⟩ := hrel
    clear r1
    by_cases hlt : k < n
    · have hpl := plc_lt hlt hlt
      have hrk := hrows k hlt
      have HP := hide hP
      clear hP
      have hc := rP.cell (bvals_at (i := k * n + k) (by omega))
      have hf := rP.frozen (k * n + k)
      have hset := rP.set (k * n + k) (.int .i64 (1 : B64).toInt)
      rw [bvals_set] at hset
      go_wp2_with fail
      refine ⟨⟨k + 1, P.set (k * n + k) 1, by omega, by go_num, hB.setCell (p := ⟨w.heap.size, k * n + k, none⟩) (Nat.le_refl _) _, hset, by rw [List.length_set, hlP], fun a ha b hb => ?_⟩, by simp [intOf]; omega⟩
      unfold mat
      rw [bd_set (by omega)]
      have h1 := HP.out a ha b hb
      unfold mat at h1
      by_cases e : k * n + k = a * n + b
      · obtain ⟨e1, e2⟩ := plc_inj hlt hb e
        subst e1; subst e2
        rw [if_pos rfl, if_pos ⟨rfl, by omega⟩]
      · rw [if_neg e, h1]
        have : ¬ (a = k ∧ b = k) := fun h => e (by rw [h.1, h.2])
        by_cases e3 : a = b ∧ a < k
        · rw [if_pos e3, if_pos (by omega)]
        · rw [if_neg e3, if_neg (by omega)]
    · obtain rfl : k = n := by omega
      have e : P = tabL k one := mat_ext hlP (tabL_len _ _) fun a ha b hb => by
        rw [hP a ha b hb, mat_tabL _ a ha b hb]
        by_cases e : a = b
        · rw [if_pos ⟨e, ha⟩, e, one_eq]
        · rw [if_neg (fun h => e h.1), one_ne e]
      subst e
      clear hP hlP
      go_wp2_with fail
      go_ret
      exact ⟨_, rfl, Nat.le_refl _, hB, rP⟩

end Go.Proofs.YtilffmalkegioaaDoor
