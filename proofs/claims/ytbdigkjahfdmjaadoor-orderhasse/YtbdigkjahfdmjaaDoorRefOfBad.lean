/- The document's OrderOf where the number is too large, or a pair is none. -/
import Derived.Test.YtbdigkjahfdmjaaDoorClosePlain
namespace Go.Proofs.YtbdigkjahfdmjaaDoor
open Go.RowKit Go.Shelf

set_option maxRecDepth 100000 in
set_option maxHeartbeats 1000000 in
theorem RefOf_large (n : Int) (a : Option Addr) (cap : Nat) (ps : List (Int × Int)) (w : World) (hL : OfLarge n ps) :
    Calls Tryd.prog 10 #[.int .i64 n, .slice a ps.length cap] w fun e w' => e = ofErr 1 ∧ Below w.heap.size w w' := by
  obtain ⟨r0, hb0, hs0⟩ := one_row w 25 (.int .i64 0) (.slice none 0 0) rfl
  have k0 := r0.cell (i := 0) rfl
  have k1 := r0.cell (i := 1) rfl
  have f0 := r0.frozen 0
  have f1 := r0.frozen 1
  have HB := hide hb0
  have three : (n < 0) ∨ (¬ n < 0 ∧ 16 < n) ∨ (¬ n < 0 ∧ ¬ 16 < n ∧ 256 < ps.length) := by unfold OfLarge at hL; omega
  rcases three with h | ⟨h, h2⟩ | ⟨h, h2, h3⟩
  · have hd : decide (n < 0) = true := by simpa using h
    clear hL h
    go_enter Tryd.func10, Tryd.ntmps10
    go_wp2
    refine bodyPost_ret (v := .tuple #[.agg #[.int .i64 0, .slice none 0 0], .int .i64 1]) (by simp [results, Tryd.results10, go_sem]) rfl ⟨rfl, HB.out⟩
  · have hd : decide (n < 0) = false := by simpa using h
    have hd2 : decide (16 < n) = true := by simpa using h2
    clear hL h h2
    go_enter Tryd.func10, Tryd.ntmps10
    go_wp2
    refine bodyPost_ret (v := .tuple #[.agg #[.int .i64 0, .slice none 0 0], .int .i64 1]) (by simp [results, Tryd.results10, go_sem]) rfl ⟨rfl, HB.out⟩
  · have hd : decide (n < 0) = false := by simpa using h
    have hd2 : decide (16 < n) = false := by simpa using h2
    have hd3 : decide (256 < (ps.length : Int)) = true := by simp; omega
    clear hL h h2
    go_enter Tryd.func10, Tryd.ntmps10
    go_wp2
    refine bodyPost_ret (v := .tuple #[.agg #[.int .i64 0, .slice none 0 0], .int .i64 1]) (by simp [results, Tryd.results10, go_sem]) rfl ⟨rfl, HB.out⟩

set_option maxRecDepth 100000 in
set_option maxHeartbeats 1000000 in
theorem RefOf_arg (n : Nat) (a : Option Addr) (cap : Nat) (ps : List (Int × Int)) (n₀ : Nat) (hn : n ≤ 16) (h256 : ps.length ≤ 256) (w : World) (hw : ZPairs n₀ w a ps) (hn₀ : n₀ ≤ w.heap.size) (hbad : ∃ k, k < ps.length ∧ ¬ PairIn n (zp ps k)) :
    Calls Tryd.prog 10 #[.int .i64 n, .slice a ps.length cap] w fun e w' => e = ofErr 2 ∧ Below w.heap.size w w' := by
  obtain ⟨r0, hb0, hs0⟩ := one_row w 25 (.int .i64 0) (.slice none 0 0) rfl
  have hd2 : decide (16 < (n : Int)) = false := by simp; omega
  have hd3 : decide (256 < (ps.length : Int)) = false := by simp; omega
  go_enter Tryd.func10, Tryd.ntmps10
  go_wp2
  go_loopw [30] (fun i wr => ∃ k : Nat, k ≤ ps.length ∧ i = .int .i64 k ∧ Row wr w.heap.size 25 [.int .i64 0, .slice none 0 0] ∧ Below w.heap.size w wr ∧ ∀ j, j < k → PairIn n (zp ps j)) (fun i _ => ps.length - (intOf i).toNat)
  case atStart => exact ⟨0, Nat.zero_le _, rfl, r0, hb0, fun j hj => by omega⟩
  case round =>
    clear r0 hb0 hs0
    obtain ⟨k, hk, rfl, r0, hB, hall⟩ := hrel
    have hsz := hB.size
    by_cases hlt : k < ps.length
    · obtain ⟨b, off, rfl, hb, cA, cB⟩ := (hw.below (hB.mono hn₀)).at hlt
      have hbW : b < wr.heap.size := by omega
      have k0 := r0.cell (i := 0) rfl
      have k1 := r0.cell (i := 1) rfl
      have f0 := r0.frozen 0
      have f1 := r0.frozen 1
      have lt0 := r0.lt
      obtain ⟨A, hA⟩ : ∃ A, (zp ps k).1 = A := ⟨_, rfl⟩
      obtain ⟨B, hBB⟩ : ∃ B, (zp ps k).2 = B := ⟨_, rfl⟩
      rw [hA] at cA
      rw [hBB] at cB
      have HA := hide hA
      have HBB := hide hBB
      clear hA hBB
      by_cases good : PairIn n (zp ps k)
      · have hg4 := good
        unfold PairIn at hg4
        rw [HA.out, HBB.out] at hg4
        have h1 : decide (A < 0) = false := by simp; omega
        have h2 : decide ((n : Int) ≤ A) = false := by simp; omega
        have h3 : decide (B < 0) = false := by simp; omega
        have h4 : decide ((n : Int) ≤ B) = false := by simp; omega
        have HG := hide good
        clear good hg4
        go_wp2
        exact ⟨⟨k + 1, by omega, by go_num, r0.alloc _, hB.alloc hsz _, fun j hj => by
          by_cases e : j = k
          · rw [e]; exact HG.out
          · exact hall j (by omega)⟩, by simp [intOf]; omega⟩
      · have q2 := ((r0.set 0 (.int .i64 0)).set 1 (.slice none 0 0)).alloc (.cells #[.int .i64 A, .int .i64 B] 33)
        have e0 := q2.cell (i := 0) (v := .int .i64 0) rfl
        have e1 := q2.cell (i := 1) (v := .slice none 0 0) rfl
        have HB := hide (((hB.setCell (p := ⟨w.heap.size, 0, none⟩) (Nat.le_refl _) (.int .i64 0)).setCell (p := ⟨w.heap.size, 1, none⟩) (Nat.le_refl _) (.slice none 0 0)).alloc (by simp; omega) (.cells #[.int .i64 A, .int .i64 B] 33))
        have hg4 := good
        unfold PairIn at hg4
        rw [HA.out, HBB.out] at hg4
        have four : (A < 0) ∨ (¬ A < 0 ∧ (n : Int) ≤ A) ∨ (¬ A < 0 ∧ ¬ (n : Int) ≤ A ∧ B < 0) ∨ (¬ A < 0 ∧ ¬ (n : Int) ≤ A ∧ ¬ B < 0 ∧ (n : Int) ≤ B) := by omega
        clear good hg4 q2
        rcases four with x1 | ⟨x1, x2⟩ | ⟨x1, x2, x3⟩ | ⟨x1, x2, x3, x4⟩
        · have h1 : decide (A < 0) = true := by simpa using x1
          clear x1
          go_wp2
          refine bodyPost_ret (v := .tuple #[.agg #[.int .i64 0, .slice none 0 0], .int .i64 2]) (by simp [results, Tryd.results10, go_sem, e0, e1]) rfl ⟨rfl, HB.out⟩
        · have h1 : decide (A < 0) = false := by simpa using x1
          have h2 : decide ((n : Int) ≤ A) = true := by simpa using x2
          clear x1 x2
          go_wp2
          refine bodyPost_ret (v := .tuple #[.agg #[.int .i64 0, .slice none 0 0], .int .i64 2]) (by simp [results, Tryd.results10, go_sem, e0, e1]) rfl ⟨rfl, HB.out⟩
        · have h1 : decide (A < 0) = false := by simpa using x1
          have h2 : decide ((n : Int) ≤ A) = false := by simpa using x2
          have h3 : decide (B < 0) = true := by simpa using x3
          clear x1 x2 x3
          go_wp2
          refine bodyPost_ret (v := .tuple #[.agg #[.int .i64 0, .slice none 0 0], .int .i64 2]) (by simp [results, Tryd.results10, go_sem, e0, e1]) rfl ⟨rfl, HB.out⟩
        · have h1 : decide (A < 0) = false := by simpa using x1
          have h2 : decide ((n : Int) ≤ A) = false := by simpa using x2
          have h3 : decide (B < 0) = false := by simpa using x3
          have h4 : decide ((n : Int) ≤ B) = true := by simpa using x4
          clear x1 x2 x3 x4
          go_wp2
          refine bodyPost_ret (v := .tuple #[.agg #[.int .i64 0, .slice none 0 0], .int .i64 2]) (by simp [results, Tryd.results10, go_sem, e0, e1]) rfl ⟨rfl, HB.out⟩
    · obtain ⟨q, hq, hqb⟩ := hbad
      exact absurd (hall q (by omega)) hqb
end Go.Proofs.YtbdigkjahfdmjaaDoor
