/- Package mobius: Chains. -/
import Derived.Test.YtilffmalkegioaaDoorMobPub
namespace Go.Proofs.YtilffmalkegioaaDoor
open Go.RowKit Go.Shelf

set_option maxRecDepth 100000 in
set_option maxHeartbeats 1000000 in
theorem Chains_bad (n : Int) (a : Option Addr) (cap : Nat) (us : List Nat) (v1 v2 : Value) (n₀ : Nat) (hf : Fit us) (w : World) (hT : TabAt w) (hw : IsWords n₀ w a us) (hg : 0 < n₀) (hn₀ : n₀ ≤ w.heap.size) (hc : codeOf n us ≠ 0) :
    Calls Tryd.prog 28 #[.agg #[.int .i64 n, .slice a us.length cap], v1, v2] w fun e w' => e = mobErr (codeOf n us) ∧ Below w.heap.size w w' := by
  obtain ⟨r0, hb0, hs0⟩ := one_row w 24 (.int .i64 n) (.slice a us.length cap) rfl
  have hck := Check_any n a cap us n₀ hf _ (hT.below hb0 (by omega)) (hw.below (hb0.mono hn₀)) hg (by omega)
  unfold mobErr
  generalize codeOf n us = c at *
  have hne : (c != 0) = true := by rw [bne_iff_ne]; exact hc
  have Hb := hide hb0
  clear hb0 hc hs0
  go_enter Tryd.func28, Tryd.ntmps28
  go_wp2_with (go_at_call 37; refine hck.mono ?_; rintro e w1 ⟨rfl, hb1⟩)
  go_ret2
  exact ⟨rfl, Hb.out.trans (hb1.mono (by simp))⟩

set_option maxRecDepth 100000 in
set_option maxHeartbeats 1000000 in
theorem Chains_arg (n : Nat) (a : Option Addr) (cap : Nat) (us : List Nat) (x y : Int) (n₀ : Nat) (hn : n = us.length) (hf : Fit us) (w : World) (hT : TabAt w) (hw : IsWords n₀ w a us) (hg : 0 < n₀) (hn₀ : n₀ ≤ w.heap.size) (hc : codeOf n us = 0) (hno : ¬ ((0 ≤ x ∧ x < n) ∧ 0 ≤ y ∧ y < n)) :
    Calls Tryd.prog 28 #[.agg #[.int .i64 n, .slice a n cap], .int .i64 x, .int .i64 y] w fun e w' => e = mobErr 2 ∧ Below w.heap.size w w' := by
  obtain ⟨r0, hb0, hs0⟩ := one_row w 24 (.int .i64 n) (.slice a n cap) rfl
  have hck := Check_any n a cap us n₀ hf _ (hT.below hb0 (by omega)) (hw.below (hb0.mono hn₀)) hg (by omega)
  rw [hc, ← hn] at hck
  unfold mobErr
  have Hb := hide hb0
  clear hb0 hc hn
  by_cases h1 : x < 0
  · have g1 : decide (x < 0) = true := by simp [h1]
    clear h1 hno
    go_enter Tryd.func28, Tryd.ntmps28
    go_wp2_with fail
    refine hck.mono ?_
    rintro e w1 ⟨rfl, hb1⟩
    have c0 := (row_below r0 hb1 r0.lt).cell (i := 0) rfl
    go_wp2_with fail
    go_ret2
    exact ⟨rfl, Hb.out.trans (hb1.mono (by simp))⟩
  · have g1 : decide (x < 0) = false := by simp; omega
    by_cases h2 : (n : Int) ≤ x
    · have g2 : decide ((n : Int) ≤ x) = true := by simp [h2]
      clear h1 h2 hno
      go_enter Tryd.func28, Tryd.ntmps28
      go_wp2_with fail
      refine hck.mono ?_
      rintro e w1 ⟨rfl, hb1⟩
      have c0 := (row_below r0 hb1 r0.lt).cell (i := 0) rfl
      go_wp2_with fail
      go_ret2
      exact ⟨rfl, Hb.out.trans (hb1.mono (by simp))⟩
    · have g2 : decide ((n : Int) ≤ x) = false := by simp; omega
      by_cases h3 : y < 0
      · have g3 : decide (y < 0) = true := by simp [h3]
        clear h1 h2 h3 hno
        go_enter Tryd.func28, Tryd.ntmps28
        go_wp2_with fail
        refine hck.mono ?_
        rintro e w1 ⟨rfl, hb1⟩
        have c0 := (row_below r0 hb1 r0.lt).cell (i := 0) rfl
        go_wp2_with fail
        go_ret2
        exact ⟨rfl, Hb.out.trans (hb1.mono (by simp))⟩
      · have g3 : decide (y < 0) = false := by simp; omega
        have g4 : decide ((n : Int) ≤ y) = true := by simp; omega
        clear h1 h2 h3 hno
        go_enter Tryd.func28, Tryd.ntmps28
        go_wp2_with fail
        refine hck.mono ?_
        rintro e w1 ⟨rfl, hb1⟩
        have c0 := (row_below r0 hb1 r0.lt).cell (i := 0) rfl
        go_wp2_with fail
        go_ret2
        exact ⟨rfl, Hb.out.trans (hb1.mono (by simp))⟩

set_option maxRecDepth 100000 in
set_option maxHeartbeats 8000000 in
theorem Chains_ok (n : Nat) (a : Option Addr) (cap : Nat) (us : List Nat) (x y : Nat) (n₀ : Nat) (hn : n = us.length) (hf : Fit us) (w : World) (hT : TabAt w) (hw : IsWords n₀ w a us) (hg : 0 < n₀) (hn₀ : n₀ ≤ w.heap.size) (hc : codeOf n us = 0) (hx : x < n) (hy : y < n) :
    Calls Tryd.prog 28 #[.agg #[.int .i64 n, .slice a n cap], .int .i64 x, .int .i64 y] w fun e w' => ∃ q, e = .returned (.tuple #[.slice (some ⟨q, 0, none⟩) n n, .int .i64 0]) ∧ w.heap.size ≤ q ∧ Below w.heap.size w w' ∧ Row w' q 2 (bvals (vecL n (fun k => chE us k x y))) := by
  have hl : n ≤ 16 := by have := (code_zero hc).2.1; omega
  have hnn : n * n ≤ 256 := Nat.mul_le_mul hl hl
  obtain ⟨r0, hb0, hs0⟩ := one_row w 24 (.int .i64 n) (.slice a n cap) rfl
  have hck := Check_any n a cap us n₀ hf _ (hT.below hb0 (by omega)) (hw.below (hb0.mono hn₀)) hg (by omega)
  rw [hc, ← hn] at hck
  have hst := fun (W : World) (hW : IsWords n₀ W a us) (hs : n₀ ≤ W.heap.size) => strict_any n a cap us n₀ hn hf hl W hW hs
  have hone := ones_any n hl
  have hrow := row_any n
  have hsum := fun p k oq bq cq W h1 h2 => sum_any n p hl (tabL n (ltM us)) (tabL_len _ _) (some ⟨bq, oq, none⟩) cq (chE us k x) W h1 h2
  have hvm : ∀ k, vecL n (vm n (chE us k x) (mat n (tabL n (ltM us)))) = vecL n (chE us (k + 1) x) := fun k => vecL_is (vecL_len _ _) fun i hi => by
    rw [bd_vecL _ hi]
    show _ = mm us.length (chE us k) (ltM us) x i
    rw [← hn]
    exact vm_congr (fun _ _ => rfl) (mat_tabL _) hi
  simp only [hvm] at hsum
  unfold sqV at hst hone hrow hsum
  have hmk := run_make_row' (P := Tryd.prog) 25 2 (.int .i64 0) 8 Tryd.underlying25 info_i64 rfl .i64 .i64 n (by omega) (by omega)
  have g1 : decide ((x : Int) < 0) = false := by simp
  have g2 : decide ((n : Int) ≤ (x : Int)) = false := by simp; omega
  have g3 : decide ((y : Int) < 0) = false := by simp
  have g4 : decide ((n : Int) ≤ (y : Int)) = false := by simp; omega
  have Hb := hide hb0
  clear hb0 hc hn hvm
  go_enter Tryd.func28, Tryd.ntmps28
  go_wp2_with fail
  refine hck.mono ?_
  rintro e w1 ⟨rfl, hb1⟩
  have q0 := row_below r0 hb1 r0.lt
  have c0 := q0.cell (i := 0) rfl
  have c1 := q0.cell (i := 1) rfl
  have hB1 := Hb.out.trans (hb1.mono (by simp))
  have hs1 := hB1.size
  clear hck hb1 r0 Hb
  go_wp2_with fail
  refine (hst _ (hw.below (hB1.mono hn₀)) (by omega)).mono ?_
  rintro e w2 ⟨p, rfl, hp, hb2, hr2⟩
  have q2 := row_below q0 hb2 q0.lt
  have hB2 := hB1.trans (hb2.mono hs1)
  have hs2 := hB2.size
  clear c0 c1 hst
  obtain ⟨W1, hW1⟩ : ∃ W1, w2.alloc (.cells #[.int .i64 n, .slice (some ⟨p, 0, none⟩) (n * n) (n * n)] 54) = W1 := ⟨_, rfl⟩
  obtain ⟨r9, hB3, hs3⟩ := sq_cells w2 _ _ hW1
  have q3 := row_below q2 hB3 q2.lt
  have p3 := row_below hr2 hB3 hr2.lt
  have hBW := hB2.trans (hB3.mono hs2)
  have hsW := hBW.size
  have c0 := q3.cell (i := 0) rfl
  go_wp2_with fail
  refine (hone _).mono ?_
  rintro e w4 ⟨z, rfl, hz, hb4, hr4⟩
  clear c0 hW1
  have q4 := row_below q3 hb4 q3.lt
  have p4 := row_below p3 hb4 p3.lt
  have r94 := row_below r9 hb4 r9.lt
  have hB4 := hBW.trans (hb4.mono hsW)
  have hs4 := hB4.size
  have hzl := hr4.lt
  go_wp2_with fail
  refine (hrow z x hl hx _).mono ?_
  rintro e w5 ⟨rfl, hb5⟩
  have q5 := row_below q4 hb5 q4.lt
  have p5 := row_below p4 hb5 p4.lt
  have r95 := row_below r94 hb5 r94.lt
  have z5 := row_below hr4 hb5 hr4.lt
  have hB5 := hB4.trans (hb5.mono hs4)
  have hs5 := hB5.size
  have z5l := z5.lt
  have c0 := q5.cell (i := 0) rfl
  obtain ⟨W2, hW2⟩ : ∃ W2, w5.alloc (.cells (madeCells #[.int .i64 0] n) 2) = W2 := ⟨_, rfl⟩
  have hr6 : Row W2 w5.heap.size 2 (bvals (List.replicate n 0)) := by
    have := Row.new w5 2 (bvals (List.replicate n 0))
    rw [← bvals_replicate, hW2] at this
    exact this
  have hb6 : Below w5.heap.size w5 W2 := by rw [← hW2]; exact (Below.refl _ _).alloc (Nat.le_refl _) _
  have p6 := row_below p5 hb6 p5.lt
  have r96 := row_below r95 hb6 r95.lt
  have z6 := row_below z5 hb6 z5.lt
  have hB6 := hB5.trans (hb6.mono hs5)
  go_wp2_with fail
  have p5l := p5.lt
  have r95l := r95.lt
  clear c0 hmk hone hrow q0 q2 q3 q4 q5 p3 p4 p5 r9 r94 r95 hr2 hr4 z5 hb2 hB3 hb4 hb5 hb6
  have hcz := z6.cellsB (x * n) n (by rw [tabL_len]; have := Nat.mul_le_mul_right n (show x + 1 ≤ n from hx); rw [Nat.succ_mul] at this; exact this)
  have hcv : CellsB W2 z (x * n) n (chE us 0 x) := fun i hi => by
    have h1 : W2.cell? ⟨z, x * n + i, none⟩ = some (.int .i64 (bd (tabL n one) (x * n + i)).toInt) := hcz i hi
    have h2 := mat_tabL (n := n) one x hx i hi
    unfold mat at h2
    rw [h2] at h1
    exact h1
  have hzW := z6.lt
  have hqW := hr6.lt
  generalize hq : w5.heap.size = q at *
  generalize w2.heap.size = B at *
  clear hcz hW2 z6
  go_loopw [48, 10] (fun i ends wr => ∃ (k : Nat) (P : List B64) (bq oq cq : Nat), k ≤ n ∧ i = .int .i64 k ∧ ends = .slice (some ⟨bq, oq, none⟩) n cq ∧ Below w.heap.size w wr ∧ Row wr B 54 [.int .i64 n, .slice (some ⟨p, 0, none⟩) (n * n) (n * n)] ∧ Row wr p 2 (bvals (tabL n (ltM us))) ∧ Row wr q 2 (bvals P) ∧ P.length = n ∧ (∀ j, j < k → bd P j = chE us j x y) ∧ bq < wr.heap.size ∧ bq ≠ q ∧ CellsB wr bq oq n (chE us k x)) (fun i _ _ => n - (intOf i).toNat)
  case atStart => exact ⟨0, _, z, x * n, _, Nat.zero_le _, rfl, rfl, hB6, r96, p6, hr6, by simp, fun j hj => absurd hj (Nat.not_lt_zero _), hzW, by omega, hcv⟩
  case round =>
    clear hcv hr6 r96 p6 hB6 hzW hqW
    obtain ⟨k, P, bq, oq, cq, hk, rfl, rfl, hB, rB, rp, rq, hlP, hP, hbq, hbne, hcv⟩ := hrel
    have hBs := hB.size
    have ltB := rB.lt
    have ltq := rq.lt
    have ltp := rp.lt
    by_cases hlt : k < n
    · have kv := hcv y hy
      have kc := rq.cell (bvals_at (i := k) (by omega))
      have kf := rq.frozen k
      have hset := rq.set k (.int .i64 (chE us k x y).toInt)
      rw [bvals_set] at hset
      have d0 := rB.cell (i := 0) rfl
      have d1 := rB.cell (i := 1) rfl
      have HP := hide hP
      have Hset := hide hset
      obtain ⟨V, hV⟩ : ∃ V, wr.setCell ⟨q, k, none⟩ (.int .i64 (chE us k x y).toInt) = V := ⟨_, rfl⟩
      have hgV : wr.grownBy V (some q) := by rw [← hV]; exact grownBy_setCellAt _ _ _ _
      have hBV : Below w.heap.size w V := by rw [← hV]; exact hB.setCell (p := ⟨q, k, none⟩) (by simp; omega) _
      have vq : Row V q 2 (bvals (P.set k (chE us k x y))) := by rw [← hV]; exact hset
      have vB := rB.kept hgV (by simp; omega)
      have vp := rp.kept hgV (by simp; omega)
      have hcV : CellsB V bq oq n (chE us k x) := fun i hi => cell_grown hgV hbne (hcv i hi)
      have hVs : bq < V.heap.size := Nat.lt_of_lt_of_le hbq hgV.size
      generalize (chE us k x y).toInt = sv at *
      clear hset hP hcv
      have e0 := vB.cell (i := 0) rfl
      have e1 := vB.cell (i := 1) rfl
      go_wp2_with fail
      refine (hsum p k oq bq cq _ vp (.inr ⟨bq, oq, rfl, hVs, hcV⟩)).mono ?_
      rintro e w7 ⟨t, rfl, ht, hb7, hr7⟩
      clear d0 d1 e0 e1 kv kc kf hV
      have htl := hr7.lt
      have vql := vq.lt
      go_wp2_with fail
      refine ⟨⟨k + 1, P.set k (chE us k x y), t, 0, n, by omega, by go_num, rfl, hBV.trans (hb7.mono hBV.size), vB.keep hb7, vp.keep hb7, vq.keep hb7, by rw [List.length_set, hlP], fun j hj => ?_, htl, by omega, ?_⟩, by simp [intOf]; omega⟩
      · rw [bd_set (by omega)]
        by_cases e : k = j
        · subst e; rw [if_pos rfl]
        · rw [if_neg e, HP.out j (by omega)]
      · have h1 := hr7.cellsB 0 n (by rw [vecL_len]; omega)
        intro i hi
        have h2 : w7.cell? ⟨t, 0 + i, none⟩ = some (.int .i64 (bd (vecL n (chE us (k + 1) x)) (0 + i)).toInt) := h1 i hi
        rw [Nat.zero_add, bd_vecL _ hi] at h2
        rw [Nat.zero_add]
        exact h2
    · obtain rfl : k = n := by omega
      have e : P = vecL k (fun j => chE us j x y) := vecL_is hlP hP
      subst e
      clear hP hcv hsum
      go_wp2_with fail
      go_ret2
      exact ⟨q, rfl, by omega, hB, rq⟩
end Go.Proofs.YtilffmalkegioaaDoor
