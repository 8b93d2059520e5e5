/- The document's MobiusSums. -/
import Derived.Test.YtilffmalkegioaaDoorMobRefZ
namespace Go.Proofs.YtilffmalkegioaaDoor
open Go.RowKit Go.Shelf

/-- what is added at x -/
def smAt (us : List Nat) (v : Nat → B64) (b x : Nat) : B64 := if hasB (wd us x) b then v x else 0
theorem sm_zet {us : List Nat} (v : Nat → B64) (n b : Nat) : sm n (smAt us v b) = vm n v (zet us) b := sm_congr fun x _ => by
  unfold smAt zet
  cases hasB (wd us x) b <;> simp

set_option maxRecDepth 100000 in
set_option maxHeartbeats 8000000 in
theorem RSums_any (n : Nat) (a : Option Addr) (cap : Nat) (us : List Nat) (af : Option Addr) (cf : Nat) (v : Nat → B64) (n₀ : Nat) (hn : n = us.length) (hf : Fit us) (hl : n ≤ 16) (w : World) (hw : IsWords n₀ w a us) (hv : VecAt w af n v) (hn₀ : n₀ ≤ w.heap.size) :
    Calls Tryd.prog 26 #[.agg #[.int .i64 n, .slice a n cap], .slice af n cf] w fun e w' => ∃ av cv, e = .returned (.slice av n cv) ∧ Below w.heap.size w w' ∧ w'.ownsRow w.heap.size 2 1 (.slice av n cv) n (bvals (vecL n (vm n v (zet us)))) := by
  obtain ⟨i0, hi, hz0, hz1, hz2⟩ := info_parts info_i64
  have hbel := fun i (hi : i < n) j (hj : j < n) (W : World) (hW : IsWords n₀ W a us) (hs : n₀ ≤ W.heap.size) => Below_any n a cap us i j n₀ hf (by omega) (by omega) W hW hs
  rw [← hn] at hbel
  have hfull : vecL n (vm n v (zet us)) = vecL n (fun b => sm n (smAt us v b)) := vecL_is (vecL_len _ _) fun i hi => by rw [bd_vecL _ hi, sm_zet]
  rw [hfull]
  clear hn hfull
  go_enter Tryd.func26, Tryd.ntmps26
  go_wp2_with fail
  obtain ⟨W0, hW0⟩ : ∃ W0, w.alloc (.cells #[.int .i64 n, .slice a n cap] 24) = W0 := ⟨_, rfl⟩
  obtain ⟨r0, hb0, hs0⟩ := one_row w 24 (.int .i64 n) (.slice a n cap) hW0
  rw [hW0]
  have hw0 := hw.below (hb0.mono hn₀)
  have hv0 := hv.below hb0
  have hn1 : n₀ ≤ W0.heap.size := by omega
  clear hW0 hw hv
  go_loopw [6, 5] (fun i ls wr => ∃ (m : Nat) (av : Option Addr) (cv : Nat), m ≤ n ∧ i = .int .i64 m ∧ ls = .slice av m cv ∧ Below W0.heap.size W0 wr ∧ wr.ownsRow W0.heap.size 2 1 (.slice av m cv) m (bvals (vecL m (fun b => sm n (smAt us v b))))) (fun i _ _ => n - (intOf i).toNat)
  case atStart => exact ⟨0, none, 0, Nat.zero_le _, rfl, rfl, Below.refl _ _, World.ownsRow_nil ..⟩
  case round =>
    obtain ⟨m, av, cv, hm, rfl, rfl, hB, hown⟩ := hrel
    have q0 := row_below r0 hB r0.lt
    have c0 := q0.cell (i := 0) rfl
    have c1 := q0.cell (i := 1) rfl
    by_cases hmt : m < n
    · have HS := hide (vecL_snoc (fun b => sm n (smAt us v b)) m)
      generalize vecL m (fun b => sm n (smAt us v b)) = L0 at *
      go_wp2_with fail
      clear c0 c1
      go_loopw [8, 7] (fun i s wr => ∃ (x : Nat), x ≤ n ∧ i = .int .i64 x ∧ s = .int .i64 (sm x (smAt us v m)).toInt ∧ Below W0.heap.size W0 wr ∧ wr.ownsRow W0.heap.size 2 1 (.slice av m cv) m (bvals L0)) (fun i _ _ => n - (intOf i).toNat)
      case atStart => exact ⟨0, Nat.zero_le _, rfl, rfl, hB, hown⟩
      case round =>
        clear hB hown q0
        obtain ⟨x, hx, rfl, rfl, hB, hown⟩ := hrel
        have hBs := hB.size
        have q0 := row_below r0 hB r0.lt
        have c0 := q0.cell (i := 0) rfl
        have c1 := q0.cell (i := 1) rfl
        by_cases hxt : x < n
        · have hc1 := hbel x hxt m hmt wr (hw0.below (hB.mono hn1)) (by omega)
          obtain ⟨fb, fo, rfl, hfb, hfc⟩ := hv0.resolve_left (by omega)
          have kf := (hB.cell (p := ⟨fb, fo + x, none⟩) hfb).trans (hfc x hxt)
          have HX := hide (show sm (x + 1) (smAt us v m) = sm x (smAt us v m) + smAt us v m x from rfl)
          have hT : smAt us v m x = if hasB (wd us x) m then v x else 0 := rfl
          have hadd := wrap_add (sm x (smAt us v m)) (v x)
          generalize sm x (smAt us v m) = S0 at *
          generalize smAt us v m x = tv at *
          generalize hs1 : S0 + v x = s1 at *
          generalize (v x).toInt = vi at *
          cases h1 : hasB (wd us x) m with
          | false =>
            rw [h1] at hT hc1
            have hT := hide hT
            clear h1 hfc hv0
            go_wp2_with fail
            refine hc1.mono ?_
            rintro e w2 ⟨rfl, hb2⟩
            clear c0 c1 q0
            go_wp2_with fail
            refine ⟨⟨x + 1, by omega, by go_num, ?_, hB.trans (hb2.mono hBs), ownsRow_below hown hb2⟩, by simp [intOf]; omega⟩
            rw [HX.out, hT.out]; simp
          | true =>
            rw [h1] at hT hc1
            have hT := hide hT
            clear h1 hfc hv0
            go_wp2_with fail
            refine hc1.mono ?_
            rintro e w2 ⟨rfl, hb2⟩
            have kf := cell_keep hb2 (show wr.cell? ⟨fb, fo + x, none⟩ = _ from kf)
            clear c0 c1 q0
            go_wp2_with fail
            refine ⟨⟨x + 1, by omega, by go_num, ?_, hB.trans (hb2.mono hBs), ownsRow_below hown hb2⟩, by simp [intOf]; omega⟩
            have e1 : tv = v x := hT.out
            rw [HX.out, e1, hs1, hadd]
        · obtain rfl : x = n := by omega
          generalize sm x (smAt us v m) = S0 at *
          go_wp2_with (at_builtin; refine wpList_append_own _ rfl _ _ 25 rfl W0.heap.size 2 i0 (.int .i64 0) 1 8 Tryd.underlying25 hi hz0 hz1 hz2 rfl (by decide) _ _ _ rfl (hown.alloc _) ⟨wr.heap.size, 0, none⟩ 1 1 [.int .i64 S0.toInt] rfl rfl (cell_one_new _ _ _) (fun u hu => by simp at hu; subst hu; rfl) (by unfold maxLen; omega) (by omega) (by simp; omega) ?_; intro v' w3 hown3 hgrow3 _; obtain ⟨g', cap', rfl⟩ := ownsRow_succ hown3)
          have hB3 : Below W0.heap.size W0 w3 := (hB.alloc hBs (.cells #[.int .i64 S0.toInt] 2)).grown hgrow3 (by simp; omega) fun q eq => by
            apply Nat.le_of_not_lt; intro hql
            exact ownBlock_ge hown (b := q) hql eq.symm
          refine ⟨⟨m + 1, some ⟨g', 0, none⟩, cap', by omega, by go_num, rfl, hB3, ?_⟩, by simp [intOf]; omega⟩
          rw [HS.out, bvals_snoc]
          exact hown3
    · obtain rfl : m = n := by omega
      go_wp2
      go_ret
      exact ⟨av, cv, rfl, hb0.trans (hB.mono (by omega)), ownsRow_base hown (by omega)⟩
end Go.Proofs.YtilffmalkegioaaDoor
