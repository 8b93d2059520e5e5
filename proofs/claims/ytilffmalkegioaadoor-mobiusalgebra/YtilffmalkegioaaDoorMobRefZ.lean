/- The document's MobiusZeta and MobiusSums. -/
import Derived.Test.YtilffmalkegioaaDoorMobRef
namespace Go.Proofs.YtilffmalkegioaaDoor
open Go.RowKit Go.Shelf

theorem ownsRow_b {W : World} {base : Nat} {av : Option Addr} {cv k : Nat} {l : List B64} (h : W.ownsRow base 2 1 (.slice av k cv) k (bvals l)) : ZInts W.heap.size W av (tiL l) := by
  have hlen : (tiL l).length = k := by have := h.1; rw [bvals_len] at this; rw [tiL_len]; simpa using this
  rcases h.2 with ⟨h1, h2⟩ | ⟨g, cap, cur, h1, h2, h3, h4, h5, h6, h7⟩
  · exact .inl (List.length_eq_zero_iff.1 (by omega))
  · cases h1
    refine .inr ⟨g, 0, rfl, (Array.getElem?_eq_some_iff.1 h3).1, fun i hi => ?_⟩
    have hx : (cur.toList.take (k * 1))[i]? = (zvals (tiL l))[i]? := by rw [h7]; rfl
    rw [zvals_at hi, List.getElem?_take, if_pos (by omega)] at hx
    simp [World.cell?, h3, ← Array.getElem?_toList, hx]
/-- the first k rows of a table, and j places of the next one -/
def preL (n : Nat) (f : Mat) (k j : Nat) : List B64 := (List.range (k * n + j)).map fun i => f (i / n) (i % n)
theorem preL_len (n : Nat) (f : Mat) (k j : Nat) : (preL n f k j).length = k * n + j := by unfold preL; simp
theorem preL_zero (n : Nat) (f : Mat) : preL n f 0 0 = [] := by unfold preL; simp
theorem preL_full (n : Nat) (f : Mat) : preL n f n 0 = tabL n f := by unfold preL tabL; rw [Nat.add_zero]
theorem preL_next {n : Nat} (f : Mat) (k : Nat) : preL n f k n = preL n f (k + 1) 0 := by unfold preL; rw [Nat.succ_mul, Nat.add_zero]
theorem preL_snoc {n : Nat} (f : Mat) (k : Nat) {j : Nat} (hj : j < n) : preL n f k (j + 1) = preL n f k j ++ [f k j] := by
  unfold preL
  rw [← Nat.add_assoc, List.range_succ, List.map_append]
  simp only [List.map_cons, List.map_nil]
  rw [pair_div hj, pair_mod hj]
/-- the first k of a vector -/
theorem vecL_snoc (f : Nat → B64) (k : Nat) : vecL (k + 1) f = vecL k f ++ [f k] := by unfold vecL; rw [List.range_succ, List.map_append]; rfl
theorem vecL_zero (f : Nat → B64) : vecL 0 f = [] := rfl
theorem toInt_ite (b : Bool) : (if b = true then (1 : B64) else 0).toInt = if b = true then 1 else 0 := by cases b <;> rfl

set_option maxRecDepth 100000 in
set_option maxHeartbeats 4000000 in
theorem RZeta_any (n : Nat) (a : Option Addr) (cap : Nat) (us : List Nat) (n₀ : Nat) (hn : n = us.length) (hf : Fit us) (hl : n ≤ 16) (w : World) (hw : IsWords n₀ w a us) (hn₀ : n₀ ≤ w.heap.size) :
    Calls Tryd.prog 17 #[.agg #[.int .i64 n, .slice a n cap]] w fun e w' => ∃ av cv, e = .returned (.slice av (n * n) cv) ∧ Below w.heap.size w w' ∧ w'.ownsRow w.heap.size 2 1 (.slice av (n * n) cv) (n * n) (bvals (tabL n (zet us))) := by
  have h2 : n * n ≤ 256 := Nat.mul_le_mul hl hl
  obtain ⟨i0, hi, hz0, hz1, hz2⟩ := info_parts info_i64
  have hbel := fun i (hi : i < n) j (hj : j < 32) (W : World) (hW : IsWords n₀ W a us) (hs : n₀ ≤ W.heap.size) => Below_any n a cap us i j n₀ hf (by omega) hj W hW hs
  rw [← hn] at hbel
  clear hn
  go_enter Tryd.func17, Tryd.ntmps17
  go_wp2_with fail
  obtain ⟨W0, hW0⟩ : ∃ W0, w.alloc (.cells #[.int .i64 n, .slice a n cap] 24) = W0 := ⟨_, rfl⟩
  obtain ⟨r0, hb0, hs0⟩ := one_row w 24 (.int .i64 n) (.slice a n cap) hW0
  rw [hW0]
  have hw0 := hw.below (hb0.mono hn₀)
  have hn1 : n₀ ≤ W0.heap.size := by omega
  go_loopw [4, 3] (fun i ls wr => ∃ (k : Nat) (av : Option Addr) (cv : Nat), k ≤ n ∧ i = .int .i64 k ∧ ls = .slice av (k * n) cv ∧ Below W0.heap.size W0 wr ∧ wr.ownsRow W0.heap.size 2 1 (.slice av (k * n) cv) (k * n) (bvals (preL n (zet us) k 0))) (fun i _ _ => n - (intOf i).toNat)
  case atStart => exact ⟨0, none, 0, Nat.zero_le _, rfl, by rw [Nat.zero_mul], Below.refl _ _, by rw [preL_zero, Nat.zero_mul]; exact World.ownsRow_nil ..⟩
  case round =>
    obtain ⟨k, av, cv, hk, rfl, rfl, hB, hown⟩ := hrel
    have q0 := row_below r0 hB r0.lt
    have c0 := q0.cell (i := 0) rfl
    have c1 := q0.cell (i := 1) rfl
    by_cases hlt : k < n
    · go_wp2_with fail
      go_loopw [5, 3] (fun j ls wr => ∃ (m : Nat) (av : Option Addr) (cv : Nat), m ≤ n ∧ j = .int .i64 m ∧ ls = .slice av (k * n + m) cv ∧ Below W0.heap.size W0 wr ∧ wr.ownsRow W0.heap.size 2 1 (.slice av (k * n + m) cv) (k * n + m) (bvals (preL n (zet us) k m))) (fun j _ _ => n - (intOf j).toNat)
      case atStart => exact ⟨0, av, cv, Nat.zero_le _, rfl, rfl, hB, hown⟩
      case round =>
        clear hB hown q0 c0 c1
        obtain ⟨m, av, cv, hm, rfl, rfl, hB, hown⟩ := hrel
        have hBs := hB.size
        have q0 := row_below r0 hB r0.lt
        have c0 := q0.cell (i := 0) rfl
        have c1 := q0.cell (i := 1) rfl
        by_cases hmt : m < n
        · have hpl := plc_lt hlt hmt
          have hcall := hbel k hlt m (by omega) wr (hw0.below (hB.mono hn1)) (by omega)
          have HS := hide (preL_snoc (zet us) k hmt)
          obtain ⟨z, hz⟩ : ∃ z, z = zet us k m := ⟨_, rfl⟩
          rw [← hz] at HS
          go_wp2_with fail
          refine hcall.mono ?_
          rintro e w2 ⟨rfl, hb2⟩
          have hown2 := ownsRow_below hown hb2
          have hB2 := hB.trans (hb2.mono hBs)
          have hBs2 := hB2.size
          clear hcall c0 c1 q0
          generalize preL n (zet us) k m = S at *
          cases hh : hasB (wd us k) m with
          | true =>
            have hv : z.toInt = 1 := by rw [hz]; unfold zet; rw [hh]; rfl
            go_wp2_with (at_builtin; refine wpList_append_own _ rfl _ _ 25 rfl W0.heap.size 2 i0 (.int .i64 0) 1 8 Tryd.underlying25 hi hz0 hz1 hz2 rfl (by decide) _ _ _ rfl (hown2.alloc _) ⟨w2.heap.size, 0, none⟩ 1 1 [.int .i64 1] rfl rfl (cell_one_new _ _ _) (fun u hu => by simp at hu; subst hu; rfl) (by unfold maxLen; omega) (by omega) (by simp; omega) ?_; intro v' w3 hown3 hgrow3 _; obtain ⟨g', cap', rfl⟩ := ownsRow_succ hown3)
            have hB3 : Below W0.heap.size W0 w3 := (hB2.alloc hBs2 (.cells #[.int .i64 1] 2)).grown hgrow3 (by simp; omega) fun q eq => by
              apply Nat.le_of_not_lt; intro hql
              exact ownBlock_ge hown2 (b := q) hql eq.symm
            refine ⟨⟨m + 1, some ⟨g', 0, none⟩, cap', by omega, by go_num, by rw [Nat.add_assoc], hB3, ?_⟩, by simp [intOf]; omega⟩
            rw [HS.out, bvals_snoc, hv]
            exact hown3
          | false =>
            have hv : z.toInt = 0 := by rw [hz]; unfold zet; rw [hh]; rfl
            go_wp2_with (at_builtin; refine wpList_append_own _ rfl _ _ 25 rfl W0.heap.size 2 i0 (.int .i64 0) 1 8 Tryd.underlying25 hi hz0 hz1 hz2 rfl (by decide) _ _ _ rfl (hown2.alloc _) ⟨w2.heap.size, 0, none⟩ 1 1 [.int .i64 0] rfl rfl (cell_one_new _ _ _) (fun u hu => by simp at hu; subst hu; rfl) (by unfold maxLen; omega) (by omega) (by simp; omega) ?_; intro v' w3 hown3 hgrow3 _; obtain ⟨g', cap', rfl⟩ := ownsRow_succ hown3)
            have hB3 : Below W0.heap.size W0 w3 := (hB2.alloc hBs2 (.cells #[.int .i64 0] 2)).grown hgrow3 (by simp; omega) fun q eq => by
              apply Nat.le_of_not_lt; intro hql
              exact ownBlock_ge hown2 (b := q) hql eq.symm
            refine ⟨⟨m + 1, some ⟨g', 0, none⟩, cap', by omega, by go_num, by rw [Nat.add_assoc], hB3, ?_⟩, by simp [intOf]; omega⟩
            rw [HS.out, bvals_snoc, hv]
            exact hown3
        · obtain rfl : m = n := by omega
          go_wp2_with fail
          rw [preL_next] at hown
          refine ⟨⟨k + 1, av, cv, by omega, by go_num, by rw [Nat.succ_mul], hB, ?_⟩, by simp [intOf]; omega⟩
          rw [Nat.succ_mul]; exact hown
    · obtain rfl : k = n := by omega
      rw [preL_full] at hown
      go_wp2
      go_ret
      exact ⟨av, cv, rfl, hb0.trans (hB.mono (by omega)), ownsRow_base hown (by omega)⟩
end Go.Proofs.YtilffmalkegioaaDoor
