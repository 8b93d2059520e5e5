/- The document's MobiusChains. -/
import Derived.Test.YtilffmalkegioaaDoorMobRefS
import Derived.Test.YtilffmalkegioaaDoorRefCovered
import Derived.Test.YtilffmalkegioaaDoorMobMore
namespace Go.Proofs.YtilffmalkegioaaDoor
open Go.RowKit Go.Shelf

theorem ownsRow_cells {W : World} {base : Nat} {av : Option Addr} {cv k : Nat} {l : List B64} (h : W.ownsRow base 2 1 (.slice av k cv) k (bvals l)) (hk : 0 < k) : ∃ g, av = some ⟨g, 0, none⟩ ∧ base ≤ g ∧ g < W.heap.size ∧ CellsB W g 0 k (bd l) := by
  have hlen : (tiL l).length = k := by have := h.1; rw [bvals_len] at this; rw [tiL_len]; simpa using this
  have hz := ownsRow_b h
  rcases h.2 with ⟨h1, h2⟩ | ⟨g, cap, cur, h1, h2, h3, h4, h5, h6, h7⟩
  · omega
  · cases h1
    obtain ⟨b, o, e1, e2, e3⟩ := hz.cellsB (i := 0) (by rw [tiL_len] at hlen; omega)
    cases e1
    exact ⟨g, rfl, h2, e2, by rw [tiL_len] at hlen; rw [← hlen]; exact e3⟩
/-- the part of a sum of chains -/
def chAt (us : List Nat) (f : Nat → B64) (x y : Nat) : B64 := if underB us x y then f y else 0
theorem ch_next {us : List Nat} (k x b : Nat) : sm us.length (chAt us (fun y => chF us k y b) x) = chF us (k + 1) x b := by
  show _ = sm us.length fun y => ltM us x y * chF us k y b
  exact sm_congr fun y _ => by
    unfold chAt ltM
    cases underB us x y <;> simp

set_option maxRecDepth 100000 in
set_option maxHeartbeats 8000000 in
theorem RChains_any (n : Nat) (a : Option Addr) (cap : Nat) (us : List Nat) (x y : Nat) (n₀ : Nat) (hn : n = us.length) (hf : Fit us) (hl : n ≤ 16) (hx : x < n) (hy : y < n) (w : World) (hw : IsWords n₀ w a us) (hn₀ : n₀ ≤ w.heap.size) :
    Calls Tryd.prog 29 #[.agg #[.int .i64 n, .slice a n cap], .int .i64 x, .int .i64 y] w fun e w' => ∃ av cv, e = .returned (.slice av n cv) ∧ Below w.heap.size w w' ∧ w'.ownsRow w.heap.size 2 1 (.slice av n cv) n (bvals (vecL n (fun k => chF us k x y))) := by
  obtain ⟨i0, hi, hz0, hz1, hz2⟩ := info_parts info_i64
  have hund := fun i (hi : i < n) j (hj : j < n) (W : World) (hW : IsWords n₀ W a us) (hs : n₀ ≤ W.heap.size) => Under_any n a cap us i j n₀ hf (by omega) (by omega) W hW hs
  have hnx : ∀ k x, sm n (chAt us (fun z => chF us k z y) x) = chF us (k + 1) x y := fun k x => by rw [hn]; exact ch_next k x y
  rw [← hn] at hund
  clear hn
  have hmk := run_make_row' (P := Tryd.prog) 25 2 (.int .i64 0) 8 Tryd.underlying25 info_i64 rfl .i64 .i64 n (by omega) (by omega)
  obtain ⟨W0, hW0⟩ : ∃ W0, w.alloc (.cells #[.int .i64 n, .slice a n cap] 24) = W0 := ⟨_, rfl⟩
  obtain ⟨r0, hb0, hs0⟩ := one_row w 24 (.int .i64 n) (.slice a n cap) hW0
  obtain ⟨W1, hW1⟩ : ∃ W1, W0.alloc (.cells (madeCells #[.int .i64 0] n) 2) = W1 := ⟨_, rfl⟩
  have hb1 : Below w.heap.size w W1 := by rw [← hW1]; exact hb0.alloc (by omega) _
  have q0 : Row W1 w.heap.size 24 [.int .i64 n, .slice a n cap] := by rw [← hW1]; exact r0.alloc _
  have p1 : Row W1 (w.heap.size + 1) 2 (bvals (List.replicate n 0)) := by
    have := Row.new W0 2 (bvals (List.replicate n 0))
    rw [← bvals_replicate, hW1, hs0] at this
    exact this
  have lt1 := p1.lt
  have hs1 : W1.heap.size = w.heap.size + 1 + 1 := by rw [← hW1]; simp [hs0]
  have kc := p1.cell (bvals_at (i := y) (by simp; omega))
  have kz := p1.frozen y
  have hset := p1.set y (.int .i64 (1 : B64).toInt)
  rw [bvals_set] at hset
  have hc0 : CellsB (W1.setCell ⟨w.heap.size + 1, y, none⟩ (.int .i64 (1 : B64).toInt)) (w.heap.size + 1) 0 n (fun z => chF us 0 z y) := fun i hi => by
    have h1 := hset.cell (bvals_at (i := i) (by rw [List.length_set, List.length_replicate]; exact hi))
    rw [Nat.zero_add, h1, bd_set (by simp; omega), bd_replicate]
    show _ = some (Value.int .i64 (one i y).toInt)
    unfold one
    by_cases e : y = i
    · rw [if_pos e, if_pos e.symm]
    · rw [if_neg e, if_neg (fun h => e h.symm)]
  have hb2 : Below w.heap.size w (W1.setCell ⟨w.heap.size + 1, y, none⟩ (.int .i64 (1 : B64).toInt)) := hb1.setCell (p := ⟨w.heap.size + 1, y, none⟩) (by simp) _
  have q2 : Row (W1.setCell ⟨w.heap.size + 1, y, none⟩ (.int .i64 (1 : B64).toInt)) w.heap.size 24 [.int .i64 n, .slice a n cap] := q0.other (by omega) _ _
  have hs2 : (W1.setCell ⟨w.heap.size + 1, y, none⟩ (.int .i64 (1 : B64).toInt)).heap.size = w.heap.size + 1 + 1 := by simp [hs1]
  have c0 := r0.cell (i := 0) rfl
  rw [toInt_one] at *
  go_enter Tryd.func29, Tryd.ntmps29
  go_wp2_with fail
  generalize hWU : W1.setCell ⟨w.heap.size + 1, y, none⟩ (.int .i64 1) = U at *
  clear c0 kc kz hset p1 q0 hW0 hW1 hmk hb1 hWU
  have hwU := hw.below (hb2.mono hn₀)
  have hnU : n₀ ≤ U.heap.size := by omega
  go_loopw [9, 8, 7] (fun i ls fs wr => ∃ (k : Nat) (lv : Option Addr) (lc fb fo fc : Nat), k ≤ n ∧ i = .int .i64 k ∧ ls = .slice lv k lc ∧ fs = .slice (some ⟨fb, fo, none⟩) n fc ∧ Below U.heap.size U wr ∧ wr.ownsRow U.heap.size 2 1 (.slice lv k lc) k (bvals (vecL k (fun j => chF us j x y))) ∧ fb < wr.heap.size ∧ some fb ≠ (Value.slice lv k lc).ownBlock ∧ CellsB wr fb fo n (fun z => chF us k z y)) (fun i _ _ _ => n - (intOf i).toNat)
  case atStart => exact ⟨0, none, 0, _, 0, _, Nat.zero_le _, rfl, rfl, rfl, Below.refl _ _, World.ownsRow_nil .., by omega, by simp [Value.ownBlock], hc0⟩
  case round =>
    clear hc0
    obtain ⟨k, lv, lc, fb, fo, fc, hk, rfl, rfl, rfl, hB, hown, hfb, hfne, hcf⟩ := hrel
    have hBs := hB.size
    have g0 := row_below q2 hB q2.lt
    have c0 := g0.cell (i := 0) rfl
    by_cases hlt : k < n
    · have kf : wr.cell? ⟨fb, fo + x, none⟩ = some (.int .i64 (chF us k x y).toInt) := hcf x hx
      have HS := vecL_snoc (fun j => chF us j x y) k
      generalize hsv : chF us k x y = sv at *
      have HS := hide HS
      generalize vecL k (fun j => chF us j x y) = L0 at *
      clear hsv
      go_wp2_with (at_builtin; refine wpList_append_own _ rfl _ _ 25 rfl U.heap.size 2 i0 (.int .i64 0) 1 8 Tryd.underlying25 hi hz0 hz1 hz2 rfl (by decide) _ _ _ rfl (hown.alloc _) ⟨wr.heap.size, 0, none⟩ 1 1 [.int .i64 sv.toInt] rfl rfl (cell_one_new _ _ _) (fun u hu => by simp at hu; subst hu; rfl) (by unfold maxLen; omega) (by omega) (by simp; omega) ?_; intro v' w3 hown3 hgrow3 _; obtain ⟨g', cap', rfl⟩ := ownsRow_succ hown3)
      have hg3 : wr.grownBy w3 (Value.slice lv k lc).ownBlock := (World.grownBy_alloc wr _ _).trans hgrow3
      have hB3 : Below U.heap.size U w3 := hB.grown hg3 hBs fun q eq => by
        apply Nat.le_of_not_lt; intro hql
        exact ownBlock_ge hown (b := q) hql eq.symm
      have hcf3 : CellsB w3 fb fo n (fun z => chF us k z y) := fun i hi => by
        have h1 := hg3.block fb hfb hfne
        have h2 := hcf i hi
        unfold World.cell? at *; rw [h1]; exact h2
      have hfb3 : fb < w3.heap.size := Nat.lt_of_lt_of_le hfb hg3.size
      have hown3' : w3.ownsRow U.heap.size 2 1 (.slice (some ⟨g', 0, none⟩) (k + 1) cap') (k + 1) (bvals (vecL (k + 1) (fun j => chF us j x y))) := by
        rw [HS.out, bvals_snoc]; exact hown3
      have hg' : g' < w3.heap.size := by
        obtain ⟨g2, e1, _, e2, _⟩ := ownsRow_cells hown3' (by omega)
        cases e1; exact e2
      have hB3s := hB3.size
      have g3 := row_below q2 hB3 q2.lt
      clear c0 g0 kf hcf hown hfb hfne hown3 hgrow3 hg3 hB hBs
      have c0 := g3.cell (i := 0) rfl
      go_wp2_with fail
      clear c0
      go_loopw [11, 10] (fun i ns wr => ∃ (m : Nat) (nv : Option Addr) (nc : Nat), m ≤ n ∧ i = .int .i64 m ∧ ns = .slice nv m nc ∧ Below w3.heap.size w3 wr ∧ wr.ownsRow w3.heap.size 2 1 (.slice nv m nc) m (bvals (vecL m (fun z => chF us (k + 1) z y)))) (fun i _ _ => n - (intOf i).toNat)
      case atStart => exact ⟨0, none, 0, Nat.zero_le _, rfl, rfl, Below.refl _ _, World.ownsRow_nil ..⟩
      case round =>
        obtain ⟨m, nv, nc, hm, rfl, rfl, hB4, hown4⟩ := hrel
        have g4 := row_below g3 hB4 g3.lt
        have c0 := g4.cell (i := 0) rfl
        by_cases hmt : m < n
        · have HS4 := vecL_snoc (fun z => chF us (k + 1) z y) m
          rw [← hnx k m] at HS4
          have HS4 := hide HS4
          generalize vecL m (fun z => chF us (k + 1) z y) = L1 at *
          go_wp2_with fail
          clear c0 g4
          go_loopw [13, 12] (fun i s wr => ∃ z : Nat, z ≤ n ∧ i = .int .i64 z ∧ s = .int .i64 (sm z (chAt us (fun z => chF us k z y) m)).toInt ∧ Below w3.heap.size w3 wr ∧ wr.ownsRow w3.heap.size 2 1 (.slice nv m nc) m (bvals L1)) (fun i _ _ => n - (intOf i).toNat)
          case atStart => exact ⟨0, Nat.zero_le _, rfl, rfl, hB4, hown4⟩
          case round =>
            clear hB4 hown4
            obtain ⟨z, hz, rfl, rfl, hB4, hown4⟩ := hrel
            have hB4s := hB4.size
            have g4 := row_below g3 hB4 g3.lt
            have c0 := g4.cell (i := 0) rfl
            have c1 := g4.cell (i := 1) rfl
            by_cases hzt : z < n
            · have hc1 := hund m hmt z hzt wr (hwU.below ((hB3.trans (hB4.mono hB3s)).mono hnU)) (by omega)
              have kf : wr.cell? ⟨fb, fo + z, none⟩ = some (.int .i64 (chF us k z y).toInt) := (hB4.cell (p := ⟨fb, fo + z, none⟩) hfb3).trans (hcf3 z hzt)
              have HX := hide (show sm (z + 1) (chAt us (fun z => chF us k z y) m) = sm z (chAt us (fun z => chF us k z y) m) + chAt us (fun z => chF us k z y) m z from rfl)
              have hT : chAt us (fun z => chF us k z y) m z = if underB us m z then chF us k z y else 0 := rfl
              have hadd := wrap_add (sm z (chAt us (fun z => chF us k z y) m)) (chF us k z y)
              generalize sm z (chAt us (fun z => chF us k z y) m) = S0 at *
              generalize chAt us (fun z => chF us k z y) m z = tv at *
              generalize chF us k z y = fz at *
              generalize hs1 : S0 + fz = s1 at *
              generalize fz.toInt = fi at *
              cases h1 : underB us m z with
              | false =>
                rw [h1] at hT hc1
                have hT := hide hT
                clear h1 hs1
                go_wp2_with fail
                refine hc1.mono ?_
                rintro e w5 ⟨rfl, hb5⟩
                clear c0 c1 g4
                go_wp2_with fail
                refine ⟨⟨z + 1, by omega, by go_num, ?_, hB4.trans (hb5.mono hB4s), ownsRow_below hown4 hb5⟩, by simp [intOf]; omega⟩
                rw [HX.out, hT.out]; simp
              | true =>
                rw [h1] at hT hc1
                have HT := hide (show tv = fz from hT)
                have HS1 := hide hs1
                clear h1 hT hs1
                go_wp2_with fail
                refine hc1.mono ?_
                rintro e w5 ⟨rfl, hb5⟩
                have kf := cell_keep hb5 (show wr.cell? ⟨fb, fo + z, none⟩ = _ from kf)
                clear c0 c1 g4
                go_wp2_with fail
                refine ⟨⟨z + 1, by omega, by go_num, ?_, hB4.trans (hb5.mono hB4s), ownsRow_below hown4 hb5⟩, by simp [intOf]; omega⟩
                rw [HX.out, HT.out, HS1.out, hadd]
            · obtain rfl : z = n := by omega
              generalize sm z (chAt us (fun z' => chF us k z' y) m) = S0 at *
              have HS5 : vecL (m + 1) (fun z => chF us (k + 1) z y) = L1 ++ [S0] := HS4.out
              have HS5 := hide HS5
              clear HS4
              go_wp2_with (at_builtin; refine wpList_append_own _ rfl _ _ 25 rfl w3.heap.size 2 i0 (.int .i64 0) 1 8 Tryd.underlying25 hi hz0 hz1 hz2 rfl (by decide) _ _ _ rfl (hown4.alloc _) ⟨wr.heap.size, 0, none⟩ 1 1 [.int .i64 S0.toInt] rfl rfl (cell_one_new _ _ _) (fun u hu => by simp at hu; subst hu; rfl) (by unfold maxLen; omega) (by omega) (by simp; omega) ?_; intro v' w6 hown6 hgrow6 _; obtain ⟨g6, cap6, rfl⟩ := ownsRow_succ hown6)
              have hB6 : Below w3.heap.size w3 w6 := (hB4.alloc hB4s (.cells #[.int .i64 S0.toInt] 2)).grown hgrow6 (by simp; omega) fun q eq => by
                apply Nat.le_of_not_lt; intro hql
                exact ownBlock_ge hown4 (b := q) hql eq.symm
              refine ⟨⟨m + 1, some ⟨g6, 0, none⟩, cap6, by omega, by go_num, rfl, hB6, ?_⟩, by simp [intOf]; omega⟩
              rw [HS5.out, bvals_snoc]
              exact hown6
        · obtain rfl : m = n := by omega
          obtain ⟨g7, e7, hg7, hg7s, hc7⟩ := ownsRow_cells hown4 (by omega)
          subst e7
          have hc8 : CellsB wr g7 0 m (fun z => chF us (k + 1) z y) := fun i hi => by
            have h1 := hc7 i hi
            rw [bd_vecL _ hi] at h1
            exact h1
          clear hc7
          go_wp2_with fail
          refine ⟨⟨k + 1, some ⟨g', 0, none⟩, cap', g7, 0, nc, by omega, by go_num, rfl, rfl, hB3.trans (hB4.mono hB3s), ownsRow_below hown3' hB4, hg7s, ?_, hc8⟩, by simp [intOf]; omega⟩
          simp [Value.ownBlock]; omega
    · obtain rfl : k = n := by omega
      go_wp2
      go_ret
      exact ⟨lv, lc, rfl, hb2.trans (hB.mono (by omega)), ownsRow_base hown (by omega)⟩
end Go.Proofs.YtilffmalkegioaaDoor
