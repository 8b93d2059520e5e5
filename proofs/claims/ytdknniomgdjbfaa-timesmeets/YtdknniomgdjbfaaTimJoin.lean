/- The contracts of package times' together, Join and Meet; and of the document's TimesJoin. -/
import Derived.Test.YtdknniomgdjbfaaTimLess
namespace Go.Proofs.Ytdknniomgdjbfaa
open Go.RowKit Go.Shelf

theorem greater_any (x y : Int) (w : World) : Calls Try.prog 36 #[.int .i64 x, .int .i64 y] w fun e w' => e = .returned (.int .i64 (pickZ true x y)) ∧ w' = w := by
  go_enter Try.func36, Try.ntmps36
  go_wp2
  all_goals
    go_ret
    exact ⟨ret_int (by unfold pickZ; simp; omega), rfl⟩
set_option maxRecDepth 100000 in
set_option maxHeartbeats 2000000 in
theorem togetherG_any (a : Option Addr) (ca : Nat) (zs : List Int) (b : Option Addr) (cb : Nat) (ys : List Int) (n₀ : Nat) (hl : zs.length = ys.length) (h4 : zs.length ≤ 4) (w : World) (hz : ZInts n₀ w a zs) (hy : ZInts n₀ w b ys) (hn₀ : n₀ ≤ w.heap.size) :
    Calls Try.prog 35 #[.agg #[.slice a zs.length ca, .slice b ys.length cb], .func (.func 36) #[] #[]] w fun e w' => ∃ B, e = .returned (.slice (some ⟨B, 0, none⟩) zs.length zs.length) ∧ Below w.heap.size w w' ∧ w.heap.size ≤ B ∧ Row w' B 3 (zvals (joinT true zs ys)) := by
  have hmk := run_make_row' (P := Try.prog) 23 3 (.int .i64 0) 8 Try.underlying23 info_int rfl .i64 .i64 zs.length (by omega) (by omega)
  obtain ⟨r0, hb0, hs0⟩ := one_row w 46 (.slice a zs.length ca) (.slice b ys.length cb) rfl
  have c0 := r0.cell (i := 0) rfl
  have c1 := r0.cell (i := 1) rfl
  have HL := hide hl
  have lt0 := r0.lt
  clear hl
  go_enter Try.func35, Try.ntmps35
  go_wp2_with fail
  have hk1 := Row.new (w.alloc (.cells #[.slice a zs.length ca, .slice b ys.length cb] 46)) 3 (zvals (List.replicate zs.length 0))
  rw [← zvals_replicate] at hk1
  have hk2 : Below w.heap.size w ((w.alloc (.cells #[.slice a zs.length ca, .slice b ys.length cb] 46)).alloc (.cells (madeCells #[Value.int .i64 0] zs.length) 3)) := hb0.alloc (by omega) _
  have hk3 := row_below r0 ((Below.refl _ _).alloc (Nat.le_refl _) (.cells (madeCells #[Value.int .i64 0] zs.length) 3)) lt0
  rw [hs0] at hk1
  clear hmk c0 c1 r0
  go_loopw [15] (fun i wr => ∃ (k : Nat) (ds : List Int), k ≤ zs.length ∧ i = .int .i64 k ∧ ds.length = zs.length ∧ Hid (∀ j, j < k → zd ds j = pickZ true (zd zs j) (zd ys j)) ∧ Row wr (w.heap.size + 1) 3 (zvals ds) ∧ Row wr w.heap.size 46 [.slice a zs.length ca, .slice b ys.length cb] ∧ Below w.heap.size w wr) (fun i _ => zs.length - (intOf i).toNat)
  case atStart => exact ⟨0, _, Nat.zero_le _, rfl, by simp, hide fun j h => by omega, hk1, hk3, hk2⟩
  case round =>
    obtain ⟨k, ds, hk, rfl, hdl, HS, rD, rP, hB⟩ := hrel
    clear hk1 hk2 hk3
    by_cases hlt : k < zs.length
    · have hlt2 : k < ys.length := by have := HL.out; omega
      obtain ⟨bz, oz, rfl, hbz, hcz⟩ := (hz.below (hB.mono hn₀)).at hlt
      obtain ⟨bb, oy, rfl, hby, hcy⟩ := (hy.below (hB.mono hn₀)).at hlt2
      have ck := hcz k hlt
      have dk := hcy k hlt2
      have p1 := rP.cell (i := 1) rfl
      have cK := rD.cell (zvals_at (l := ds) (i := k) (by omega))
      have fK := rD.frozen k
      have hcall : ∀ W, Calls Try.prog 36 #[.int .i64 (zd zs k), .int .i64 (zd ys k)] W fun e w' => e = .returned (.int .i64 (pickZ true (zd zs k) (zd ys k))) ∧ w' = W := fun W => by
        exact greater_any _ _ W
      have HD := hide hdl
      clear hcz hcy hdl
      have HK := hide (show ∀ j, j = k → pickZ true (zd zs j) (zd ys j) = pickZ true (zd zs k) (zd ys k) from fun j e => by rw [e])
      generalize pickZ true (zd zs k) (zd ys k) = v at *
      go_wp2_with ((refine (hcall _).mono ?_; rintro e w' ⟨rfl, rfl⟩))
      refine ⟨⟨k + 1, ds.set k v, by omega, by go_num, by rw [List.length_set]; exact HD.out, hide fun j hj => ?_, by rw [← zvals_set]; exact rD.set k _, rP.below (n := w.heap.size + 1) ((Below.refl _ _).setCell (p := ⟨w.heap.size + 1, k, none⟩) (Nat.le_refl _) _) (by omega), hB.setCell (p := ⟨w.heap.size + 1, k, none⟩) (by simp) _⟩, by simp [intOf]; omega⟩
      rw [zd_set (by rw [HD.out]; exact hlt)]
      by_cases e : k = j
      · rw [if_pos e]; exact (HK.out j e.symm).symm
      · rw [if_neg e]; exact HS.out j (by omega)
    · obtain rfl : ds = joinT true zs ys := zd_ext (by rw [joinT_len]; exact hdl) fun i hi => by rw [HS.out i (by omega), zd_joinP (by omega)]
      clear hdl
      go_wp2_with fail
      go_ret
      exact ⟨_, rfl, hB, by omega, rD⟩

def joinErr (c : Int) : Ending := .returned (.tuple #[.slice none 0 0, .int .i64 c])
theorem joinT_take (up : Bool) (a b : List Int) (k : Nat) : (List.range (k + 1)).map (fun i => if up then max (zd a i) (zd b i) else min (zd a i) (zd b i)) = (List.range k).map (fun i => if up then max (zd a i) (zd b i) else min (zd a i) (zd b i)) ++ [pickZ up (zd a k) (zd b k)] := by
  rw [List.range_succ, List.map_append]; rfl
def joinK (up : Bool) (a b : List Int) (k : Nat) : List Int := (List.range k).map fun i => if up then max (zd a i) (zd b i) else min (zd a i) (zd b i)
theorem joinK_succ (up : Bool) (a b : List Int) (k : Nat) : joinK up a b (k + 1) = joinK up a b k ++ [pickZ up (zd a k) (zd b k)] := joinT_take up a b k
theorem joinK_len (up : Bool) (a b : List Int) (k : Nat) : (joinK up a b k).length = k := by unfold joinK; simp
set_option maxRecDepth 100000 in
set_option maxHeartbeats 2000000 in
theorem rtjoin_any (up : Bool) (a : Option Addr) (ca : Nat) (zs : List Int) (b : Option Addr) (cb : Nat) (ys : List Int) (n₀ : Nat) (hl : zs.length = ys.length) (h4 : zs.length ≤ 4) (w : World) (hz : ZInts n₀ w a zs) (hy : ZInts n₀ w b ys) (hn₀ : n₀ ≤ w.heap.size) :
    Calls Try.prog 37 #[.slice a zs.length ca, .slice b ys.length cb, .bool up] w fun e w' => ∃ av cv, e = .returned (.slice av zs.length cv) ∧ Below w.heap.size w w' ∧ w'.ownsRow w.heap.size 3 1 (.slice av zs.length cv) zs.length (zvals (joinT up zs ys)) := by
  obtain ⟨i0, hi, hz0, hz1, hz2⟩ := info_parts info_int
  have HL := hide hl
  clear hl
  go_enter Try.func37, Try.ntmps37
  go_wp2
  go_loopw [7, 8] (fun ls i wr => ∃ (k : Nat) (av : Option Addr) (cv : Nat), k ≤ zs.length ∧ i = .int .i64 k ∧ ls = .slice av k cv ∧ Below w.heap.size w wr ∧ wr.ownsRow w.heap.size 3 1 (.slice av k cv) k (zvals (joinK up zs ys k))) (fun _ i _ => zs.length - (intOf i).toNat)
  case atStart => exact ⟨0, none, 0, Nat.zero_le _, rfl, rfl, Below.refl _ _, World.ownsRow_nil ..⟩
  case round =>
    obtain ⟨k, av, cv, hk, rfl, rfl, hB, hown⟩ := hrel
    by_cases hlt : k < zs.length
    · have hlt2 : k < ys.length := by have := HL.out; omega
      obtain ⟨bz, oz, rfl, hbz, hcz⟩ := (hz.below (hB.mono hn₀)).at hlt
      obtain ⟨bb, oy, rfl, hby, hcy⟩ := (hy.below (hB.mono hn₀)).at hlt2
      have ck := hcz k hlt
      have dk := hcy k hlt2
      have HS := hide (joinK_succ up zs ys k)
      have hbsz := hB.size
      clear hcz hcy
      generalize joinK up zs ys k = S at *
      have key : ∀ v, v = pickZ up (zd zs k) (zd ys k) → S ++ [v] = joinK up zs ys (k + 1) := fun v e => by rw [HS.out, e]
      clear HS
      have HK := hide key
      clear key
      have hp : Hid (∀ x y : Int, (up = true → x < y → pickZ up x y = y) ∧ (up = true → ¬ x < y → pickZ up x y = x) ∧ (up = false → x < y → pickZ up x y = x) ∧ (up = false → ¬ x < y → pickZ up x y = y)) := hide (fun x y => by
        unfold pickZ
        refine ⟨fun h g => ?_, fun h g => ?_, fun h g => ?_, fun h g => ?_⟩ <;> rw [h] <;> simp <;> omega)
      generalize zd zs k = x at *
      generalize zd ys k = y at *
      by_cases hxy : x < y
      · have d1 : decide (x < y) = true := by simp [hxy]
        cases up
        · have HV := hide (HK.out x ((hp.out x y).2.2.1 rfl hxy).symm)
          clear hxy HK hp
          obtain ⟨v, hv⟩ : ∃ v, v = x := ⟨x, rfl⟩
          rw [← hv] at HV
          subst hv
          go_wp2_with (at_builtin; refine wpList_append_own _ rfl _ _ 23 rfl w.heap.size 3 i0 (.int .i64 0) 1 8 Try.underlying23 hi hz0 hz1 hz2 rfl (by decide) _ _ _ rfl (hown.alloc _) ⟨wr.heap.size, 0, none⟩ 1 1 [.int .i64 v] rfl rfl (cell_one_new _ _ _) (fun u hu => by simp at hu; subst hu; rfl) (by unfold maxLen; omega) (by omega) (by simp; omega) ?_; intro v' w3 hown3 hgrow3 _; obtain ⟨g', cap', rfl⟩ := ownsRow_succ hown3)
          have hB3 : Below w.heap.size w w3 := (hB.alloc hbsz (.cells #[.int .i64 v] 3)).grown hgrow3 (by simp; omega) fun q eq => by
            apply Nat.le_of_not_lt; intro hql
            exact ownBlock_ge hown (b := q) hql eq.symm
          refine ⟨⟨k + 1, some ⟨g', 0, none⟩, cap', by omega, by go_num, rfl, hB3, ?_⟩, by simp [intOf]; omega⟩
          rw [← HV.out, zvals_snoc]
          exact hown3
        · have HV := hide (HK.out y ((hp.out x y).1 rfl hxy).symm)
          clear hxy HK hp
          obtain ⟨v, hv⟩ : ∃ v, v = y := ⟨y, rfl⟩
          rw [← hv] at HV
          subst hv
          go_wp2_with (at_builtin; refine wpList_append_own _ rfl _ _ 23 rfl w.heap.size 3 i0 (.int .i64 0) 1 8 Try.underlying23 hi hz0 hz1 hz2 rfl (by decide) _ _ _ rfl (hown.alloc _) ⟨wr.heap.size, 0, none⟩ 1 1 [.int .i64 v] rfl rfl (cell_one_new _ _ _) (fun u hu => by simp at hu; subst hu; rfl) (by unfold maxLen; omega) (by omega) (by simp; omega) ?_; intro v' w3 hown3 hgrow3 _; obtain ⟨g', cap', rfl⟩ := ownsRow_succ hown3)
          have hB3 : Below w.heap.size w w3 := (hB.alloc hbsz (.cells #[.int .i64 v] 3)).grown hgrow3 (by simp; omega) fun q eq => by
            apply Nat.le_of_not_lt; intro hql
            exact ownBlock_ge hown (b := q) hql eq.symm
          refine ⟨⟨k + 1, some ⟨g', 0, none⟩, cap', by omega, by go_num, rfl, hB3, ?_⟩, by simp [intOf]; omega⟩
          rw [← HV.out, zvals_snoc]
          exact hown3
      · have d1 : decide (x < y) = false := by simp [hxy]
        cases up
        · have HV := hide (HK.out y ((hp.out x y).2.2.2 rfl hxy).symm)
          clear hxy HK hp
          obtain ⟨v, hv⟩ : ∃ v, v = y := ⟨y, rfl⟩
          rw [← hv] at HV
          subst hv
          go_wp2_with (at_builtin; refine wpList_append_own _ rfl _ _ 23 rfl w.heap.size 3 i0 (.int .i64 0) 1 8 Try.underlying23 hi hz0 hz1 hz2 rfl (by decide) _ _ _ rfl (hown.alloc _) ⟨wr.heap.size, 0, none⟩ 1 1 [.int .i64 v] rfl rfl (cell_one_new _ _ _) (fun u hu => by simp at hu; subst hu; rfl) (by unfold maxLen; omega) (by omega) (by simp; omega) ?_; intro v' w3 hown3 hgrow3 _; obtain ⟨g', cap', rfl⟩ := ownsRow_succ hown3)
          have hB3 : Below w.heap.size w w3 := (hB.alloc hbsz (.cells #[.int .i64 v] 3)).grown hgrow3 (by simp; omega) fun q eq => by
            apply Nat.le_of_not_lt; intro hql
            exact ownBlock_ge hown (b := q) hql eq.symm
          refine ⟨⟨k + 1, some ⟨g', 0, none⟩, cap', by omega, by go_num, rfl, hB3, ?_⟩, by simp [intOf]; omega⟩
          rw [← HV.out, zvals_snoc]
          exact hown3
        · have HV := hide (HK.out x ((hp.out x y).2.1 rfl hxy).symm)
          clear hxy HK hp
          obtain ⟨v, hv⟩ : ∃ v, v = x := ⟨x, rfl⟩
          rw [← hv] at HV
          subst hv
          go_wp2_with (at_builtin; refine wpList_append_own _ rfl _ _ 23 rfl w.heap.size 3 i0 (.int .i64 0) 1 8 Try.underlying23 hi hz0 hz1 hz2 rfl (by decide) _ _ _ rfl (hown.alloc _) ⟨wr.heap.size, 0, none⟩ 1 1 [.int .i64 v] rfl rfl (cell_one_new _ _ _) (fun u hu => by simp at hu; subst hu; rfl) (by unfold maxLen; omega) (by omega) (by simp; omega) ?_; intro v' w3 hown3 hgrow3 _; obtain ⟨g', cap', rfl⟩ := ownsRow_succ hown3)
          have hB3 : Below w.heap.size w w3 := (hB.alloc hbsz (.cells #[.int .i64 v] 3)).grown hgrow3 (by simp; omega) fun q eq => by
            apply Nat.le_of_not_lt; intro hql
            exact ownBlock_ge hown (b := q) hql eq.symm
          refine ⟨⟨k + 1, some ⟨g', 0, none⟩, cap', by omega, by go_num, rfl, hB3, ?_⟩, by simp [intOf]; omega⟩
          rw [← HV.out, zvals_snoc]
          exact hown3
    · obtain rfl : k = zs.length := by omega
      go_wp2
      go_ret
      exact ⟨av, cv, rfl, hB, hown⟩
end Go.Proofs.Ytdknniomgdjbfaa
