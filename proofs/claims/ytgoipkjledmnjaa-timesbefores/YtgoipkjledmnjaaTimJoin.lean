/- The contracts of package times' together, Join and Meet; and of the document's TimesJoin. -/
import Derived.Test.YtgoipkjledmnjaaTimLess
namespace Go.Proofs.Ytgoipkjledmnjaa
open Go.RowKit Go.Shelf

theorem greater_any (x y : Int) (w : World) : Calls Try.prog 37 #[.int .i64 x, .int .i64 y] w fun e w' => e = .returned (.int .i64 (pickZ true x y)) ∧ w' = w := by
  go_enter Try.func37, Try.ntmps37
  go_wp2
  all_goals
    go_ret
    exact ⟨ret_int (by unfold pickZ; simp; omega), rfl⟩
theorem lesser_any (x y : Int) (w : World) : Calls Try.prog 38 #[.int .i64 x, .int .i64 y] w fun e w' => e = .returned (.int .i64 (pickZ false x y)) ∧ w' = w := by
  go_enter Try.func38, Try.ntmps38
  go_wp2
  all_goals
    go_ret
    exact ⟨ret_int (by unfold pickZ; simp; omega), rfl⟩

set_option maxRecDepth 100000 in
set_option maxHeartbeats 2000000 in
theorem together_any (up : Bool) (F : Nat) (hF : (up = true ∧ F = 37) ∨ (up = false ∧ F = 38)) (a : Option Addr) (ca : Nat) (zs : List Int) (b : Option Addr) (cb : Nat) (ys : List Int) (n₀ : Nat) (hl : zs.length = ys.length) (h4 : zs.length ≤ 4) (w : World) (hz : ZInts n₀ w a zs) (hy : ZInts n₀ w b ys) (hn₀ : n₀ ≤ w.heap.size) :
    Calls Try.prog 36 #[.agg #[.slice a zs.length ca, .slice b ys.length cb], .func (.func F) #[] #[]] w fun e w' => ∃ B, e = .returned (.slice (some ⟨B, 0, none⟩) zs.length zs.length) ∧ Below w.heap.size w w' ∧ w.heap.size ≤ B ∧ Row w' B 3 (zvals (joinT up zs ys)) := by
  have hmk := run_make_row' (P := Try.prog) 22 3 (.int .i64 0) 8 Try.underlying22 info_int rfl .i64 .i64 zs.length (by omega) (by omega)
  obtain ⟨r0, hb0, hs0⟩ := one_row w 44 (.slice a zs.length ca) (.slice b ys.length cb) rfl
  have c0 := r0.cell (i := 0) rfl
  have c1 := r0.cell (i := 1) rfl
  have HL := hide hl
  have lt0 := r0.lt
  clear hl
  go_enter Try.func36, Try.ntmps36
  go_wp2_with fail
  have hk1 := Row.new (w.alloc (.cells #[.slice a zs.length ca, .slice b ys.length cb] 44)) 3 (zvals (List.replicate zs.length 0))
  rw [← zvals_replicate] at hk1
  have hk2 : Below w.heap.size w ((w.alloc (.cells #[.slice a zs.length ca, .slice b ys.length cb] 44)).alloc (.cells (madeCells #[Value.int .i64 0] zs.length) 3)) := hb0.alloc (by omega) _
  have hk3 := row_below r0 ((Below.refl _ _).alloc (Nat.le_refl _) (.cells (madeCells #[Value.int .i64 0] zs.length) 3)) lt0
  rw [hs0] at hk1
  clear hmk c0 c1 r0
  go_loopw [15] (fun i wr => ∃ (k : Nat) (ds : List Int), k ≤ zs.length ∧ i = .int .i64 k ∧ ds.length = zs.length ∧ Hid (∀ j, j < k → zd ds j = pickZ up (zd zs j) (zd ys j)) ∧ Row wr (w.heap.size + 1) 3 (zvals ds) ∧ Row wr w.heap.size 44 [.slice a zs.length ca, .slice b ys.length cb] ∧ Below w.heap.size w wr) (fun i _ => zs.length - (intOf i).toNat)
  case atStart => exact ⟨0, _, Nat.zero_le _, rfl, by simp, hide fun j h => by omega, hk1, hk3, hk2⟩
  case round =>
    obtain ⟨k, ds, hk, rfl, hdl, HS, rD, rP, hB⟩ := hrel
    clear hk1 hk2 hk3
    by_cases hlt : k < zs.length
    · have hlt2 : k < ys.length := by have := HL.out; omega
      obtain ⟨bz, oz, rfl, hbz, hcz⟩ := (hz.below (hB.mono hn₀)).at hlt
      obtain ⟨bb, oy, rfl, hby, hcy⟩ := (hy.below (hB.mono hn₀)).at hlt2
      have ck := hcz k hlt
      have dk := hcy k hlt2
      have p1 := rP.cell (i := 1) rfl
      have cK := rD.cell (zvals_at (l := ds) (i := k) (by omega))
      have fK := rD.frozen k
      have hcall : ∀ W, Calls Try.prog F #[.int .i64 (zd zs k), .int .i64 (zd ys k)] W fun e w' => e = .returned (.int .i64 (pickZ up (zd zs k) (zd ys k))) ∧ w' = W := fun W => by
        rcases hF with ⟨rfl, rfl⟩ | ⟨rfl, rfl⟩
        · exact greater_any _ _ W
        · exact lesser_any _ _ W
      have HD := hide hdl
      clear hcz hcy hdl
      have HK := hide (show ∀ j, j = k → pickZ up (zd zs j) (zd ys j) = pickZ up (zd zs k) (zd ys k) from fun j e => by rw [e])
      generalize pickZ up (zd zs k) (zd ys k) = v at *
      rcases hF with ⟨h1, rfl⟩ | ⟨h1, rfl⟩
      all_goals
        go_wp2_with ((refine (hcall _).mono ?_; rintro e w' ⟨rfl, rfl⟩))
        refine ⟨⟨k + 1, ds.set k v, by omega, by go_num, by rw [List.length_set]; exact HD.out, hide fun j hj => ?_, by rw [← zvals_set]; exact rD.set k _, rP.below (n := w.heap.size + 1) ((Below.refl _ _).setCell (p := ⟨w.heap.size + 1, k, none⟩) (Nat.le_refl _) _) (by omega), hB.setCell (p := ⟨w.heap.size + 1, k, none⟩) (by simp) _⟩, by simp [intOf]; omega⟩
        rw [zd_set (by rw [HD.out]; exact hlt)]
        by_cases e : k = j
        · rw [if_pos e]; exact (HK.out j e.symm).symm
        · rw [if_neg e]; exact HS.out j (by omega)
    · obtain rfl : ds = joinT up zs ys := zd_ext (by rw [joinT_len]; exact hdl) fun i hi => by rw [HS.out i (by omega), zd_joinP (by omega)]
      clear hdl
      go_wp2_with fail
      go_ret
      exact ⟨_, rfl, hB, by omega, rD⟩

set_option maxRecDepth 100000 in
set_option maxHeartbeats 2000000 in
theorem togetherG_any (a : Option Addr) (ca : Nat) (zs : List Int) (b : Option Addr) (cb : Nat) (ys : List Int) (n₀ : Nat) (hl : zs.length = ys.length) (h4 : zs.length ≤ 4) (w : World) (hz : ZInts n₀ w a zs) (hy : ZInts n₀ w b ys) (hn₀ : n₀ ≤ w.heap.size) :
    Calls Try.prog 36 #[.agg #[.slice a zs.length ca, .slice b ys.length cb], .func (.func 37) #[] #[]] w fun e w' => ∃ B, e = .returned (.slice (some ⟨B, 0, none⟩) zs.length zs.length) ∧ Below w.heap.size w w' ∧ w.heap.size ≤ B ∧ Row w' B 3 (zvals (joinT true zs ys)) := by
  have hmk := run_make_row' (P := Try.prog) 22 3 (.int .i64 0) 8 Try.underlying22 info_int rfl .i64 .i64 zs.length (by omega) (by omega)
  obtain ⟨r0, hb0, hs0⟩ := one_row w 44 (.slice a zs.length ca) (.slice b ys.length cb) rfl
  have c0 := r0.cell (i := 0) rfl
  have c1 := r0.cell (i := 1) rfl
  have HL := hide hl
  have lt0 := r0.lt
  clear hl
  go_enter Try.func36, Try.ntmps36
  go_wp2_with fail
  have hk1 := Row.new (w.alloc (.cells #[.slice a zs.length ca, .slice b ys.length cb] 44)) 3 (zvals (List.replicate zs.length 0))
  rw [← zvals_replicate] at hk1
  have hk2 : Below w.heap.size w ((w.alloc (.cells #[.slice a zs.length ca, .slice b ys.length cb] 44)).alloc (.cells (madeCells #[Value.int .i64 0] zs.length) 3)) := hb0.alloc (by omega) _
  have hk3 := row_below r0 ((Below.refl _ _).alloc (Nat.le_refl _) (.cells (madeCells #[Value.int .i64 0] zs.length) 3)) lt0
  rw [hs0] at hk1
  clear hmk c0 c1 r0
  go_loopw [15] (fun i wr => ∃ (k : Nat) (ds : List Int), k ≤ zs.length ∧ i = .int .i64 k ∧ ds.length = zs.length ∧ Hid (∀ j, j < k → zd ds j = pickZ true (zd zs j) (zd ys j)) ∧ Row wr (w.heap.size + 1) 3 (zvals ds) ∧ Row wr w.heap.size 44 [.slice a zs.length ca, .slice b ys.length cb] ∧ Below w.heap.size w wr) (fun i _ => zs.length - (intOf i).toNat)
  case atStart => exact ⟨0, _, Nat.zero_le _, rfl, by simp, hide fun j h => by omega, hk1, hk3, hk2⟩
  case round =>
    obtain ⟨k, ds, hk, rfl, hdl, HS, rD, rP, hB⟩ := hrel
    clear hk1 hk2 hk3
    by_cases hlt : k < zs.length
    · have hlt2 : k < ys.length := by have := HL.out; omega
      obtain ⟨bz, oz, rfl, hbz, hcz⟩ := (hz.below (hB.mono hn₀)).at hlt
      obtain ⟨bb, oy, rfl, hby, hcy⟩ := (hy.below (hB.mono hn₀)).at hlt2
      have ck := hcz k hlt
      have dk := hcy k hlt2
      have p1 := rP.cell (i := 1) rfl
      have cK := rD.cell (zvals_at (l := ds) (i := k) (by omega))
      have fK := rD.frozen k
      have hcall : ∀ W, Calls Try.prog 37 #[.int .i64 (zd zs k), .int .i64 (zd ys k)] W fun e w' => e = .returned (.int .i64 (pickZ true (zd zs k) (zd ys k))) ∧ w' = W := fun W => by
        exact greater_any _ _ W
      have HD := hide hdl
      clear hcz hcy hdl
      have HK := hide (show ∀ j, j = k → pickZ true (zd zs j) (zd ys j) = pickZ true (zd zs k) (zd ys k) from fun j e => by rw [e])
      generalize pickZ true (zd zs k) (zd ys k) = v at *
      go_wp2_with ((refine (hcall _).mono ?_; rintro e w' ⟨rfl, rfl⟩))
      refine ⟨⟨k + 1, ds.set k v, by omega, by go_num, by rw [List.length_set]; exact HD.out, hide fun j hj => ?_, by rw [← zvals_set]; exact rD.set k _, rP.below (n := w.heap.size + 1) ((Below.refl _ _).setCell (p := ⟨w.heap.size + 1, k, none⟩) (Nat.le_refl _) _) (by omega), hB.setCell (p := ⟨w.heap.size + 1, k, none⟩) (by simp) _⟩, by simp [intOf]; omega⟩
      rw [zd_set (by rw [HD.out]; exact hlt)]
      by_cases e : k = j
      · rw [if_pos e]; exact (HK.out j e.symm).symm
      · rw [if_neg e]; exact HS.out j (by omega)
    · obtain rfl : ds = joinT true zs ys := zd_ext (by rw [joinT_len]; exact hdl) fun i hi => by rw [HS.out i (by omega), zd_joinP (by omega)]
      clear hdl
      go_wp2_with fail
      go_ret
      exact ⟨_, rfl, hB, by omega, rD⟩

def joinErr (c : Int) : Ending := .returned (.tuple #[.slice none 0 0, .int .i64 c])
set_option maxRecDepth 100000 in
set_option maxHeartbeats 1000000 in
theorem Join_any (a : Option Addr) (ca : Nat) (zs : List Int) (b : Option Addr) (cb : Nat) (ys : List Int) (n₀ : Nat) (h63 : zs.length ≤ 9223372036854775807) (h64 : ys.length ≤ 9223372036854775807) (w : World) (hz : ZInts n₀ w a zs) (hy : ZInts n₀ w b ys) (hn₀ : n₀ ≤ w.heap.size) :
    Calls Try.prog 9 #[.slice a zs.length ca, .slice b ys.length cb] w fun e w' => Below w.heap.size w w' ∧ ((codeP zs ys ≠ 0 ∧ e = joinErr (codeP zs ys)) ∨ (codeP zs ys = 0 ∧ ∃ B, e = .returned (.tuple #[.slice (some ⟨B, 0, none⟩) zs.length zs.length, .int .i64 0]) ∧ w.heap.size ≤ B ∧ Row w' B 3 (zvals (joinT true zs ys)))) := by
  obtain ⟨r0, hb0, hs0⟩ := one_row w 44 (.slice a zs.length ca) (.slice b ys.length cb) rfl
  have lt0 := r0.lt
  have hp := tpair_any a ca zs b cb ys n₀ h63 h64 _ (hz.below (hb0.mono hn₀)) (hy.below (hb0.mono hn₀)) (by omega)
  unfold joinErr
  by_cases hc : codeP zs ys = 0
  · obtain ⟨h1, _, hl⟩ := codeP_zero hc
    have l4 := (codeT_zero h1).2.1
    have ht : ∀ W, Below w.heap.size w W → _ := fun W hW => together_any true 37 (.inl ⟨rfl, rfl⟩) a ca zs b cb ys n₀ hl l4 W (hz.below (hW.mono hn₀)) (hy.below (hW.mono hn₀)) (by have := hW.size; omega)
    rw [hc] at hp ⊢
    clear hl h1 hc
    go_enter Try.func9, Try.ntmps9
    go_wp2_with fail
    with_reducible refine hp.mono ?_
    rintro e w1 ⟨rfl, hb1⟩
    have q0 := row_below r0 hb1 lt0
    have c0 := q0.cell (i := 0) rfl
    have c1 := q0.cell (i := 1) rfl
    have hB1 : Below w.heap.size w w1 := hb0.trans (hb1.mono (by omega))
    have hs1 := hB1.size
    have ht1 := ht w1 hB1
    clear hp ht
    go_wp2_with fail
    with_reducible refine ht1.mono ?_
    rintro e w2 ⟨B, rfl, hb2, hge, rB⟩
    go_wp2_with fail
    go_ret2
    exact ⟨hB1.trans (hb2.mono hs1), .inr ⟨trivial, B, rfl, by omega, rB⟩⟩
  · have HC := hide hc
    have e1 : (codeP zs ys != 0) = true := by rw [bne_iff_ne]; exact hc
    clear hc
    generalize codeP zs ys = c at *
    go_enter Try.func9, Try.ntmps9
    go_wp2_with fail
    with_reducible refine hp.mono ?_
    rintro e w1 ⟨rfl, hb1⟩
    have hB1 : Below w.heap.size w w1 := hb0.trans (hb1.mono (by omega))
    go_wp2_with fail
    go_ret2
    exact ⟨hB1, .inl ⟨HC.out, rfl⟩⟩

set_option maxRecDepth 100000 in
set_option maxHeartbeats 1000000 in
theorem Meet_any (a : Option Addr) (ca : Nat) (zs : List Int) (b : Option Addr) (cb : Nat) (ys : List Int) (n₀ : Nat) (h63 : zs.length ≤ 9223372036854775807) (h64 : ys.length ≤ 9223372036854775807) (w : World) (hz : ZInts n₀ w a zs) (hy : ZInts n₀ w b ys) (hn₀ : n₀ ≤ w.heap.size) :
    Calls Try.prog 10 #[.slice a zs.length ca, .slice b ys.length cb] w fun e w' => Below w.heap.size w w' ∧ ((codeP zs ys ≠ 0 ∧ e = joinErr (codeP zs ys)) ∨ (codeP zs ys = 0 ∧ ∃ B, e = .returned (.tuple #[.slice (some ⟨B, 0, none⟩) zs.length zs.length, .int .i64 0]) ∧ w.heap.size ≤ B ∧ Row w' B 3 (zvals (joinT false zs ys)))) := by
  obtain ⟨r0, hb0, hs0⟩ := one_row w 44 (.slice a zs.length ca) (.slice b ys.length cb) rfl
  have lt0 := r0.lt
  have hp := tpair_any a ca zs b cb ys n₀ h63 h64 _ (hz.below (hb0.mono hn₀)) (hy.below (hb0.mono hn₀)) (by omega)
  unfold joinErr
  by_cases hc : codeP zs ys = 0
  · obtain ⟨h1, _, hl⟩ := codeP_zero hc
    have l4 := (codeT_zero h1).2.1
    have ht : ∀ W, Below w.heap.size w W → _ := fun W hW => together_any false 38 (.inr ⟨rfl, rfl⟩) a ca zs b cb ys n₀ hl l4 W (hz.below (hW.mono hn₀)) (hy.below (hW.mono hn₀)) (by have := hW.size; omega)
    rw [hc] at hp ⊢
    clear hl h1 hc
    go_enter Try.func10, Try.ntmps10
    go_wp2_with fail
    with_reducible refine hp.mono ?_
    rintro e w1 ⟨rfl, hb1⟩
    have q0 := row_below r0 hb1 lt0
    have c0 := q0.cell (i := 0) rfl
    have c1 := q0.cell (i := 1) rfl
    have hB1 : Below w.heap.size w w1 := hb0.trans (hb1.mono (by omega))
    have hs1 := hB1.size
    have ht1 := ht w1 hB1
    clear hp ht
    go_wp2_with fail
    with_reducible refine ht1.mono ?_
    rintro e w2 ⟨B, rfl, hb2, hge, rB⟩
    go_wp2_with fail
    go_ret2
    exact ⟨hB1.trans (hb2.mono hs1), .inr ⟨trivial, B, rfl, by omega, rB⟩⟩
  · have HC := hide hc
    have e1 : (codeP zs ys != 0) = true := by rw [bne_iff_ne]; exact hc
    clear hc
    generalize codeP zs ys = c at *
    go_enter Try.func10, Try.ntmps10
    go_wp2_with fail
    with_reducible refine hp.mono ?_
    rintro e w1 ⟨rfl, hb1⟩
    have hB1 : Below w.heap.size w w1 := hb0.trans (hb1.mono (by omega))
    go_wp2_with fail
    go_ret2
    exact ⟨hB1, .inl ⟨HC.out, rfl⟩⟩

theorem joinT_take (up : Bool) (a b : List Int) (k : Nat) : (List.range (k + 1)).map (fun i => if up then max (zd a i) (zd b i) else min (zd a i) (zd b i)) = (List.range k).map (fun i => if up then max (zd a i) (zd b i) else min (zd a i) (zd b i)) ++ [pickZ up (zd a k) (zd b k)] := by
  rw [List.range_succ, List.map_append]; rfl
def joinK (up : Bool) (a b : List Int) (k : Nat) : List Int := (List.range k).map fun i => if up then max (zd a i) (zd b i) else min (zd a i) (zd b i)
theorem joinK_succ (up : Bool) (a b : List Int) (k : Nat) : joinK up a b (k + 1) = joinK up a b k ++ [pickZ up (zd a k) (zd b k)] := joinT_take up a b k
theorem joinK_len (up : Bool) (a b : List Int) (k : Nat) : (joinK up a b k).length = k := by unfold joinK; simp
set_option maxRecDepth 100000 in
set_option maxHeartbeats 2000000 in
theorem rtjoin_any (up : Bool) (a : Option Addr) (ca : Nat) (zs : List Int) (b : Option Addr) (cb : Nat) (ys : List Int) (n₀ : Nat) (hl : zs.length = ys.length) (h4 : zs.length ≤ 4) (w : World) (hz : ZInts n₀ w a zs) (hy : ZInts n₀ w b ys) (hn₀ : n₀ ≤ w.heap.size) :
    Calls Try.prog 19 #[.slice a zs.length ca, .slice b ys.length cb, .bool up] w fun e w' => ∃ av cv, e = .returned (.slice av zs.length cv) ∧ Below w.heap.size w w' ∧ w'.ownsRow w.heap.size 3 1 (.slice av zs.length cv) zs.length (zvals (joinT up zs ys)) := by
  obtain ⟨i0, hi, hz0, hz1, hz2⟩ := info_parts info_int
  have HL := hide hl
  clear hl
  go_enter Try.func19, Try.ntmps19
  go_wp2
  go_loopw [7, 8] (fun ls i wr => ∃ (k : Nat) (av : Option Addr) (cv : Nat), k ≤ zs.length ∧ i = .int .i64 k ∧ ls = .slice av k cv ∧ Below w.heap.size w wr ∧ wr.ownsRow w.heap.size 3 1 (.slice av k cv) k (zvals (joinK up zs ys k))) (fun _ i _ => zs.length - (intOf i).toNat)
  case atStart => exact ⟨0, none, 0, Nat.zero_le _, rfl, rfl, Below.refl _ _, World.ownsRow_nil ..⟩
  case round =>
    obtain ⟨k, av, cv, hk, rfl, rfl, hB, hown⟩ := hrel
    by_cases hlt : k < zs.length
    · have hlt2 : k < ys.length := by have := HL.out; omega
      obtain ⟨bz, oz, rfl, hbz, hcz⟩ := (hz.below (hB.mono hn₀)).at hlt
      obtain ⟨bb, oy, rfl, hby, hcy⟩ := (hy.below (hB.mono hn₀)).at hlt2
      have ck := hcz k hlt
      have dk := hcy k hlt2
      have HS := hide (joinK_succ up zs ys k)
      have hbsz := hB.size
      clear hcz hcy
      generalize joinK up zs ys k = S at *
      have key : ∀ v, v = pickZ up (zd zs k) (zd ys k) → S ++ [v] = joinK up zs ys (k + 1) := fun v e => by rw [HS.out, e]
      clear HS
      have HK := hide key
      clear key
      have hp : Hid (∀ x y : Int, (up = true → x < y → pickZ up x y = y) ∧ (up = true → ¬ x < y → pickZ up x y = x) ∧ (up = false → x < y → pickZ up x y = x) ∧ (up = false → ¬ x < y → pickZ up x y = y)) := hide (fun x y => by
        unfold pickZ
        refine ⟨fun h g => ?_, fun h g => ?_, fun h g => ?_, fun h g => ?_⟩ <;> rw [h] <;> simp <;> omega)
      generalize zd zs k = x at *
      generalize zd ys k = y at *
      by_cases hxy : x < y
      · have d1 : decide (x < y) = true := by simp [hxy]
        cases up
        · have HV := hide (HK.out x ((hp.out x y).2.2.1 rfl hxy).symm)
          clear hxy HK hp
          obtain ⟨v, hv⟩ : ∃ v, v = x := ⟨x, rfl⟩
          rw [← hv] at HV
          subst hv
          go_wp2_with (at_builtin; refine wpList_append_own _ rfl _ _ 22 rfl w.heap.size 3 i0 (.int .i64 0) 1 8 Try.underlying22 hi hz0 hz1 hz2 rfl (by decide) _ _ _ rfl (hown.alloc _) ⟨wr.heap.size, 0, none⟩ 1 1 [.int .i64 v] rfl rfl (cell_one_new _ _ _) (fun u hu => by simp at hu; subst hu; rfl) (by unfold maxLen; omega) (by omega) (by simp; omega) ?_; intro v' w3 hown3 hgrow3 _; obtain ⟨g', cap', rfl⟩ := ownsRow_succ hown3)
          have hB3 : Below w.heap.size w w3 := (hB.alloc hbsz (.cells #[.int .i64 v] 3)).grown hgrow3 (by simp; omega) fun q eq => by
            apply Nat.le_of_not_lt; intro hql
            exact ownBlock_ge hown (b := q) hql eq.symm
          refine ⟨⟨k + 1, some ⟨g', 0, none⟩, cap', by omega, by go_num, rfl, hB3, ?_⟩, by simp [intOf]; omega⟩
          rw [← HV.out, zvals_snoc]
          exact hown3
        · have HV := hide (HK.out y ((hp.out x y).1 rfl hxy).symm)
          clear hxy HK hp
          obtain ⟨v, hv⟩ : ∃ v, v = y := ⟨y, rfl⟩
          rw [← hv] at HV
          subst hv
          go_wp2_with (at_builtin; refine wpList_append_own _ rfl _ _ 22 rfl w.heap.size 3 i0 (.int .i64 0) 1 8 Try.underlying22 hi hz0 hz1 hz2 rfl (by decide) _ _ _ rfl (hown.alloc _) ⟨wr.heap.size, 0, none⟩ 1 1 [.int .i64 v] rfl rfl (cell_one_new _ _ _) (fun u hu => by simp at hu; subst hu; rfl) (by unfold maxLen; omega) (by omega) (by simp; omega) ?_; intro v' w3 hown3 hgrow3 _; obtain ⟨g', cap', rfl⟩ := ownsRow_succ hown3)
          have hB3 : Below w.heap.size w w3 := (hB.alloc hbsz (.cells #[.int .i64 v] 3)).grown hgrow3 (by simp; omega) fun q eq => by
            apply Nat.le_of_not_lt; intro hql
            exact ownBlock_ge hown (b := q) hql eq.symm
          refine ⟨⟨k + 1, some ⟨g', 0, none⟩, cap', by omega, by go_num, rfl, hB3, ?_⟩, by simp [intOf]; omega⟩
          rw [← HV.out, zvals_snoc]
          exact hown3
      · have d1 : decide (x < y) = false := by simp [hxy]
        cases up
        · have HV := hide (HK.out y ((hp.out x y).2.2.2 rfl hxy).symm)
          clear hxy HK hp
          obtain ⟨v, hv⟩ : ∃ v, v = y := ⟨y, rfl⟩
          rw [← hv] at HV
          subst hv
          go_wp2_with (at_builtin; refine wpList_append_own _ rfl _ _ 22 rfl w.heap.size 3 i0 (.int .i64 0) 1 8 Try.underlying22 hi hz0 hz1 hz2 rfl (by decide) _ _ _ rfl (hown.alloc _) ⟨wr.heap.size, 0, none⟩ 1 1 [.int .i64 v] rfl rfl (cell_one_new _ _ _) (fun u hu => by simp at hu; subst hu; rfl) (by unfold maxLen; omega) (by omega) (by simp; omega) ?_; intro v' w3 hown3 hgrow3 _; obtain ⟨g', cap', rfl⟩ := ownsRow_succ hown3)
          have hB3 : Below w.heap.size w w3 := (hB.alloc hbsz (.cells #[.int .i64 v] 3)).grown hgrow3 (by simp; omega) fun q eq => by
            apply Nat.le_of_not_lt; intro hql
            exact ownBlock_ge hown (b := q) hql eq.symm
          refine ⟨⟨k + 1, some ⟨g', 0, none⟩, cap', by omega, by go_num, rfl, hB3, ?_⟩, by simp [intOf]; omega⟩
          rw [← HV.out, zvals_snoc]
          exact hown3
        · have HV := hide (HK.out x ((hp.out x y).2.1 rfl hxy).symm)
          clear hxy HK hp
          obtain ⟨v, hv⟩ : ∃ v, v = x := ⟨x, rfl⟩
          rw [← hv] at HV
          subst hv
          go_wp2_with (at_builtin; refine wpList_append_own _ rfl _ _ 22 rfl w.heap.size 3 i0 (.int .i64 0) 1 8 Try.underlying22 hi hz0 hz1 hz2 rfl (by decide) _ _ _ rfl (hown.alloc _) ⟨wr.heap.size, 0, none⟩ 1 1 [.int .i64 v] rfl rfl (cell_one_new _ _ _) (fun u hu => by simp at hu; subst hu; rfl) (by unfold maxLen; omega) (by omega) (by simp; omega) ?_; intro v' w3 hown3 hgrow3 _; obtain ⟨g', cap', rfl⟩ := ownsRow_succ hown3)
          have hB3 : Below w.heap.size w w3 := (hB.alloc hbsz (.cells #[.int .i64 v] 3)).grown hgrow3 (by simp; omega) fun q eq => by
            apply Nat.le_of_not_lt; intro hql
            exact ownBlock_ge hown (b := q) hql eq.symm
          refine ⟨⟨k + 1, some ⟨g', 0, none⟩, cap', by omega, by go_num, rfl, hB3, ?_⟩, by simp [intOf]; omega⟩
          rw [← HV.out, zvals_snoc]
          exact hown3
    · obtain rfl : k = zs.length := by omega
      go_wp2
      go_ret
      exact ⟨av, cv, rfl, hB, hown⟩
end Go.Proofs.Ytgoipkjledmnjaa
