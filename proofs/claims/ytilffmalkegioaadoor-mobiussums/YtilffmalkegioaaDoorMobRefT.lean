/- The document's MobiusTimes and MobiusSums. -/
import Derived.Test.YtilffmalkegioaaDoorMobRefZ
namespace Go.Proofs.YtilffmalkegioaaDoor
open Go.RowKit Go.Shelf

/-- what is added at x -/
def tmAt (us : List Nat) (F G : Mat) (a b x : Nat) : B64 := if hasB (wd us a) x && hasB (wd us x) b then F a x * G x b else 0
def tmM (us : List Nat) (F G : Mat) : Mat := fun a b => sm us.length (tmAt us F G a b)
theorem tm_is {us : List Nat} {F G : Mat} (hF : Tab us F) (hG : Tab us G) : EqN us.length (tmM us F G) (mm us.length F G) := fun a ha b hb => sm_congr fun x hx => by
  unfold tmAt
  cases h1 : hasB (wd us a) x with
  | false => rw [hF a ha x hx (by unfold leW; rw [h1]; simp)]; simp
  | true =>
    cases h2 : hasB (wd us x) b with
    | false => rw [hG x hx b hb (by unfold leW; rw [h2]; simp)]; simp
    | true => simp

set_option maxRecDepth 100000 in
set_option maxHeartbeats 8000000 in
theorem RTimes_any (n : Nat) (a : Option Addr) (cap : Nat) (us : List Nat) (af : Option Addr) (cf : Nat) (F : List B64) (ag : Option Addr) (cg : Nat) (G : List B64) (n₀ : Nat) (hn : n = us.length) (hf : Fit us) (hl : n ≤ 16) (hlF : F.length = n * n) (hlG : G.length = n * n) (w : World) (hw : IsWords n₀ w a us) (hvF : ZInts n₀ w af (tiL F)) (hvG : ZInts n₀ w ag (tiL G)) (hn₀ : n₀ ≤ w.heap.size) :
    Calls Tryd.prog 22 #[.agg #[.int .i64 n, .slice a n cap], .slice af (n * n) cf, .slice ag (n * n) cg] w fun e w' => ∃ av cv, e = .returned (.slice av (n * n) cv) ∧ Below w.heap.size w w' ∧ w'.ownsRow w.heap.size 2 1 (.slice av (n * n) cv) (n * n) (bvals (tabL n (tmM us (mat n F) (mat n G)))) := by
  have h2 : n * n ≤ 256 := Nat.mul_le_mul hl hl
  obtain ⟨i0, hi, hz0, hz1, hz2⟩ := info_parts info_i64
  have hbel := fun i (hi : i < n) j (hj : j < n) (W : World) (hW : IsWords n₀ W a us) (hs : n₀ ≤ W.heap.size) => Below_any n a cap us i j n₀ hf (by omega) (by omega) W hW hs
  rw [← hn] at hbel
  have hTM : ∀ k m, tmM us (mat n F) (mat n G) k m = sm n (tmAt us (mat n F) (mat n G) k m) := fun k m => by unfold tmM; rw [← hn]
  clear hn
  have hrows : ∀ y, y < n → y * n + n ≤ n * n := fun y hy => by
    have := Nat.mul_le_mul_right n (show y + 1 ≤ n from hy)
    rwa [Nat.succ_mul] at this
  generalize tmM us (mat n F) (mat n G) = TM at *
  go_enter Tryd.func22, Tryd.ntmps22
  go_wp2_with fail
  obtain ⟨W0, hW0⟩ : ∃ W0, w.alloc (.cells #[.int .i64 n, .slice a n cap] 24) = W0 := ⟨_, rfl⟩
  obtain ⟨r0, hb0, hs0⟩ := one_row w 24 (.int .i64 n) (.slice a n cap) hW0
  rw [hW0]
  have hw0 := hw.below (hb0.mono hn₀)
  have hF0 := hvF.below (hb0.mono hn₀)
  have hG0 := hvG.below (hb0.mono hn₀)
  have hn1 : n₀ ≤ W0.heap.size := by omega
  clear hW0 hw hvF hvG
  go_loopw [8, 7] (fun i ls wr => ∃ (k : Nat) (av : Option Addr) (cv : Nat), k ≤ n ∧ i = .int .i64 k ∧ ls = .slice av (k * n) cv ∧ Below W0.heap.size W0 wr ∧ wr.ownsRow W0.heap.size 2 1 (.slice av (k * n) cv) (k * n) (bvals (preL n TM k 0))) (fun i _ _ => n - (intOf i).toNat)
  case atStart => exact ⟨0, none, 0, Nat.zero_le _, rfl, by rw [Nat.zero_mul], Below.refl _ _, by rw [preL_zero, Nat.zero_mul]; exact World.ownsRow_nil ..⟩
  case round =>
    obtain ⟨k, av, cv, hk, rfl, rfl, hB, hown⟩ := hrel
    have q0 := row_below r0 hB r0.lt
    have c0 := q0.cell (i := 0) rfl
    have c1 := q0.cell (i := 1) rfl
    by_cases hlt : k < n
    · go_wp2_with fail
      go_loopw [9, 7] (fun j ls wr => ∃ (m : Nat) (av : Option Addr) (cv : Nat), m ≤ n ∧ j = .int .i64 m ∧ ls = .slice av (k * n + m) cv ∧ Below W0.heap.size W0 wr ∧ wr.ownsRow W0.heap.size 2 1 (.slice av (k * n + m) cv) (k * n + m) (bvals (preL n TM k m))) (fun j _ _ => n - (intOf j).toNat)
      case atStart => exact ⟨0, av, cv, Nat.zero_le _, rfl, rfl, hB, hown⟩
      case round =>
        clear hB hown q0 c0 c1
        obtain ⟨m, av, cv, hm, rfl, rfl, hB, hown⟩ := hrel
        have q0 := row_below r0 hB r0.lt
        have c0 := q0.cell (i := 0) rfl
        have c1 := q0.cell (i := 1) rfl
        by_cases hmt : m < n
        · have hpl := plc_lt hlt hmt
          have HS := hide (preL_snoc TM k hmt)
          rw [hTM] at HS
          generalize preL n TM k m = L0 at *
          go_wp2_with fail
          clear c0 c1
          go_loopw [11, 10] (fun i s wr => ∃ (x : Nat), x ≤ n ∧ i = .int .i64 x ∧ s = .int .i64 (sm x (tmAt us (mat n F) (mat n G) k m)).toInt ∧ Below W0.heap.size W0 wr ∧ wr.ownsRow W0.heap.size 2 1 (.slice av (k * n + m) cv) (k * n + m) (bvals L0)) (fun i _ _ => n - (intOf i).toNat)
          case atStart => exact ⟨0, Nat.zero_le _, rfl, rfl, hB, hown⟩
          case round =>
            clear hB hown q0
            obtain ⟨x, hx, rfl, rfl, hB, hown⟩ := hrel
            have hBs := hB.size
            have q0 := row_below r0 hB r0.lt
            have c0 := q0.cell (i := 0) rfl
            have c1 := q0.cell (i := 1) rfl
            by_cases hxt : x < n
            · have hc1 := hbel k hlt x hxt wr (hw0.below (hB.mono hn1)) (by omega)
              have HX : sm (x + 1) (tmAt us (mat n F) (mat n G) k m) = sm x (tmAt us (mat n F) (mat n G) k m) + tmAt us (mat n F) (mat n G) k m x := rfl
              have HX := hide HX
              have hT : tmAt us (mat n F) (mat n G) k m x = if hasB (wd us k) x && hasB (wd us x) m then bd F (k * n + x) * bd G (x * n + m) else 0 := rfl
              generalize sm x (tmAt us (mat n F) (mat n G) k m) = S0 at *
              generalize tmAt us (mat n F) (mat n G) k m x = tv at *
              have hrk := hrows k hlt
              have hrx := hrows x hxt
              cases h1 : hasB (wd us k) x with
              | false =>
                rw [h1] at hT hc1
                have hT := hide hT
                clear h1
                go_wp2_with fail
                refine hc1.mono ?_
                rintro e w2 ⟨rfl, hb2⟩
                clear c0 c1 q0
                go_wp2_with fail
                refine ⟨⟨x + 1, by omega, by go_num, ?_, hB.trans (hb2.mono hBs), ownsRow_below hown hb2⟩, by simp [intOf]; omega⟩
                rw [HX.out, hT.out]; simp
              | true =>
                have hc2 := fun W (hb : Below W0.heap.size W0 W) => hbel x hxt m hmt W (hw0.below (hb.mono hn1)) (by have := hb.size; omega)
                cases h2' : hasB (wd us x) m with
                | false =>
                  rw [h1, h2'] at hT
                  rw [h1] at hc1
                  rw [h2'] at hc2
                  have hT := hide hT
                  clear h1 h2'
                  go_wp2_with fail
                  refine hc1.mono ?_
                  rintro e w2 ⟨rfl, hb2⟩
                  have hB2 := hB.trans (hb2.mono hBs)
                  have q2 := row_below q0 hb2 q0.lt
                  clear c0 c1
                  have c0 := q2.cell (i := 0) rfl
                  have c1 := q2.cell (i := 1) rfl
                  go_wp2_with fail
                  refine (hc2 _ hB2).mono ?_
                  rintro e w3 ⟨rfl, hb3⟩
                  clear c0 c1 q0 q2 hc1 hc2
                  go_wp2_with fail
                  refine ⟨⟨x + 1, by omega, by go_num, ?_, hB2.trans (hb3.mono hB2.size), ownsRow_below (ownsRow_below hown hb2) hb3⟩, by simp [intOf]; omega⟩
                  rw [HX.out, hT.out]; simp
                | true =>
                  rw [h1, h2'] at hT
                  rw [h1] at hc1
                  rw [h2'] at hc2
                  have hT : tv = bd F (k * n + x) * bd G (x * n + m) := hT
                  have hpk := plc_lt hlt hxt
                  have hpx := plc_lt hxt hmt
                  obtain ⟨fb, fo, rfl, hfb, hfc⟩ := hF0.cellsB (i := k * n + x) (by omega)
                  obtain ⟨gb, go, rfl, hgb, hgc⟩ := hG0.cellsB (i := x * n + m) (by omega)
                  have kf := hfc (k * n + x) (by omega)
                  have kg := hgc (x * n + m) (by omega)
                  have hmul := wrap_mul (bd F (k * n + x)) (bd G (x * n + m))
                  have hadd := wrap_add S0 tv
                  have HT := hide (show sm (x + 1) (tmAt us (mat n F) (mat n G) k m) = S0 + tv from HX.out)
                  clear HX
                  rw [← hT] at hmul
                  generalize S0 + tv = s1 at *
                  generalize tv.toInt = tvi at *
                  generalize (bd F (k * n + x)).toInt = fv at *
                  generalize (bd G (x * n + m)).toInt = gv at *
                  clear h1 h2' hfc hgc hT
                  go_wp2_with fail
                  refine hc1.mono ?_
                  rintro e w2 ⟨rfl, hb2⟩
                  have hB2 := hB.trans (hb2.mono hBs)
                  have q2 := row_below q0 hb2 q0.lt
                  clear c0 c1
                  have c0 := q2.cell (i := 0) rfl
                  have c1 := q2.cell (i := 1) rfl
                  go_wp2_with fail
                  refine (hc2 _ hB2).mono ?_
                  rintro e w3 ⟨rfl, hb3⟩
                  have hB3 := hB2.trans (hb3.mono hB2.size)
                  have hown3 := ownsRow_below (ownsRow_below hown hb2) hb3
                  have q3 := row_below q2 hb3 q2.lt
                  clear c0 c1 hc1 hc2 hown
                  have c0 := q3.cell (i := 0) rfl
                  have kf := (hB3.cell (p := ⟨fb, fo + (k * n + x), none⟩) (by simp; omega)).trans kf
                  have kg := (hB3.cell (p := ⟨gb, go + (x * n + m), none⟩) (by simp; omega)).trans kg
                  have c0 := cell_regrown c0
                  have kf := cell_regrown kf
                  have kg := cell_regrown kg
                  clear q0 q2 q3
                  go_wp2_with fail
                  refine wp_region_quiet_below (by kernel_rfl) (by kernel_rfl) ?_
                  repeat (go_big_quiet_step (fail))
                  refine wpQuiet_nil ?_
                  intro _ hw'
                  obtain ⟨⟨dq, osq⟩, hw''⟩ := hw'
                  subst hw''
                  go_wp2_with fail
                  refine ⟨⟨x + 1, by omega, by go_num, by rw [HT.out, hadd], hB3.trans ((below_regrown _ dq osq).mono hB3.size), ownsRow_below hown3 (below_regrown _ dq osq)⟩, by simp [intOf]; omega⟩
            · obtain rfl : x = n := by omega
              generalize sm x (tmAt us (mat x F) (mat x G) k m) = S0 at *
              go_wp2_with (at_builtin; refine wpList_append_own _ rfl _ _ 25 rfl W0.heap.size 2 i0 (.int .i64 0) 1 8 Tryd.underlying25 hi hz0 hz1 hz2 rfl (by decide) _ _ _ rfl (hown.alloc _) ⟨wr.heap.size, 0, none⟩ 1 1 [.int .i64 S0.toInt] rfl rfl (cell_one_new _ _ _) (fun u hu => by simp at hu; subst hu; rfl) (by unfold maxLen; omega) (by omega) (by simp; omega) ?_; intro v' w3 hown3 hgrow3 _; obtain ⟨g', cap', rfl⟩ := ownsRow_succ hown3)
              have hB3 : Below W0.heap.size W0 w3 := (hB.alloc hBs (.cells #[.int .i64 S0.toInt] 2)).grown hgrow3 (by simp; omega) fun q eq => by
                apply Nat.le_of_not_lt; intro hql
                exact ownBlock_ge hown (b := q) hql eq.symm
              refine ⟨⟨m + 1, some ⟨g', 0, none⟩, cap', by omega, by go_num, by rw [Nat.add_assoc], hB3, ?_⟩, by simp [intOf]; omega⟩
              rw [HS.out, bvals_snoc]
              exact hown3
        · obtain rfl : m = n := by omega
          go_wp2_with fail
          rw [preL_next] at hown
          refine ⟨⟨k + 1, av, cv, by omega, by go_num, by rw [Nat.succ_mul], hB, ?_⟩, by simp [intOf]; omega⟩
          rw [Nat.succ_mul]; exact hown
    · obtain rfl : k = n := by omega
      rw [preL_full] at hown
      go_wp2
      go_ret
      exact ⟨av, cv, rfl, hb0.trans (hB.mono (by omega)), ownsRow_base hown (by omega)⟩
end Go.Proofs.YtilffmalkegioaaDoor
