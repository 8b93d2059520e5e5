/- The walk of the law MobiusDual: it answers true, and writes nothing that was there. -/
import Derived.Test.YtilffmalkegioaaDoorMobPubM
import Derived.Test.YtilffmalkegioaaDoorMobRefZ
import Derived.Test.YtilffmalkegioaaDoorDual
import Derived.Test.YtilffmalkegioaaDoorDualPlain
import Derived.Test.YtilffmalkegioaaDoorTurEx
import Derived.Test.YtilffmalkegioaaDoorSound
import Derived.Test.YtilffmalkegioaaDoorRefused
namespace Go.Proofs.YtilffmalkegioaaDoor
open Go.RowKit Go.Shelf

theorem ZInts.step {A B : World} {a : Option Addr} {l : List Int} (h : ZInts A.heap.size A a l) (hb : Below A.heap.size A B) : ZInts B.heap.size B a l := (h.below hb).mono hb.size
set_option maxRecDepth 100000 in
set_option maxHeartbeats 4000000 in
theorem mdual_bad (n : Int) (a : Option Addr) (cap : Nat) (us : List Nat)  (n₀ : Nat) (hf : Fit us) (w : World) (hT : TabAt w) (hw : IsWords n₀ w a us) (hg : 0 < n₀) (hn₀ : n₀ ≤ w.heap.size) (hc : codeOf n us ≠ 0) :
    Calls Tryd.prog 12 #[.agg #[.int .i64 n, .slice a us.length cap]] w fun e w' => e = .returned (.bool true) ∧ Below w.heap.size w w' := by
  have k1 := fun W hw => sound_any n a cap us W.heap.size hf W hw (Nat.le_refl _)
  have k2 := fun W hT hw hg => refused_any n a cap us W.heap.size hf W hT hw hg (Nat.le_refl _)
  have e1 : (codeOf n us == 0) = false := by rw [beq_eq_false_iff_ne]; exact hc
  have e2 : (codeOf n us != 0) = true := by rw [bne_iff_ne]; exact hc
  rw [e1] at k1
  rw [e2] at k2
  clear hc e1 e2
  obtain ⟨W0, hW0⟩ : ∃ V, w.alloc (.cells #[.int .i64 n, .slice a us.length cap] 24) = V := ⟨_, rfl⟩
  obtain ⟨r0, hB, hs0⟩ := one_row w 24 (.int .i64 n) (.slice a us.length cap) hW0
  replace hw := (hw.below (hB.mono hn₀)).mono (show n₀ ≤ W0.heap.size by omega)
  replace hT := hT.below hB (by omega)
  replace hg : 0 < W0.heap.size := by omega
  clear hs0 hn₀
  have c0 := r0.cell (i := 0) rfl
  have c1 := r0.cell (i := 1) rfl
  go_enter Tryd.func12, Tryd.ntmps12
  go_wp2_with fail
  clear hW0
  refine (k1 _ hw).mono ?_
  rintro e w1 ⟨rfl, hb⟩
  clear c0 c1
  replace r0 := row_below r0 hb r0.lt
  replace hw := (hw.below hb).mono hb.size
  replace hT := hT.below hb hg
  replace hg := Nat.lt_of_lt_of_le hg hb.size
  replace hB := hB.trans (hb.mono hB.size)
  have c0 := r0.cell (i := 0) rfl
  have c1 := r0.cell (i := 1) rfl
  clear hb
  go_wp2_with fail
  refine (k2 _ hT hw hg).mono ?_
  rintro e w2 ⟨rfl, hb⟩
  clear c0 c1
  replace r0 := row_below r0 hb r0.lt
  replace hw := (hw.below hb).mono hb.size
  replace hT := hT.below hb hg
  replace hg := Nat.lt_of_lt_of_le hg hb.size
  replace hB := hB.trans (hb.mono hB.size)
  have c0 := r0.cell (i := 0) rfl
  have c1 := r0.cell (i := 1) rfl
  clear hb
  go_wp2_with fail
  go_ret
  exact ⟨rfl, hB⟩

set_option maxRecDepth 100000 in
set_option maxHeartbeats 8000000 in
theorem mdual_ok (n : Nat) (a : Option Addr) (cap : Nat) (us : List Nat)  (n₀ : Nat) (hn : n = us.length) (hf : Fit us) (w : World) (hT : TabAt w) (hw : IsWords n₀ w a us) (hg : 0 < n₀) (hn₀ : n₀ ≤ w.heap.size) (hc : codeOf n us = 0) :
    Calls Tryd.prog 12 #[.agg #[.int .i64 n, .slice a n cap]] w fun e w' => e = .returned (.bool true) ∧ Below w.heap.size w w' := by
  have ks := fun W hw => sound_any n a cap us W.heap.size hf W hw (Nat.le_refl _)
  have e1 : (codeOf n us == 0) = true := by rw [hc]; rfl
  rw [e1, ← hn] at ks
  clear e1
  have hl : n ≤ 16 := by have := (code_zero hc).2.1; omega
  have hnn : n * n ≤ 256 := Nat.mul_le_mul hl hl
  have ho : IsOrd us := (code_zero hc).2.2.2.2
  have k1 := fun W hT hw hg => Dual_ok n a cap us W.heap.size hf W hT hw hg (Nat.le_refl _) hc
  rw [← hn] at k1
  have k2 := fun W hT hw hg => Mu_ok n a cap us W.heap.size hn hf W hT hw hg (Nat.le_refl _) hc
  have hmu : ∀ ds, Tur us n [] ds → codeOf n ds = 0 ∧ n = ds.length ∧ Fit ds ∧ ∀ x, x < n → ∀ y, y < n → bd (tabL n (muM ds)) (y * n + x) = bd (tabL n (muM us)) (x * n + y) := fun ds hd => by
    subst hn
    refine ⟨tur_code hc hd, hd.len.symm, hd.fit, fun x hx y hy => ?_⟩
    have e1 := mat_tabL (n := us.length) (muM ds) y hy x hx
    have e2 := mat_tabL (n := us.length) (muM us) x hx y hy
    unfold mat at e1 e2
    rw [e1, e2]
    exact mu_dual ho (tur_ord ho hd) hd.len (fun x hx y hy => by rw [hd.has y hy]; simp [hx]) hx hy
  have k3 := fun g ds (hd : Tur us n [] ds) W hT hv hg => Mu_ok n (some ⟨g, 0, none⟩) n ds W.heap.size (hmu ds hd).2.1 (hmu ds hd).2.2.1 W hT hv hg (Nat.le_refl _) (hmu ds hd).1
  have hlm := tabL_len n (muM us)
  have hrows : ∀ y, y < n → y * n + n ≤ n * n := fun y hy => by
    have := Nat.mul_le_mul_right n (show y + 1 ≤ n from hy)
    rwa [Nat.succ_mul] at this
  generalize tabL n (muM us) = Q at *
  clear hc ho hn
  obtain ⟨W0, hW0⟩ : ∃ V, w.alloc (.cells #[.int .i64 n, .slice a n cap] 24) = V := ⟨_, rfl⟩
  obtain ⟨r0, hB, hs0⟩ := one_row w 24 (.int .i64 n) (.slice a n cap) hW0
  replace hw := (hw.below (hB.mono hn₀)).mono (show n₀ ≤ W0.heap.size by omega)
  replace hT := hT.below hB (by omega)
  replace hg : 0 < W0.heap.size := by omega
  clear hs0 hn₀
  have c0 := r0.cell (i := 0) rfl
  have c1 := r0.cell (i := 1) rfl
  go_enter Tryd.func12, Tryd.ntmps12
  go_wp2_with fail
  clear hW0
  refine (ks _ hw).mono ?_
  rintro e w1 ⟨rfl, hb⟩
  clear c0 c1
  replace r0 := row_below r0 hb r0.lt
  replace hw := (hw.below hb).mono hb.size
  replace hT := hT.below hb hg
  replace hg := Nat.lt_of_lt_of_le hg hb.size
  replace hB := hB.trans (hb.mono hB.size)
  have c0 := r0.cell (i := 0) rfl
  have c1 := r0.cell (i := 1) rfl
  clear hb
  go_wp2_with fail
  refine (k1 _ hT hw hg).mono ?_
  rintro e w2 ⟨g, ds, rfl, hb, hgg, hr, hd⟩
  clear c0 c1
  replace r0 := row_below r0 hb r0.lt
  replace hw := (hw.below hb).mono hb.size
  replace hT := hT.below hb hg
  replace hg := Nat.lt_of_lt_of_le hg hb.size
  replace hB := hB.trans (hb.mono hB.size)
  have c0 := r0.cell (i := 0) rfl
  have c1 := r0.cell (i := 1) rfl
  have v2 := hr.words hr.lt
  clear hr hb
  obtain ⟨V, hV⟩ : ∃ V, w2.alloc (.cells #[.int .i64 n, .slice (some ⟨g, 0, none⟩) n n] 24) = V := ⟨_, rfl⟩
  obtain ⟨r3, hb, hs3⟩ := one_row w2 24 (.int .i64 n) (.slice (some ⟨g, 0, none⟩) n n) hV
  clear c0 c1
  replace v2 := (v2.below hb).mono hb.size
  replace r0 := row_below r0 hb r0.lt
  replace hw := (hw.below hb).mono hb.size
  replace hT := hT.below hb hg
  replace hg := Nat.lt_of_lt_of_le hg hb.size
  replace hB := hB.trans (hb.mono hB.size)
  have c0 := r0.cell (i := 0) rfl
  have c1 := r0.cell (i := 1) rfl
  have r3c0 := r3.cell (i := 0) rfl
  have r3c1 := r3.cell (i := 1) rfl
  clear hb hs3
  have hmd := (hmu ds hd).2.2.2
  have hld := tabL_len n (muM ds)
  go_wp2_with fail
  clear hV
  refine (k2 _ hT hw hg).mono ?_
  rintro e w3 ⟨p, rfl, hp, hb, hr⟩
  clear c0 c1 r3c0 r3c1
  replace r3 := row_below r3 hb r3.lt
  replace v2 := (v2.below hb).mono hb.size
  replace r0 := row_below r0 hb r0.lt
  replace hw := (hw.below hb).mono hb.size
  replace hT := hT.below hb hg
  replace hg := Nat.lt_of_lt_of_le hg hb.size
  replace hB := hB.trans (hb.mono hB.size)
  have c0 := r0.cell (i := 0) rfl
  have c1 := r0.cell (i := 1) rfl
  have r3c0 := r3.cell (i := 0) rfl
  have r3c1 := r3.cell (i := 1) rfl
  have z2 := hr.b hr.lt
  clear hr hp
  clear hb
  go_wp2_with fail
  refine (k3 _ _ hd _ hT v2 hg).mono ?_
  rintro e w4 ⟨q, rfl, hp, hb, hr⟩
  clear c0 c1 r3c0 r3c1
  replace r3 := row_below r3 hb r3.lt
  replace v2 := (v2.below hb).mono hb.size
  replace r0 := row_below r0 hb r0.lt
  replace hw := (hw.below hb).mono hb.size
  replace z2 := z2.step hb
  replace hT := hT.below hb hg
  replace hg := Nat.lt_of_lt_of_le hg hb.size
  replace hB := hB.trans (hb.mono hB.size)
  have c0 := r0.cell (i := 0) rfl
  have c1 := r0.cell (i := 1) rfl
  have r3c0 := r3.cell (i := 0) rfl
  have r3c1 := r3.cell (i := 1) rfl
  have z3 := hr.b hr.lt
  clear hr hp
  clear hb
  generalize tabL n (muM ds) = D at *
  clear k1 k2 k3 ks hmu hd
  go_wp2_with fail
  clear c0 c1 r3c0 r3c1
  go_loopw [8] (fun i wr => ∃ k : Nat, k ≤ n ∧ i = .int .i64 k ∧ Below w4.heap.size w4 wr) (fun i _ => n - (intOf i).toNat)
  case atStart => exact ⟨0, Nat.zero_le _, rfl, Below.refl _ _⟩
  case round =>
    obtain ⟨k, hk, rfl, hb⟩ := hrel
    have g0 := row_below r0 hb r0.lt
    have c0 := g0.cell (i := 0) rfl
    by_cases hlt : k < n
    · go_wp2_with fail
      clear c0
      go_loopw [9] (fun i wr => ∃ x : Nat, x ≤ n ∧ i = .int .i64 x ∧ Below w4.heap.size w4 wr) (fun i _ => n - (intOf i).toNat)
      case atStart => exact ⟨0, Nat.zero_le _, rfl, hb⟩
      case round =>
        clear hb g0
        obtain ⟨x, hx, rfl, hb⟩ := hrel
        have g0 := row_below r0 hb r0.lt
        have c0 := g0.cell (i := 0) rfl
        by_cases hxt : x < n
        · have hpk := plc_lt hlt hxt
          have hpx := plc_lt hxt hlt
          obtain ⟨fb, fo, e1, hfb, hfc⟩ := (z2.below hb).cellsB (i := k * n + x) (by omega)
          cases e1
          obtain ⟨gb, go, e2, hgb, hgc⟩ := (z3.below hb).cellsB (i := x * n + k) (by omega)
          cases e2
          have kf := hfc (k * n + x) (by omega)
          have kg := hgc (x * n + k) (by omega)
          rw [Nat.zero_add] at kf kg
          rw [hmd k hlt x hxt] at kg
          have kf := cell_regrown kf
          have kg := cell_regrown kg
          have kc := cell_regrown c0
          have hrk := hrows k hlt
          have hrx := hrows x hxt
          have hne : ((bd Q (k * n + x)).toInt != (bd Q (k * n + x)).toInt) = false := by simp
          generalize (bd Q (k * n + x)).toInt = sv at *
          clear hfc hgc z2 z3 hmd
          go_wp2_with fail
          refine wp_region_quiet_below (by kernel_rfl) (by kernel_rfl) ?_
          repeat (go_big_quiet_step (fail))
          refine wpQuiet_nil ?_
          intro _ hw'
          obtain ⟨⟨dq, osq⟩, hw''⟩ := hw'
          subst hw''
          go_wp2_with fail
          go_roundw
          case rel => exact ⟨x + 1, by omega, by go_num, hb.trans ((below_regrown _ dq osq).mono hb.size)⟩
          case measure => simp [intOf]; omega
        · obtain rfl : x = n := by omega
          go_wp2_with fail
          refine ⟨⟨k + 1, by omega, by go_num, hb⟩, by simp [intOf]; omega⟩
    · obtain rfl : k = n := by omega
      replace hB := hB.trans (hb.mono hB.size)
      go_wp2_with fail
      go_ret
      exact ⟨rfl, hB⟩

/-- **MobiusDual answers true, for every order and any numbers, and writes nothing that was there** -/
theorem mdual_any (n : Int) (a : Option Addr) (cap : Nat) (us : List Nat)  (n₀ : Nat) (hf : Fit us) (w : World) (hT : TabAt w) (hw : IsWords n₀ w a us) (hg : 0 < n₀) (hn₀ : n₀ ≤ w.heap.size) :
    Calls Tryd.prog 12 #[.agg #[.int .i64 n, .slice a us.length cap]] w fun e w' => e = .returned (.bool true) ∧ Below w.heap.size w w' := by
  by_cases hc : codeOf n us = 0
  · obtain rfl := (code_zero hc).2.2.1
    exact mdual_ok us.length a cap us  n₀ rfl hf w hT hw  hg hn₀ hc
  · exact mdual_bad n a cap us  n₀ hf w hT hw  hg hn₀ hc
end Go.Proofs.YtilffmalkegioaaDoor
