/- The contract of the document's SummaryThen. -/
import Derived.Test.YtfigdkikkociaaaSumCall
namespace Go.Proofs.Ytfigdkikkociaaa
open Go.RowKit Go.Shelf

theorem over_then {s r : Sm} (h1 : codeS s 4 = 0) (h2 : codeS r (s.out : Int) = 0) {j : Nat} (hj : j < r.out) (h : 1048576 < mixS s r j) : codeN s r = 6 := by
  refine codeN_over h1 h2 fun h3 => ?_
  have g := good_of (n := 4) h3
  have k1 := (good_of (n := 4) h1).k1
  have k2 := (good_of h2).k1
  have := (g.at0 (i := j) (by rw [thenS_out k1 k2]; exact hj)).2
  rw [thenS_at k1 k2 hj] at this
  omega
theorem good_then {s r : Sm} (h1 : codeS s 4 = 0) (h2 : codeS r (s.out : Int) = 0) (h : ∀ j, j < r.out → mixS s r j ≤ 1048576) : codeN s r = 0 :=
  (Goods.mk (good_of (n := 4) h1) (good_of h2) (then_good (good_of (n := 4) h1) (good_of h2) h)).code
theorem then_add {s r : Sm} (k1 : 1 ≤ s.k) (k2 : 1 ≤ r.k) {j : Nat} (hj : (j : Int) + 1 = min s.k r.k) : (thenS s r).d = mixS s r j := by
  rw [← thenS_at k1 k2 (by unfold Sm.out; omega), Sm.at_add (by rw [thenS_k]; exact hj)]
/-- how far the document has come behind so many places -/
def farS (s r : Sm) (j : Nat) : Sm := ⟨min (j : Int) (min s.k r.k), if min s.k r.k ≤ (j : Int) then (thenS s r).d else 0, (thenS s r).z.take (j - (min s.k r.k).toNat)⟩
theorem far_keep {s r : Sm} {j : Nat} (h : (j : Int) + 1 < min s.k r.k) : farS s r (j + 1) = ⟨(j : Int) + 1, (farS s r j).d, (farS s r j).z⟩ := by
  refine Sm.ext' ?_ ?_ ?_
  · show min ((j + 1 : Nat) : Int) (min s.k r.k) = (j : Int) + 1
    omega
  · show (if min s.k r.k ≤ ((j + 1 : Nat) : Int) then _ else _) = (if min s.k r.k ≤ (j : Int) then _ else _)
    rw [if_neg (by omega), if_neg (by omega)]
  · show (thenS s r).z.take _ = (thenS s r).z.take _
    rw [show j + 1 - (min s.k r.k).toNat = 0 by omega, show j - (min s.k r.k).toNat = 0 by omega]
theorem far_last {s r : Sm} (k1 : 1 ≤ s.k) (k2 : 1 ≤ r.k) {j : Nat} (h : (j : Int) + 1 = min s.k r.k) {x : Int} (hx : mixS s r j = x) : farS s r (j + 1) = ⟨(j : Int) + 1, x, (farS s r j).z⟩ := by
  refine Sm.ext' ?_ ?_ ?_
  · show min ((j + 1 : Nat) : Int) (min s.k r.k) = (j : Int) + 1
    omega
  · show (if min s.k r.k ≤ ((j + 1 : Nat) : Int) then _ else _) = x
    rw [if_pos (by omega), then_add k1 k2 h, hx]
  · show (thenS s r).z.take _ = (thenS s r).z.take _
    rw [show j + 1 - (min s.k r.k).toNat = 0 by omega, show j - (min s.k r.k).toNat = 0 by omega]
theorem far_put {s r : Sm} {j : Nat} (h : min s.k r.k ≤ (j : Int)) (hj : j < r.out) {x : Int} (hx : mixS s r j = x) : farS s r (j + 1) = ⟨(farS s r j).k, (farS s r j).d, (farS s r j).z ++ [x]⟩ := by
  refine Sm.ext' ?_ ?_ ?_
  · show min ((j + 1 : Nat) : Int) (min s.k r.k) = min (j : Int) (min s.k r.k)
    omega
  · show (if min s.k r.k ≤ ((j + 1 : Nat) : Int) then _ else _) = (if min s.k r.k ≤ (j : Int) then _ else _)
    rw [if_pos (by omega), if_pos h]
  · show (thenS s r).z.take _ = (thenS s r).z.take _ ++ [x]
    rw [show j + 1 - (min s.k r.k).toNat = j - (min s.k r.k).toNat + 1 by omega, take_snoc_z (by rw [thenS_zlen]; omega), zd_thenS (by omega), show j - (min s.k r.k).toNat + (min s.k r.k).toNat = j by omega, hx]
theorem far_zlen {s r : Sm} {j : Nat} (hj : j ≤ r.out) : (farS s r j).z.length = j - (min s.k r.k).toNat := by
  show ((thenS s r).z.take _).length = _
  rw [List.length_take, thenS_zlen]; omega
theorem far_start (s r : Sm) (k1 : 1 ≤ s.k) (k2 : 1 ≤ r.k) : farS s r 0 = ⟨0, 0, []⟩ := by
  refine Sm.ext' ?_ ?_ ?_
  · show min ((0 : Nat) : Int) (min s.k r.k) = 0
    omega
  · show (if min s.k r.k ≤ ((0 : Nat) : Int) then _ else _) = 0
    rw [if_neg (by omega)]
  · show (thenS s r).z.take _ = []
    rw [Nat.zero_sub, List.take_zero]
theorem far_end (s r : Sm) (k2 : 1 ≤ r.k) : farS s r r.out = thenS s r := by
  refine Sm.ext' ?_ ?_ ?_
  · show min (r.out : Int) (min s.k r.k) = min s.k r.k
    unfold Sm.out; omega
  · show (if min s.k r.k ≤ (r.out : Int) then _ else _) = _
    rw [if_pos (by unfold Sm.out; omega)]
  · show (thenS s r).z.take _ = _
    rw [← thenS_zlen, List.take_length]

set_option maxRecDepth 100000 in
set_option maxHeartbeats 2000000 in
theorem rsthen_any (k0 d0 : Int) (a0 : Option Addr) (cap0 : Nat) (z0 : List Int) (k1 d1 : Int) (a1 : Option Addr) (cap1 : Nat) (z1 : List Int) (n₀ : Nat) (w : World) (G0 : SArg n₀ w a0 cap0 z0) (G1 : SArg n₀ w a1 cap1 z1) (hn₀ : n₀ ≤ w.heap.size) :
    Calls Try.prog 15 #[.agg #[.int .i64 k0, .int .i64 d0, .slice a0 z0.length cap0], .agg #[.int .i64 k1, .int .i64 d1, .slice a1 z1.length cap1]] w fun e w' => ThenPost ⟨k0, d0, z0⟩ ⟨k1, d1, z1⟩ w.heap.size e w' ∧ Below w.heap.size w w' := by
  obtain ⟨i0, hi, hz0, hz1, hz2⟩ := int_info
  obtain ⟨p0, p1, p2, hB, hs0⟩ := sum_rows3 w (.int .i64 k0) (.int .i64 d0) (.slice a0 z0.length cap0) (.int .i64 k1) (.int .i64 d1) (.slice a1 z1.length cap1) (.int .i64 0) (.int .i64 0) (.slice none 0 0) rfl
  obtain ⟨W0, hW0⟩ : ∃ V, ((w.alloc (.cells #[.int .i64 k0, .int .i64 d0, .slice a0 z0.length cap0] 24)).alloc (.cells #[.int .i64 k1, .int .i64 d1, .slice a1 z1.length cap1] 24)).alloc (.cells #[.int .i64 0, .int .i64 0, .slice none 0 0] 24) = V := ⟨_, rfl⟩
  rw [hW0] at p0 p1 p2 hB hs0
  have g0 := (G0.mono hn₀).step hB
  have g1 := (G1.mono hn₀).step hB
  clear hs0
  unfold ThenPost sumErr
  have rC0 : ∀ {V}, SArg V.heap.size V a0 cap0 z0 → _ := fun {V} h => rscheck_any k0 d0 a0 cap0 z0 4 V.heap.size G0.len V h.lies (Nat.le_refl _)
  have rC1 : ∀ {V}, SArg V.heap.size V a1 cap1 z1 → _ := fun {V} h => rscheck_any k1 d1 a1 cap1 z1 ((Sm.mk k0 d0 z0).out : Int) V.heap.size G1.len V h.lies (Nat.le_refl _)
  by_cases hc : codeS ⟨k0, d0, z0⟩ 4 = 0
  · skip
    have gg := good_of (n := 4) hc
    have H1 := hide hc
    have gk := gg.k1
    have gn := gg.kn
    have go4 := gg.out4
    dsimp only at gk gn go4
    rw [hc] at rC0
    clear hc
    have hmo := fun W => rsout_any k0 d0 a0 cap0 z0 ⟨gk, by omega⟩ G0.len W
    rw [go4.2.2.1.symm] at hmo
    have hkO : ∀ j : Nat, (j : Int) < k1 → k1 ≤ ((Sm.mk k0 d0 z0).out : Int) → (j : Int) < k0 + (z0.length : Int) ∧ z0.length ≤ 4 ∧ j < (Sm.mk k0 d0 z0).out := fun j h h2 => by omega
    have gk4 : k0 ≤ 4 := by omega
    have go41 := go4.1
    clear go4
    have p0c0 := p0.cell (i := 0) rfl
    have p0c1 := p0.cell (i := 1) rfl
    have p0c2 := p0.cell (i := 2) rfl
    have p0l := p0.lt
    have p1c0 := p1.cell (i := 0) rfl
    have p1c1 := p1.cell (i := 1) rfl
    have p1c2 := p1.cell (i := 2) rfl
    have p1l := p1.lt
    have p2c0 := p2.cell (i := 0) rfl
    have p2c1 := p2.cell (i := 1) rfl
    have p2c2 := p2.cell (i := 2) rfl
    have p2l := p2.lt
    go_enter Try.func15, Try.ntmps15
    go_wp2_with fail
    refine (rC0 g0).mono ?_
    rintro e w1 ⟨rfl, hb⟩
    dsimp only
    clear p0c0 p0c1 p0c2 p1c0 p1c1 p1c2 p2c0 p2c1 p2c2 p0l p1l p2l
    replace p0 := row_below p0 hb p0.lt
    replace p1 := row_below p1 hb p1.lt
    replace p2 := row_below p2 hb p2.lt
    replace g0 := g0.step hb
    replace g1 := g1.step hb
    replace hB := hB.trans (hb.mono hB.size)
    have p0c0 := p0.cell (i := 0) rfl
    have p0c1 := p0.cell (i := 1) rfl
    have p0c2 := p0.cell (i := 2) rfl
    have p0l := p0.lt
    have p1c0 := p1.cell (i := 0) rfl
    have p1c1 := p1.cell (i := 1) rfl
    have p1c2 := p1.cell (i := 2) rfl
    have p1l := p1.lt
    have p2c0 := p2.cell (i := 0) rfl
    have p2c1 := p2.cell (i := 1) rfl
    have p2c2 := p2.cell (i := 2) rfl
    have p2l := p2.lt
    clear hb
    by_cases hc2 : codeS ⟨k1, d1, z1⟩ ((Sm.mk k0 d0 z0).out : Int) = 0
    · skip
      have g2 := good_of hc2
      have H2 := hide hc2
      have rk := g2.k1
      have rn := g2.kn
      have ro4 := g2.out4
      have rl4 := g2.o4
      dsimp only at rk rn ro4 rl4
      have hRO := hide ro4.2.2.1
      have ro41 := ro4.1
      have rk4 : k1 ≤ 4 := by omega
      have rz4 : z1.length ≤ 4 := by omega
      clear ro4
      rw [hc2] at rC1
      clear hc2
      go_wp2_with fail
      obtain ⟨p0q0, p0q1, p0q2⟩ := p0.re
      obtain ⟨p1q0, p1q1, p1q2⟩ := p1.re
      obtain ⟨p2q0, p2q1, p2q2⟩ := p2.re
      have q0 := regr (W := w1) (fun V hV => hmo V)
      have q1 := regr (W := w1) (fun V hV => rC1 (g1.step hV))
      refine wp_region_quiet_below (by kernel_rfl) (by kernel_rfl) ?_
      repeat (go_big_quiet_step (first | with_reducible exact q0 _ _ | with_reducible exact q1 _ _))
      refine wpQuiet_nil ?_
      intro _ hw'
      obtain ⟨⟨dq, osq⟩, hw''⟩ := hw'
      subst hw''
      replace hB := hB.trans ((below_regrown w1 dq osq).mono hB.size)
      obtain ⟨w2, hw2⟩ : ∃ V, Go.Sort.grow (redrawn w1 dq) osq = V := ⟨_, rfl⟩
      have hb : Below w1.heap.size w1 w2 := hw2 ▸ below_regrown w1 dq osq
      dsimp only
      rw [hw2] at hB ⊢
      clear hw2
      clear p0c0 p0c1 p0c2 p1c0 p1c1 p1c2 p2c0 p2c1 p2c2 p0l p1l p2l
      clear p0q0 p0q1 p0q2 p1q0 p1q1 p1q2 p2q0 p2q1 p2q2 q0 q1
      replace p0 := row_below p0 hb p0.lt
      replace p1 := row_below p1 hb p1.lt
      replace p2 := row_below p2 hb p2.lt
      clear hb g0 g1
      have sz0 := hB.size
      have lt2 := p2.lt
      have po := Row.new w2 24 [.int .i64 0, .int .i64 0, .slice none 0 0]
      have hbo : Below w2.heap.size w2 (w2.alloc (.cells #[.int .i64 0, .int .i64 0, .slice none 0 0] 24)) := (Below.refl _ _).alloc (Nat.le_refl _) _
      have hP : ∀ j, j < (Sm.mk k1 d1 z1).out → ∀ {V}, SArg V.heap.size V a1 cap1 z1 → _ := fun j hj {V} h => rsplace_any k1 d1 a1 cap1 z1 j V.heap.size ⟨rk, rk4⟩ (by have := hRO.out; omega) rz4 V h.lies (Nat.le_refl _)
      have hQ : ∀ j : Nat, (j : Int) < k1 → ∀ {V}, SArg V.heap.size V a0 cap0 z0 → _ := fun j hj {V} h => rsplace_any k0 d0 a0 cap0 z0 j V.heap.size ⟨gk, gk4⟩ (hkO j hj rn).1 (hkO j hj rn).2.1 V h.lies (Nat.le_refl _)
      have hmr := fun W => rsout_any k1 d1 a1 cap1 z1 ⟨rk, rk4⟩ G1.len W
      rw [hRO.out.symm] at hmr
      have hP0 : ∀ j, j < (Sm.mk k1 d1 z1).out → 0 ≤ (Sm.mk k1 d1 z1).at j ∧ (Sm.mk k1 d1 z1).at j ≤ 1048576 := fun j hj => g2.at0 hj
      have hQ0 : ∀ j : Nat, (j : Int) < k1 → 0 ≤ (Sm.mk k0 d0 z0).at j ∧ (Sm.mk k0 d0 z0).at j ≤ 1048576 := fun j hj => gg.at0 (hkO j hj rn).2.2
      have HG := hide (And.intro gg g2)
      have HF := hide (far_start ⟨k0, d0, z0⟩ ⟨k1, d1, z1⟩ gk rk)
      clear gg g2 rC0 rC1 hmo
      go_wp2_with fail
      go_loopw [7] (fun i wr => ∃ (j : Nat) (kj dj : Int) (Lj : List Int) (av : Option Addr) (cv : Nat), j ≤ (Sm.mk k1 d1 z1).out ∧ i = .int .i64 j ∧ Hid (farS ⟨k0, d0, z0⟩ ⟨k1, d1, z1⟩ j = ⟨kj, dj, Lj⟩) ∧ Below w2.heap.size w2 wr ∧ Row wr w2.heap.size 24 [.int .i64 kj, .int .i64 dj, .slice av Lj.length cv] ∧ wr.ownsRow (w2.heap.size + 1) 3 1 (.slice av Lj.length cv) Lj.length (zvals Lj) ∧ Hid (∀ m, m < j → mixS ⟨k0, d0, z0⟩ ⟨k1, d1, z1⟩ m ≤ 1048576)) (fun i _ => (Sm.mk k1 d1 z1).out - (intOf i).toNat)
      case atStart => exact ⟨0, 0, 0, [], none, 0, Nat.zero_le _, rfl, HF, hbo, po, World.ownsRow_nil .., hide fun m hm => by omega⟩
      case round =>
        clear po hbo
        obtain ⟨j, kj, dj, Lj, av, cv, hj, rfl, HJ, hbr, po, ow, HSo⟩ := hrel
        replace hB := hB.trans (hbr.mono sz0)
        have lt0' := p0.lt
        have lt1' := p1.lt
        replace p0 := row_below p0 hbr lt0'
        replace p1 := row_below p1 hbr lt1'
        replace p2 := row_below p2 hbr lt2
        have hLl : Lj.length ≤ 4 := by
          have h := far_zlen (s := ⟨k0, d0, z0⟩) (r := ⟨k1, d1, z1⟩) hj
          rw [HJ.out] at h
          dsimp only at h
          omega
        have g0 := (G0.below (hB.mono hn₀)).mono (Nat.le_trans hn₀ hB.size)
        have g1 := (G1.below (hB.mono hn₀)).mono (Nat.le_trans hn₀ hB.size)
        have p0c0 := p0.cell (i := 0) rfl
        have p0c1 := p0.cell (i := 1) rfl
        have p0c2 := p0.cell (i := 2) rfl
        have p0l := p0.lt
        have p1c0 := p1.cell (i := 0) rfl
        have p1c1 := p1.cell (i := 1) rfl
        have p1c2 := p1.cell (i := 2) rfl
        have p1l := p1.lt
        have p2c0 := p2.cell (i := 0) rfl
        have p2c1 := p2.cell (i := 1) rfl
        have p2c2 := p2.cell (i := 2) rfl
        have p2l := p2.lt
        have poc0 := po.cell (i := 0) rfl
        have poc1 := po.cell (i := 1) rfl
        have poc2 := po.cell (i := 2) rfl
        have pol := po.lt
        by_cases hlt : j < (Sm.mk k1 d1 z1).out
        · skip
          go_wp2_with fail
          refine (hmr _).mono ?_
          rintro e w11 ⟨rfl, hb⟩
          dsimp only
          clear p0c0 p0c1 p0c2 p1c0 p1c1 p1c2 p2c0 p2c1 p2c2 poc0 poc1 poc2 p0l p1l p2l pol
          replace p0 := row_below p0 hb p0.lt
          replace p1 := row_below p1 hb p1.lt
          replace p2 := row_below p2 hb p2.lt
          replace po := row_below po hb po.lt
          replace g0 := g0.step hb
          replace g1 := g1.step hb
          replace ow := ownsRow_below ow hb
          replace hB := hB.trans (hb.mono hB.size)
          have p0c0 := p0.cell (i := 0) rfl
          have p0c1 := p0.cell (i := 1) rfl
          have p0c2 := p0.cell (i := 2) rfl
          have p0l := p0.lt
          have p1c0 := p1.cell (i := 0) rfl
          have p1c1 := p1.cell (i := 1) rfl
          have p1c2 := p1.cell (i := 2) rfl
          have p1l := p1.lt
          have p2c0 := p2.cell (i := 0) rfl
          have p2c1 := p2.cell (i := 1) rfl
          have p2c2 := p2.cell (i := 2) rfl
          have p2l := p2.lt
          have poc0 := po.cell (i := 0) rfl
          have poc1 := po.cell (i := 1) rfl
          have poc2 := po.cell (i := 2) rfl
          have pol := po.lt
          replace hbr := hbr.trans (hb.mono hbr.size)
          clear hb
          go_wp2_with fail
          refine (hP j hlt g1).mono ?_
          rintro e w12 ⟨rfl, hb⟩
          dsimp only
          clear p0c0 p0c1 p0c2 p1c0 p1c1 p1c2 p2c0 p2c1 p2c2 poc0 poc1 poc2 p0l p1l p2l pol
          replace p0 := row_below p0 hb p0.lt
          replace p1 := row_below p1 hb p1.lt
          replace p2 := row_below p2 hb p2.lt
          replace po := row_below po hb po.lt
          replace g0 := g0.step hb
          replace g1 := g1.step hb
          replace ow := ownsRow_below ow hb
          replace hB := hB.trans (hb.mono hB.size)
          have p0c0 := p0.cell (i := 0) rfl
          have p0c1 := p0.cell (i := 1) rfl
          have p0c2 := p0.cell (i := 2) rfl
          have p0l := p0.lt
          have p1c0 := p1.cell (i := 0) rfl
          have p1c1 := p1.cell (i := 1) rfl
          have p1c2 := p1.cell (i := 2) rfl
          have p1l := p1.lt
          have p2c0 := p2.cell (i := 0) rfl
          have p2c1 := p2.cell (i := 1) rfl
          have p2c2 := p2.cell (i := 2) rfl
          have p2l := p2.lt
          have poc0 := po.cell (i := 0) rfl
          have poc1 := po.cell (i := 1) rfl
          have poc2 := po.cell (i := 2) rfl
          have pol := po.lt
          replace hbr := hbr.trans (hb.mono hbr.size)
          clear hb
          have hv2 := hP0 j hlt
          have HO6 := hide (fun h => over_then (s := ⟨k0, d0, z0⟩) (r := ⟨k1, d1, z1⟩) H1.out H2.out hlt h)
          have hmx : ∀ v2 v1, (Sm.mk k1 d1 z1).at j = v2 → (Sm.mk k0 d0 z0).at j = v1 → (j : Int) < k1 → mixS ⟨k0, d0, z0⟩ ⟨k1, d1, z1⟩ j = v2 + v1 := fun v2 v1 e2 e1 h => by unfold mixS; rw [if_pos h, e2, e1]
          have hmy : ∀ v2, (Sm.mk k1 d1 z1).at j = v2 → ¬ (j : Int) < k1 → mixS ⟨k0, d0, z0⟩ ⟨k1, d1, z1⟩ j = v2 := fun v2 e2 h => by unfold mixS; rw [if_neg h, e2]; omega
          have HMX := hide hmx
          have HMY := hide hmy
          have HJ2 := hide (show ∀ x, mixS ⟨k0, d0, z0⟩ ⟨k1, d1, z1⟩ j = x → min k0 k1 ≤ (j : Int) → farS ⟨k0, d0, z0⟩ ⟨k1, d1, z1⟩ (j + 1) = ⟨kj, dj, Lj ++ [x]⟩ from fun x hx h => by rw [far_put h hlt hx, HJ.out])
          have HJ1 := hide (show ∀ x, mixS ⟨k0, d0, z0⟩ ⟨k1, d1, z1⟩ j = x → (j : Int) + 1 = min k0 k1 → farS ⟨k0, d0, z0⟩ ⟨k1, d1, z1⟩ (j + 1) = ⟨(j : Int) + 1, x, Lj⟩ from fun x hx h => by rw [far_last gk rk h hx, HJ.out])
          have HJ0 := hide (show (j : Int) + 1 < min k0 k1 → farS ⟨k0, d0, z0⟩ ⟨k1, d1, z1⟩ (j + 1) = ⟨(j : Int) + 1, dj, Lj⟩ from fun h => by rw [far_keep h, HJ.out])
          clear hmx hmy
          generalize e2 : (Sm.mk k1 d1 z1).at j = v2 at *
          have E2 := hide e2
          clear e2
          have hb3 := hB.size
          have hb4 := hbr.size
          have ne2 : w2.heap.size ≠ w.heap.size + 2 := by omega
          by_cases c2 : (j : Int) < k1
          · skip
            have dc2 : decide ((j : Int) < k1) = true := decide_eq_true c2
            have hv1 := hQ0 j c2
            by_cases c1 : (j : Int) < k0
            · skip
              have dc1 : decide ((j : Int) < k0) = true := decide_eq_true c1
              go_wp2_with fail
              refine (hQ j c2 g0).mono ?_
              rintro e w13 ⟨rfl, hb⟩
              dsimp only
              clear p0c0 p0c1 p0c2 p1c0 p1c1 p1c2 p2c0 p2c1 p2c2 poc0 poc1 poc2 p0l p1l p2l pol
              replace p0 := row_below p0 hb p0.lt
              replace p1 := row_below p1 hb p1.lt
              replace p2 := row_below p2 hb p2.lt
              replace po := row_below po hb po.lt
              replace g0 := g0.step hb
              replace g1 := g1.step hb
              replace ow := ownsRow_below ow hb
              replace hB := hB.trans (hb.mono hB.size)
              have p0c0 := p0.cell (i := 0) rfl
              have p0c1 := p0.cell (i := 1) rfl
              have p0c2 := p0.cell (i := 2) rfl
              have p0l := p0.lt
              have p1c0 := p1.cell (i := 0) rfl
              have p1c1 := p1.cell (i := 1) rfl
              have p1c2 := p1.cell (i := 2) rfl
              have p1l := p1.lt
              have p2c0 := p2.cell (i := 0) rfl
              have p2c1 := p2.cell (i := 1) rfl
              have p2c2 := p2.cell (i := 2) rfl
              have p2l := p2.lt
              have poc0 := po.cell (i := 0) rfl
              have poc1 := po.cell (i := 1) rfl
              have poc2 := po.cell (i := 2) rfl
              have pol := po.lt
              replace hbr := hbr.trans (hb.mono hbr.size)
              clear hb
              generalize e1 : (Sm.mk k0 d0 z0).at j = v1 at *
              have hM : mixS ⟨k0, d0, z0⟩ ⟨k1, d1, z1⟩ j = v2 + v1 := HMX.out _ _ rfl rfl c2
              have HM := hide hM
              clear hM e1
              by_cases e0 : (j : Int) = k0 - 1
              · skip
                have b0 : ((j : Int) == k0 - 1) = true := by rw [beq_iff_eq]; exact e0
                have HL := hide (show (j : Int) + 1 = min k0 k1 by omega)
                clear e0 c1 c2
                have pof0 := po.frozen 0
                have pof1 := po.frozen 1
                have pof2 := po.frozen 2
                by_cases hov : 1048576 < v2 + v1
                · skip
                  have HC := hide (HO6.out (by rw [HM.out]; exact hov))
                  have o1 : decide (1048576 < v2 + v1) = true := decide_eq_true hov
                  clear hov
                  have p2f0 := p2.frozen 0
                  have p2f1 := p2.frozen 1
                  have p2f2 := p2.frozen 2
                  go_wp2_with fail
                  have q1 := ((((p2.other (b := w2.heap.size) (by omega) 0 (.int .i64 ((j : Int) + 1))).other (b := w2.heap.size) (by omega) 1 (.int .i64 (v2 + v1))).set 0 (.int .i64 0)).set 1 (.int .i64 0)).set 2 (.slice none 0 0)
                  have vr0 := q1.cell (i := 0) (v := .int .i64 0) rfl
                  have vr1 := q1.cell (i := 1) (v := .int .i64 0) rfl
                  have vr2 := q1.cell (i := 2) (v := .slice none 0 0) rfl
                  refine bodyPost_ret (v := .tuple #[.agg #[.int .i64 0, .int .i64 0, .slice none 0 0], .int .i64 6]) (by simp [results, Try.results15, go_sem, vr0, vr1, vr2]) rfl ⟨.inl ⟨by rw [HC.out]; decide, by rw [HC.out]⟩, ?_⟩
                  exact (((((hB.setCell (p := ⟨w2.heap.size, 0, none⟩) (by dsimp only; omega) (.int .i64 ((j : Int) + 1))).setCell (p := ⟨w2.heap.size, 1, none⟩) (by dsimp only; omega) (.int .i64 (v2 + v1))).setCell (p := ⟨w.heap.size + 2, 0, none⟩) (by simp) _).setCell (p := ⟨w.heap.size + 2, 1, none⟩) (by simp) _).setCell (p := ⟨w.heap.size + 2, 2, none⟩) (by simp) _)
                · skip
                  have o1 : decide (1048576 < v2 + v1) = false := decide_eq_false hov
                  have hov2 : v2 + v1 ≤ 1048576 := by omega
                  clear hov
                  go_wp2_with fail
                  refine ⟨⟨j + 1, (j : Int) + 1, v2 + v1, Lj, av, cv, by omega, by go_num, hide (HJ1.out _ HM.out HL.out), ((hbr.setCell (p := ⟨w2.heap.size, 0, none⟩) (by dsimp only; omega) (.int .i64 ((j : Int) + 1))).setCell (p := ⟨w2.heap.size, 1, none⟩) (by dsimp only; omega) (.int .i64 (v2 + v1))), ((po.set 0 (.int .i64 ((j : Int) + 1))).set 1 (.int .i64 (v2 + v1))), (ownsRow_setCell_below (ownsRow_setCell_below ow (a := ⟨w2.heap.size, 0, none⟩) (by dsimp only; omega) (.int .i64 ((j : Int) + 1))) (a := ⟨w2.heap.size, 1, none⟩) (by dsimp only; omega) (.int .i64 (v2 + v1))), hide fun m hm => ?_⟩, by simp [intOf]; omega⟩
                  by_cases e : m = j
                  · subst e; rw [HM.out]; omega
                  · exact HSo.out m (by omega)
              · skip
                have b0 : ((j : Int) == k0 - 1) = false := by rw [beq_eq_false_iff_ne]; exact e0
                by_cases e1 : (j : Int) = k1 - 1
                · skip
                  have b1 : ((j : Int) == k1 - 1) = true := by rw [beq_iff_eq]; exact e1
                  have HL := hide (show (j : Int) + 1 = min k0 k1 by omega)
                  clear e0 e1 c1 c2
                  have pof0 := po.frozen 0
                  have pof1 := po.frozen 1
                  have pof2 := po.frozen 2
                  by_cases hov : 1048576 < v2 + v1
                  · skip
                    have HC := hide (HO6.out (by rw [HM.out]; exact hov))
                    have o1 : decide (1048576 < v2 + v1) = true := decide_eq_true hov
                    clear hov
                    have p2f0 := p2.frozen 0
                    have p2f1 := p2.frozen 1
                    have p2f2 := p2.frozen 2
                    go_wp2_with fail
                    have q1 := ((((p2.other (b := w2.heap.size) (by omega) 0 (.int .i64 ((j : Int) + 1))).other (b := w2.heap.size) (by omega) 1 (.int .i64 (v2 + v1))).set 0 (.int .i64 0)).set 1 (.int .i64 0)).set 2 (.slice none 0 0)
                    have vr0 := q1.cell (i := 0) (v := .int .i64 0) rfl
                    have vr1 := q1.cell (i := 1) (v := .int .i64 0) rfl
                    have vr2 := q1.cell (i := 2) (v := .slice none 0 0) rfl
                    refine bodyPost_ret (v := .tuple #[.agg #[.int .i64 0, .int .i64 0, .slice none 0 0], .int .i64 6]) (by simp [results, Try.results15, go_sem, vr0, vr1, vr2]) rfl ⟨.inl ⟨by rw [HC.out]; decide, by rw [HC.out]⟩, ?_⟩
                    exact (((((hB.setCell (p := ⟨w2.heap.size, 0, none⟩) (by dsimp only; omega) (.int .i64 ((j : Int) + 1))).setCell (p := ⟨w2.heap.size, 1, none⟩) (by dsimp only; omega) (.int .i64 (v2 + v1))).setCell (p := ⟨w.heap.size + 2, 0, none⟩) (by simp) _).setCell (p := ⟨w.heap.size + 2, 1, none⟩) (by simp) _).setCell (p := ⟨w.heap.size + 2, 2, none⟩) (by simp) _)
                  · skip
                    have o1 : decide (1048576 < v2 + v1) = false := decide_eq_false hov
                    have hov2 : v2 + v1 ≤ 1048576 := by omega
                    clear hov
                    go_wp2_with fail
                    refine ⟨⟨j + 1, (j : Int) + 1, v2 + v1, Lj, av, cv, by omega, by go_num, hide (HJ1.out _ HM.out HL.out), ((hbr.setCell (p := ⟨w2.heap.size, 0, none⟩) (by dsimp only; omega) (.int .i64 ((j : Int) + 1))).setCell (p := ⟨w2.heap.size, 1, none⟩) (by dsimp only; omega) (.int .i64 (v2 + v1))), ((po.set 0 (.int .i64 ((j : Int) + 1))).set 1 (.int .i64 (v2 + v1))), (ownsRow_setCell_below (ownsRow_setCell_below ow (a := ⟨w2.heap.size, 0, none⟩) (by dsimp only; omega) (.int .i64 ((j : Int) + 1))) (a := ⟨w2.heap.size, 1, none⟩) (by dsimp only; omega) (.int .i64 (v2 + v1))), hide fun m hm => ?_⟩, by simp [intOf]; omega⟩
                    by_cases e : m = j
                    · subst e; rw [HM.out]; omega
                    · exact HSo.out m (by omega)
                · skip
                  have b1 : ((j : Int) == k1 - 1) = false := by rw [beq_eq_false_iff_ne]; exact e1
                  have HL := hide (show (j : Int) + 1 < min k0 k1 by omega)
                  clear e0 e1 c1 c2
                  have pof0 := po.frozen 0
                  have pof1 := po.frozen 1
                  have pof2 := po.frozen 2
                  by_cases hov : 1048576 < v2 + v1
                  · skip
                    have HC := hide (HO6.out (by rw [HM.out]; exact hov))
                    have o1 : decide (1048576 < v2 + v1) = true := decide_eq_true hov
                    clear hov
                    have p2f0 := p2.frozen 0
                    have p2f1 := p2.frozen 1
                    have p2f2 := p2.frozen 2
                    go_wp2_with fail
                    have q1 := (((p2.other (b := w2.heap.size) (by omega) 0 (.int .i64 ((j : Int) + 1))).set 0 (.int .i64 0)).set 1 (.int .i64 0)).set 2 (.slice none 0 0)
                    have vr0 := q1.cell (i := 0) (v := .int .i64 0) rfl
                    have vr1 := q1.cell (i := 1) (v := .int .i64 0) rfl
                    have vr2 := q1.cell (i := 2) (v := .slice none 0 0) rfl
                    refine bodyPost_ret (v := .tuple #[.agg #[.int .i64 0, .int .i64 0, .slice none 0 0], .int .i64 6]) (by simp [results, Try.results15, go_sem, vr0, vr1, vr2]) rfl ⟨.inl ⟨by rw [HC.out]; decide, by rw [HC.out]⟩, ?_⟩
                    exact ((((hB.setCell (p := ⟨w2.heap.size, 0, none⟩) (by dsimp only; omega) (.int .i64 ((j : Int) + 1))).setCell (p := ⟨w.heap.size + 2, 0, none⟩) (by simp) _).setCell (p := ⟨w.heap.size + 2, 1, none⟩) (by simp) _).setCell (p := ⟨w.heap.size + 2, 2, none⟩) (by simp) _)
                  · skip
                    have o1 : decide (1048576 < v2 + v1) = false := decide_eq_false hov
                    have hov2 : v2 + v1 ≤ 1048576 := by omega
                    clear hov
                    go_wp2_with fail
                    refine ⟨⟨j + 1, (j : Int) + 1, dj, Lj, av, cv, by omega, by go_num, hide (HJ0.out HL.out), (hbr.setCell (p := ⟨w2.heap.size, 0, none⟩) (by dsimp only; omega) (.int .i64 ((j : Int) + 1))), (po.set 0 (.int .i64 ((j : Int) + 1))), (ownsRow_setCell_below ow (a := ⟨w2.heap.size, 0, none⟩) (by dsimp only; omega) (.int .i64 ((j : Int) + 1))), hide fun m hm => ?_⟩, by simp [intOf]; omega⟩
                    by_cases e : m = j
                    · subst e; rw [HM.out]; omega
                    · exact HSo.out m (by omega)
            · skip
              have dc1 : decide ((j : Int) < k0) = false := decide_eq_false c1
              go_wp2_with fail
              refine (hQ j c2 g0).mono ?_
              rintro e w13 ⟨rfl, hb⟩
              dsimp only
              clear p0c0 p0c1 p0c2 p1c0 p1c1 p1c2 p2c0 p2c1 p2c2 poc0 poc1 poc2 p0l p1l p2l pol
              replace p0 := row_below p0 hb p0.lt
              replace p1 := row_below p1 hb p1.lt
              replace p2 := row_below p2 hb p2.lt
              replace po := row_below po hb po.lt
              replace g0 := g0.step hb
              replace g1 := g1.step hb
              replace ow := ownsRow_below ow hb
              replace hB := hB.trans (hb.mono hB.size)
              have p0c0 := p0.cell (i := 0) rfl
              have p0c1 := p0.cell (i := 1) rfl
              have p0c2 := p0.cell (i := 2) rfl
              have p0l := p0.lt
              have p1c0 := p1.cell (i := 0) rfl
              have p1c1 := p1.cell (i := 1) rfl
              have p1c2 := p1.cell (i := 2) rfl
              have p1l := p1.lt
              have p2c0 := p2.cell (i := 0) rfl
              have p2c1 := p2.cell (i := 1) rfl
              have p2c2 := p2.cell (i := 2) rfl
              have p2l := p2.lt
              have poc0 := po.cell (i := 0) rfl
              have poc1 := po.cell (i := 1) rfl
              have poc2 := po.cell (i := 2) rfl
              have pol := po.lt
              replace hbr := hbr.trans (hb.mono hbr.size)
              clear hb
              generalize e1 : (Sm.mk k0 d0 z0).at j = v1 at *
              have hM : mixS ⟨k0, d0, z0⟩ ⟨k1, d1, z1⟩ j = v2 + v1 := HMX.out _ _ rfl rfl c2
              have HM := hide hM
              have HL := hide (show min k0 k1 ≤ (j : Int) by omega)
              clear hM e1 c1 c2
              have hsz : w2.heap.size + 1 ≤ w13.heap.size := by have := po.lt; omega
              go_wp2_with (at_builtin; refine wpList_append_own _ rfl _ _ 22 rfl (w2.heap.size + 1) 3 i0 (.int .i64 0) 1 8 Try.underlying22 hi hz0 hz1 hz2 rfl (by decide) _ _ _ rfl (ow.alloc _) ⟨w13.heap.size, 0, none⟩ 1 1 [.int .i64 (v2 + v1)] rfl rfl (cell_one_new _ _ _) (fun u hu => by simp at hu; subst hu; rfl) (by unfold maxLen; omega) (by omega) (by simp; omega) ?_)
              intro v' w7 own7 hg7 _
              obtain ⟨g', cap', rfl⟩ := ownsRow_succ own7
              have al := hbr.alloc (by omega) (.cells #[.int .i64 (v2 + v1)] 3)
              have alB := hB.alloc (by omega) (.cells #[.int .i64 (v2 + v1)] 3)
              have nb : ∀ q, (Value.slice av Lj.length cv).ownBlock = some q → w2.heap.size + 1 ≤ q := fun q eq => by
                apply Nat.le_of_not_lt; intro hql
                exact ownBlock_ge ow (b := q) hql eq.symm
              have al7 := al.grown hg7 (by simp; omega) fun q eq => by have := nb q eq; omega
              have alB7 := alB.grown hg7 (by simp; omega) fun q eq => by have := nb q eq; omega
              have po7 := (po.alloc (.cells #[.int .i64 (v2 + v1)] 3)).kept hg7 (fun h => by have := nb _ h.symm; omega)
              have p27 := (p2.alloc (.cells #[.int .i64 (v2 + v1)] 3)).kept hg7 (fun h => by have := nb _ h.symm; omega)
              clear p0c0 p0c1 p0c2 p1c0 p1c1 p1c2 p2c0 p2c1 p2c2 poc0 poc1 poc2 p0l p1l p2l pol
              replace hbr := al7
              replace hB := alB7
              replace po := po7
              replace p2 := p27
              replace ow := own7
              have hb8 : w2.heap.size + 1 ≤ w7.heap.size := po.lt
              have hb9 := hB.size
              have poc0 := po.cell (i := 0) rfl
              have poc1 := po.cell (i := 1) rfl
              have poc2 := po.cell (i := 2) rfl
              have pol := po.lt
              have p2c0 := p2.cell (i := 0) rfl
              have p2c1 := p2.cell (i := 1) rfl
              have p2c2 := p2.cell (i := 2) rfl
              have p2l := p2.lt
              have pof0 := po.frozen 0
              have pof1 := po.frozen 1
              have pof2 := po.frozen 2
              by_cases hov : 1048576 < v2 + v1
              · skip
                have HC := hide (HO6.out (by rw [HM.out]; exact hov))
                have o1 : decide (1048576 < v2 + v1) = true := decide_eq_true hov
                clear hov
                have p2f0 := p2.frozen 0
                have p2f1 := p2.frozen 1
                have p2f2 := p2.frozen 2
                go_wp2_with fail
                have q1 := (((p2.other (b := w2.heap.size) (by omega) 2 (.slice (some ⟨g', 0, none⟩) (Lj.length + 1) cap')).set 0 (.int .i64 0)).set 1 (.int .i64 0)).set 2 (.slice none 0 0)
                have vr0 := q1.cell (i := 0) (v := .int .i64 0) rfl
                have vr1 := q1.cell (i := 1) (v := .int .i64 0) rfl
                have vr2 := q1.cell (i := 2) (v := .slice none 0 0) rfl
                refine bodyPost_ret (v := .tuple #[.agg #[.int .i64 0, .int .i64 0, .slice none 0 0], .int .i64 6]) (by simp [results, Try.results15, go_sem, vr0, vr1, vr2]) rfl ⟨.inl ⟨by rw [HC.out]; decide, by rw [HC.out]⟩, ?_⟩
                exact ((((hB.setCell (p := ⟨w2.heap.size, 2, none⟩) (by dsimp only; omega) (.slice (some ⟨g', 0, none⟩) (Lj.length + 1) cap')).setCell (p := ⟨w.heap.size + 2, 0, none⟩) (by simp) _).setCell (p := ⟨w.heap.size + 2, 1, none⟩) (by simp) _).setCell (p := ⟨w.heap.size + 2, 2, none⟩) (by simp) _)
              · skip
                have o1 : decide (1048576 < v2 + v1) = false := decide_eq_false hov
                have hov2 : v2 + v1 ≤ 1048576 := by omega
                clear hov
                go_wp2_with fail
                have hl1 : (Lj ++ [v2 + v1]).length = Lj.length + 1 := by rw [List.length_append]; rfl
                refine ⟨⟨j + 1, kj, dj, Lj ++ [v2 + v1], some ⟨g', 0, none⟩, cap', by omega, by go_num, hide (HJ2.out _ HM.out HL.out), hbr.setCell (p := ⟨w2.heap.size, 2, none⟩) (by dsimp only; omega) _, by rw [hl1]; exact po.set 2 _, ?_, hide fun m hm => ?_⟩, by simp [intOf]; omega⟩
                · rw [hl1, zvals_snoc]
                  exact ownsRow_setCell_below ow (a := ⟨w2.heap.size, 2, none⟩) (by dsimp only; omega) _
                · by_cases e : m = j
                  · subst e; rw [HM.out]; omega
                  · exact HSo.out m (by omega)
          · skip
            have dc2 : decide ((j : Int) < k1) = false := decide_eq_false c2
            have HM := hide (HMY.out _ rfl c2)
            have HL := hide (show min k0 k1 ≤ (j : Int) by omega)
            clear c2
            have hsz : w2.heap.size + 1 ≤ w12.heap.size := by have := po.lt; omega
            go_wp2_with (at_builtin; refine wpList_append_own _ rfl _ _ 22 rfl (w2.heap.size + 1) 3 i0 (.int .i64 0) 1 8 Try.underlying22 hi hz0 hz1 hz2 rfl (by decide) _ _ _ rfl (ow.alloc _) ⟨w12.heap.size, 0, none⟩ 1 1 [.int .i64 (v2)] rfl rfl (cell_one_new _ _ _) (fun u hu => by simp at hu; subst hu; rfl) (by unfold maxLen; omega) (by omega) (by simp; omega) ?_)
            intro v' w7 own7 hg7 _
            obtain ⟨g', cap', rfl⟩ := ownsRow_succ own7
            have al := hbr.alloc (by omega) (.cells #[.int .i64 (v2)] 3)
            have alB := hB.alloc (by omega) (.cells #[.int .i64 (v2)] 3)
            have nb : ∀ q, (Value.slice av Lj.length cv).ownBlock = some q → w2.heap.size + 1 ≤ q := fun q eq => by
              apply Nat.le_of_not_lt; intro hql
              exact ownBlock_ge ow (b := q) hql eq.symm
            have al7 := al.grown hg7 (by simp; omega) fun q eq => by have := nb q eq; omega
            have alB7 := alB.grown hg7 (by simp; omega) fun q eq => by have := nb q eq; omega
            have po7 := (po.alloc (.cells #[.int .i64 (v2)] 3)).kept hg7 (fun h => by have := nb _ h.symm; omega)
            have p27 := (p2.alloc (.cells #[.int .i64 (v2)] 3)).kept hg7 (fun h => by have := nb _ h.symm; omega)
            clear p0c0 p0c1 p0c2 p1c0 p1c1 p1c2 p2c0 p2c1 p2c2 poc0 poc1 poc2 p0l p1l p2l pol
            replace hbr := al7
            replace hB := alB7
            replace po := po7
            replace p2 := p27
            replace ow := own7
            have hb8 : w2.heap.size + 1 ≤ w7.heap.size := po.lt
            have hb9 := hB.size
            have poc0 := po.cell (i := 0) rfl
            have poc1 := po.cell (i := 1) rfl
            have poc2 := po.cell (i := 2) rfl
            have pol := po.lt
            have p2c0 := p2.cell (i := 0) rfl
            have p2c1 := p2.cell (i := 1) rfl
            have p2c2 := p2.cell (i := 2) rfl
            have p2l := p2.lt
            have pof0 := po.frozen 0
            have pof1 := po.frozen 1
            have pof2 := po.frozen 2
            by_cases hov : 1048576 < v2
            · skip
              have HC := hide (HO6.out (by rw [HM.out]; exact hov))
              have o1 : decide (1048576 < v2) = true := decide_eq_true hov
              clear hov
              have p2f0 := p2.frozen 0
              have p2f1 := p2.frozen 1
              have p2f2 := p2.frozen 2
              go_wp2_with fail
              have q1 := (((p2.other (b := w2.heap.size) (by omega) 2 (.slice (some ⟨g', 0, none⟩) (Lj.length + 1) cap')).set 0 (.int .i64 0)).set 1 (.int .i64 0)).set 2 (.slice none 0 0)
              have vr0 := q1.cell (i := 0) (v := .int .i64 0) rfl
              have vr1 := q1.cell (i := 1) (v := .int .i64 0) rfl
              have vr2 := q1.cell (i := 2) (v := .slice none 0 0) rfl
              refine bodyPost_ret (v := .tuple #[.agg #[.int .i64 0, .int .i64 0, .slice none 0 0], .int .i64 6]) (by simp [results, Try.results15, go_sem, vr0, vr1, vr2]) rfl ⟨.inl ⟨by rw [HC.out]; decide, by rw [HC.out]⟩, ?_⟩
              exact ((((hB.setCell (p := ⟨w2.heap.size, 2, none⟩) (by dsimp only; omega) (.slice (some ⟨g', 0, none⟩) (Lj.length + 1) cap')).setCell (p := ⟨w.heap.size + 2, 0, none⟩) (by simp) _).setCell (p := ⟨w.heap.size + 2, 1, none⟩) (by simp) _).setCell (p := ⟨w.heap.size + 2, 2, none⟩) (by simp) _)
            · skip
              have o1 : decide (1048576 < v2) = false := decide_eq_false hov
              have hov2 : v2 ≤ 1048576 := by omega
              clear hov
              go_wp2_with fail
              have hl1 : (Lj ++ [v2]).length = Lj.length + 1 := by rw [List.length_append]; rfl
              refine ⟨⟨j + 1, kj, dj, Lj ++ [v2], some ⟨g', 0, none⟩, cap', by omega, by go_num, hide (HJ2.out _ HM.out HL.out), hbr.setCell (p := ⟨w2.heap.size, 2, none⟩) (by dsimp only; omega) _, by rw [hl1]; exact po.set 2 _, ?_, hide fun m hm => ?_⟩, by simp [intOf]; omega⟩
              · rw [hl1, zvals_snoc]
                exact ownsRow_setCell_below ow (a := ⟨w2.heap.size, 2, none⟩) (by dsimp only; omega) _
              · by_cases e : m = j
                · subst e; rw [HM.out]; omega
                · exact HSo.out m (by omega)
        · skip
          obtain rfl : j = (Sm.mk k1 d1 z1).out := by omega
          have HC := hide (good_then H1.out H2.out HSo.out)
          have HE := hide (far_end ⟨k0, d0, z0⟩ ⟨k1, d1, z1⟩ rk)
          have hq : (⟨kj, dj, Lj⟩ : Sm) = thenS ⟨k0, d0, z0⟩ ⟨k1, d1, z1⟩ := by rw [← HJ.out]; exact HE.out
          have HQ' := hide hq
          clear hq hlt
          go_wp2_with fail
          refine (hmr _).mono ?_
          rintro e w11 ⟨rfl, hb⟩
          dsimp only
          clear p0c0 p0c1 p0c2 p1c0 p1c1 p1c2 p2c0 p2c1 p2c2 poc0 poc1 poc2 p0l p1l p2l pol
          replace p0 := row_below p0 hb p0.lt
          replace p1 := row_below p1 hb p1.lt
          replace p2 := row_below p2 hb p2.lt
          replace po := row_below po hb po.lt
          replace g0 := g0.step hb
          replace g1 := g1.step hb
          replace ow := ownsRow_below ow hb
          replace hB := hB.trans (hb.mono hB.size)
          have p0c0 := p0.cell (i := 0) rfl
          have p0c1 := p0.cell (i := 1) rfl
          have p0c2 := p0.cell (i := 2) rfl
          have p0l := p0.lt
          have p1c0 := p1.cell (i := 0) rfl
          have p1c1 := p1.cell (i := 1) rfl
          have p1c2 := p1.cell (i := 2) rfl
          have p1l := p1.lt
          have p2c0 := p2.cell (i := 0) rfl
          have p2c1 := p2.cell (i := 1) rfl
          have p2c2 := p2.cell (i := 2) rfl
          have p2l := p2.lt
          have poc0 := po.cell (i := 0) rfl
          have poc1 := po.cell (i := 1) rfl
          have poc2 := po.cell (i := 2) rfl
          have pol := po.lt
          replace hbr := hbr.trans (hb.mono hbr.size)
          clear hb
          have p2f0 := p2.frozen 0
          have p2f1 := p2.frozen 1
          have p2f2 := p2.frozen 2
          go_wp2_with fail
          have q1 := ((p2.set 0 (.int .i64 kj)).set 1 (.int .i64 dj)).set 2 (.slice av Lj.length cv)
          have vr0 := q1.cell (i := 0) (v := .int .i64 kj) rfl
          have vr1 := q1.cell (i := 1) (v := .int .i64 dj) rfl
          have vr2 := q1.cell (i := 2) (v := .slice av Lj.length cv) rfl
          refine bodyPost_ret (v := .tuple #[.agg #[.int .i64 kj, .int .i64 dj, .slice av Lj.length cv], .int .i64 0]) (by simp [results, Try.results15, go_sem, vr0, vr1, vr2]) rfl ⟨.inr ⟨HC.out, ⟨kj, dj, Lj⟩, av, cv, HQ'.out, rfl, ?_⟩, ?_⟩
          · exact Go.Joins.ownsRow_le (ownsRow_setCell_below (ownsRow_setCell_below (ownsRow_setCell_below ow (a := ⟨w.heap.size + 2, 0, none⟩) (by dsimp only; omega) (.int .i64 kj)) (a := ⟨w.heap.size + 2, 1, none⟩) (by dsimp only; omega) (.int .i64 dj)) (a := ⟨w.heap.size + 2, 2, none⟩) (by dsimp only; omega) (.slice av Lj.length cv)) (by omega)
          · exact (((hB.setCell (p := ⟨w.heap.size + 2, 0, none⟩) (by simp) _).setCell (p := ⟨w.heap.size + 2, 1, none⟩) (by simp) _).setCell (p := ⟨w.heap.size + 2, 2, none⟩) (by simp) _)
    · skip
      have HC := hide (codeN_r H1.out hc2)
      have HN := hide hc2
      have n1 : (codeS ⟨k1, d1, z1⟩ ((Sm.mk k0 d0 z0).out : Int) != 0) = true := by rw [bne_iff_ne]; exact hc2
      clear hc2
      generalize codeS ⟨k1, d1, z1⟩ ((Sm.mk k0 d0 z0).out : Int) = c at *
      go_wp2_with fail
      obtain ⟨p0q0, p0q1, p0q2⟩ := p0.re
      obtain ⟨p1q0, p1q1, p1q2⟩ := p1.re
      obtain ⟨p2q0, p2q1, p2q2⟩ := p2.re
      have q0 := regr (W := w1) (fun V hV => hmo V)
      have q1 := regr (W := w1) (fun V hV => rC1 (g1.step hV))
      refine wp_region_quiet_below (by kernel_rfl) (by kernel_rfl) ?_
      repeat (go_big_quiet_step (first | with_reducible exact q0 _ _ | with_reducible exact q1 _ _))
      refine wpQuiet_nil ?_
      intro _ hw'
      obtain ⟨⟨dq, osq⟩, hw''⟩ := hw'
      subst hw''
      replace hB := hB.trans ((below_regrown w1 dq osq).mono hB.size)
      obtain ⟨w2, hw2⟩ : ∃ V, Go.Sort.grow (redrawn w1 dq) osq = V := ⟨_, rfl⟩
      have hb : Below w1.heap.size w1 w2 := hw2 ▸ below_regrown w1 dq osq
      dsimp only
      rw [hw2] at hB ⊢
      clear hw2
      clear p0c0 p0c1 p0c2 p1c0 p1c1 p1c2 p2c0 p2c1 p2c2 p0l p1l p2l
      clear p0q0 p0q1 p0q2 p1q0 p1q1 p1q2 p2q0 p2q1 p2q2 q0 q1
      replace p0 := row_below p0 hb p0.lt
      replace p1 := row_below p1 hb p1.lt
      replace p2 := row_below p2 hb p2.lt
      replace g1 := g1.step hb
      clear hb g0
      have p0c0 := p0.cell (i := 0) rfl
      have p0c1 := p0.cell (i := 1) rfl
      have p0c2 := p0.cell (i := 2) rfl
      have p0l := p0.lt
      have p1c0 := p1.cell (i := 0) rfl
      have p1c1 := p1.cell (i := 1) rfl
      have p1c2 := p1.cell (i := 2) rfl
      have p1l := p1.lt
      have p2c0 := p2.cell (i := 0) rfl
      have p2c1 := p2.cell (i := 1) rfl
      have p2c2 := p2.cell (i := 2) rfl
      have p2l := p2.lt
      have hmx : Try.prog.follows .mixedOrders = true := by kernel_rfl
      go_wp2_with fail
      first | go_region_with (first
        | (go_at_call 28; refine (hmo _).mono ?_; rintro e wa ⟨rfl, hba⟩; have hba' : Below w2.heap.size w2 wa := (Below.refl w2.heap.size w2).drew.trans hba; have ga := g1.step hba'; have pa1 := row_below p1 hba' p1l; have pa2 := row_below p2 hba' p2l; have pal := pa2.lt; have y0 := pa1.cell (i := 0) rfl; have y1 := pa1.cell (i := 1) rfl; have y2 := pa1.cell (i := 2) rfl)
        | (go_at_call 12; refine (rC1 ga).mono ?_; rintro e wb ⟨rfl, hbb⟩; have pb2 := row_below pa2 hbb pal; have m0 := pb2.cell (i := 0) rfl; have m1 := pb2.cell (i := 1) rfl; have m2 := pb2.cell (i := 2) rfl; have f0 := pb2.frozen 0; have f1 := pb2.frozen 1; have f2 := pb2.frozen 2)) | fail
      all_goals
        have hBb : Below w.heap.size w wb := (hB.trans (hba'.mono hB.size)).trans (hbb.mono (hB.trans (hba'.mono hB.size)).size)
        go_wp2
        have q1 := ((pb2.set 0 (.int .i64 0)).set 1 (.int .i64 0)).set 2 (.slice none 0 0)
        have vr0 := q1.cell (i := 0) (v := .int .i64 0) rfl
        have vr1 := q1.cell (i := 1) (v := .int .i64 0) rfl
        have vr2 := q1.cell (i := 2) (v := .slice none 0 0) rfl
        refine bodyPost_ret (v := .tuple #[.agg #[.int .i64 0, .int .i64 0, .slice none 0 0], .int .i64 c]) (by simp [results, Try.results15, go_sem, vr0, vr1, vr2]) rfl ⟨.inl ⟨by rw [HC.out]; exact HN.out, by rw [HC.out]⟩, ?_⟩
        exact (((hBb.setCell (p := ⟨w.heap.size + 2, 0, none⟩) (by simp) _).setCell (p := ⟨w.heap.size + 2, 1, none⟩) (by simp) _).setCell (p := ⟨w.heap.size + 2, 2, none⟩) (by simp) _)
  · skip
    have HC := hide (codeN_s (r := ⟨k1, d1, z1⟩) hc)
    have HN := hide hc
    have n1 : (codeS ⟨k0, d0, z0⟩ 4 != 0) = true := by rw [bne_iff_ne]; exact hc
    clear hc
    generalize codeS ⟨k0, d0, z0⟩ 4 = c at *
    have p0c0 := p0.cell (i := 0) rfl
    have p0c1 := p0.cell (i := 1) rfl
    have p0c2 := p0.cell (i := 2) rfl
    have p0l := p0.lt
    have p1c0 := p1.cell (i := 0) rfl
    have p1c1 := p1.cell (i := 1) rfl
    have p1c2 := p1.cell (i := 2) rfl
    have p1l := p1.lt
    have p2c0 := p2.cell (i := 0) rfl
    have p2c1 := p2.cell (i := 1) rfl
    have p2c2 := p2.cell (i := 2) rfl
    have p2l := p2.lt
    go_enter Try.func15, Try.ntmps15
    go_wp2_with fail
    refine (rC0 g0).mono ?_
    rintro e w1 ⟨rfl, hb⟩
    dsimp only
    clear p0c0 p0c1 p0c2 p1c0 p1c1 p1c2 p2c0 p2c1 p2c2 p0l p1l p2l
    replace p0 := row_below p0 hb p0.lt
    replace p1 := row_below p1 hb p1.lt
    replace p2 := row_below p2 hb p2.lt
    replace g0 := g0.step hb
    replace g1 := g1.step hb
    replace hB := hB.trans (hb.mono hB.size)
    have p0c0 := p0.cell (i := 0) rfl
    have p0c1 := p0.cell (i := 1) rfl
    have p0c2 := p0.cell (i := 2) rfl
    have p0l := p0.lt
    have p1c0 := p1.cell (i := 0) rfl
    have p1c1 := p1.cell (i := 1) rfl
    have p1c2 := p1.cell (i := 2) rfl
    have p1l := p1.lt
    have p2c0 := p2.cell (i := 0) rfl
    have p2c1 := p2.cell (i := 1) rfl
    have p2c2 := p2.cell (i := 2) rfl
    have p2l := p2.lt
    clear hb
    go_wp2_with fail
    refine (rC0 g0).mono ?_
    rintro e w2 ⟨rfl, hb⟩
    dsimp only
    clear p0c0 p0c1 p0c2 p1c0 p1c1 p1c2 p2c0 p2c1 p2c2 p0l p1l p2l
    replace p0 := row_below p0 hb p0.lt
    replace p1 := row_below p1 hb p1.lt
    replace p2 := row_below p2 hb p2.lt
    replace g0 := g0.step hb
    replace g1 := g1.step hb
    replace hB := hB.trans (hb.mono hB.size)
    have p0c0 := p0.cell (i := 0) rfl
    have p0c1 := p0.cell (i := 1) rfl
    have p0c2 := p0.cell (i := 2) rfl
    have p0l := p0.lt
    have p1c0 := p1.cell (i := 0) rfl
    have p1c1 := p1.cell (i := 1) rfl
    have p1c2 := p1.cell (i := 2) rfl
    have p1l := p1.lt
    have p2c0 := p2.cell (i := 0) rfl
    have p2c1 := p2.cell (i := 1) rfl
    have p2c2 := p2.cell (i := 2) rfl
    have p2l := p2.lt
    clear hb
    have p2f0 := p2.frozen 0
    have p2f1 := p2.frozen 1
    have p2f2 := p2.frozen 2
    go_wp2_with fail
    have q1 := ((p2.set 0 (.int .i64 0)).set 1 (.int .i64 0)).set 2 (.slice none 0 0)
    have vr0 := q1.cell (i := 0) (v := .int .i64 0) rfl
    have vr1 := q1.cell (i := 1) (v := .int .i64 0) rfl
    have vr2 := q1.cell (i := 2) (v := .slice none 0 0) rfl
    refine bodyPost_ret (v := .tuple #[.agg #[.int .i64 0, .int .i64 0, .slice none 0 0], .int .i64 c]) (by simp [results, Try.results15, go_sem, vr0, vr1, vr2]) rfl ⟨.inl ⟨by rw [HC.out]; exact HN.out, by rw [HC.out]⟩, ?_⟩
    exact (((hB.setCell (p := ⟨w.heap.size + 2, 0, none⟩) (by simp) _).setCell (p := ⟨w.heap.size + 2, 1, none⟩) (by simp) _).setCell (p := ⟨w.heap.size + 2, 2, none⟩) (by simp) _)
end Go.Proofs.Ytfigdkikkociaaa
