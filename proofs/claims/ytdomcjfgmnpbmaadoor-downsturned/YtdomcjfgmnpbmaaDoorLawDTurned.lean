/- The walk of the law DownsTurned: it answers true, and writes nothing that was there. -/
import Derived.Test.YtdomcjfgmnpbmaaDoorCountAny
import Derived.Test.YtdomcjfgmnpbmaaDoorTurnPlain
import Derived.Test.YtdomcjfgmnpbmaaDoorSound
import Derived.Test.YtdomcjfgmnpbmaaDoorRefused
import Derived.StillTactics
import Derived.Lib.QuietBelow
import Derived.BigQuiet
namespace Go.Proofs.YtdomcjfgmnpbmaaDoor
open Go.RowKit Go.Shelf

set_option maxRecDepth 100000 in
set_option maxHeartbeats 1000000 in
theorem dturn_bad (n : Int) (a : Option Addr) (cap : Nat) (us : List Nat) (n₀ : Nat) (w : World) (hR : Ready a us n₀ w) (hc : codeOf n us ≠ 0) :
    Calls Tryd.prog 7 #[.agg #[.int .i64 n, .slice a us.length cap]] w fun e w' => e = .returned (.bool true) ∧ Below w.heap.size w w' := by
  obtain ⟨r0, hb0, hs0⟩ := one_row w 24 (.int .i64 n) (.slice a us.length cap) rfl
  have R1 := hR.step hb0
  have hso := sound_any n a cap us n₀ R1.fit _ R1.wds R1.le
  have h1 : (codeOf n us == 0) = false := by rw [beq_eq_false_iff_ne]; exact hc
  have h2 : (codeOf n us != 0) = true := by rw [bne_iff_ne]; exact hc
  rw [h1] at hso
  have c00 := r0.cell (i := 0) rfl
  have c01 := r0.cell (i := 1) rfl
  go_enter Tryd.func7, Tryd.ntmps7
  go_wp2_with fail
  refine hso.mono ?_
  rintro e w1 ⟨rfl, hb1⟩
  have q0 := row_below r0 hb1 r0.lt
  have hs1 := hb1.size
  have R2 := R1.step hb1
  have hre := refused_any n a cap us n₀ R2.fit w1 R2.tab R2.wds R2.glo R2.le
  rw [h2] at hre
  have d00 := q0.cell (i := 0) rfl
  have d01 := q0.cell (i := 1) rfl
  have HB := hide (hb0.trans (hb1.mono (by omega)))
  clear hso c00 c01 hb0 hb1 h1 h2 hc
  go_wp2_with (go_at_call 18; refine hre.mono ?_; rintro e w2 ⟨rfl, hb2⟩)
  go_ret
  exact ⟨rfl, HB.out.trans (hb2.mono (by have := HB.out.size; omega))⟩

set_option maxRecDepth 100000 in
set_option maxHeartbeats 2000000 in
theorem dturn_ok (a : Option Addr) (cap : Nat) (us : List Nat) (n₀ : Nat) (w : World) (hR : Ready a us n₀ w) (hc : codeOf us.length us = 0) :
    Calls Tryd.prog 7 #[.agg #[.int .i64 us.length, .slice a us.length cap]] w fun e w' => e = .returned (.bool true) ∧ Below w.heap.size w w' := by
  obtain ⟨r0, hb0, hs0⟩ := one_row w 24 (.int .i64 us.length) (.slice a us.length cap) rfl
  obtain ⟨_, h16, _, hin, hord⟩ := code_zero hc
  have hl16 : us.length ≤ 16 := by omega
  have R1 := hR.step hb0
  have hso := sound_any us.length a cap us n₀ R1.fit _ R1.wds R1.le
  rw [show (codeOf us.length us == 0) = true by rw [hc]; rfl] at hso
  have d1 := fun W (hW : Ready a us n₀ W) => Dual_ok us.length a cap us n₀ hW.fit W hW.tab hW.wds hW.glo hW.le hc
  have d2 := fun W (hW : Ready a us n₀ W) => Count_ok a cap us n₀ W hW hc
  have d3 := fun W (hW : Ready a us n₀ W) => All_ok a cap us n₀ W hW hc
  have HC := hide hc
  have HI := hide hin
  have HO := hide hord
  have hf := hR.fit
  have Hb := hide hb0
  clear hb0 hc hin hord
  go_enter Tryd.func7, Tryd.ntmps7
  go_wp2_with fail
  refine hso.mono ?_
  rintro e w1 ⟨rfl, hb1⟩
  have hs1 := hb1.size
  have R2 := R1.step hb1
  have q0 := row_below r0 hb1 r0.lt
  have j0 := q0.cell (i := 0) rfl
  have j1 := q0.cell (i := 1) rfl
  clear hso
  go_wp2_with fail
  refine (d1 w1 R2).mono ?_
  rintro e w2 ⟨g, ds, rfl, hb2, hg1, rD, hT⟩
  have hs2 := hb2.size
  have hlD := hT.len
  have R3 := R2.step hb2
  have q1 := row_below q0 hb2 q0.lt
  obtain ⟨rd, hb3, hs3⟩ := one_row w2 24 (.int .i64 us.length) (.slice (some ⟨g, 0, none⟩) us.length us.length) rfl
  have q2 := row_below q1 hb3 q1.lt
  have R4 := R3.step hb3
  have ltg := rD.lt
  have RD : Ready (some ⟨g, 0, none⟩) ds (w2.heap.size + 1) (w2.alloc (.cells #[.int .i64 us.length, .slice (some ⟨g, 0, none⟩) us.length us.length] 24)) :=
    ⟨hT.fit, R4.tab, (row_below rD hb3 ltg).words (by omega), by have := R4.glo; have := R3.le; omega, by omega⟩
  have HC2 : Hid (codeOf ds.length ds = 0) := by unfold Hid; rw [hlD]; exact tur_code HC.out hT
  have HT := hide hT
  have HB := hide ((((Hb.out.trans (hb1.mono (by omega))).trans (hb2.mono (by omega))).trans (hb3.mono (by omega))))
  have k0 := q2.cell (i := 0) rfl
  have k1 := q2.cell (i := 1) rfl
  clear j0 j1 hT d1
  go_wp2_with fail
  refine (d2 _ R4).mono ?_
  rintro e w4 ⟨ds2, rfl, hT2, hb4⟩
  obtain rfl : ds = ds2 := HT.out.unique hT2
  have hs4 := hb4.size
  have q3 := row_below q2 hb4 q2.lt
  have rd4 := row_below rd hb4 rd.lt
  have R5 := R4.step hb4
  have RD5 := RD.step hb4
  have hd := Count_ok (some ⟨g, 0, none⟩) us.length ds (w2.heap.size + 1) w4 RD5 HC2.out
  rw [hlD] at hd
  have l0 := q3.cell (i := 0) rfl
  have l1 := q3.cell (i := 1) rfl
  have m0 := rd4.cell (i := 0) rfl
  have m1 := rd4.cell (i := 1) rfl
  clear k0 k1 hT2 d2
  go_wp2_with fail
  refine hd.mono ?_
  rintro e w5 ⟨es, rfl, hTe, hb5⟩
  have hs5 := hb5.size
  have heq : (allD es).length = (allD ds).length := turned_len hl16 (Dn.of_tur HT.out) (Dn.of_tur (by rw [hlD]; exact hTe))
  rw [heq]
  have q4 := row_below q3 hb5 q3.lt
  have R6 := R5.step hb5
  have n0 := q4.cell (i := 0) rfl
  have n1 := q4.cell (i := 1) rfl
  clear l0 l1 m0 m1 hd hTe heq
  go_wp2_with fail
  refine (d3 w5 R6).mono ?_
  rintro e w6 ⟨ds3, hT3, hb6, hAns⟩
  obtain rfl : ds = ds3 := HT.out.unique hT3
  have hs6 := hb6.size
  have q5 := row_below q4 hb6 q4.lt
  have R7 := R6.step hb6
  have o0 := q5.cell (i := 0) rfl
  have o1 := q5.cell (i := 1) rfl
  have hmore := more_downs HI.out HO.out hf (Dn.of_tur HT.out)
  have hnle : decide ((allD ds).length ≤ us.length) = false := by rw [decide_eq_false_iff_not]; omega
  have hAL : (allD ds).length ≤ 65536 := allD_len (by omega)
  have HB6 := hide (((HB.out.trans (hb4.mono (by omega))).trans (hb5.mono (by omega))).trans (hb6.mono (by omega)))
  clear n0 n1 d3 hT3
  rcases hAns with ⟨hbig, rfl⟩ | ⟨hsm, v, rfl, hown⟩
  · go_wp2_with fail
    go_ret
    exact ⟨ret_bool (decide_eq_true (by omega)), HB6.out⟩
  · obtain ⟨av, cv, rfl, hwv⟩ := ownsRow_words hown
    have hLd : Hid (∀ i, i < (allD ds).length → IsDown us (wd (allD ds) i)) := fun i hi => (mem_allD (Dn.of_tur HT.out)).1 (wd_mem hi)
    have hLr : Hid (∀ i, i + 1 < (allD ds).length → wd (allD ds) i < wd (allD ds) (i + 1)) := fun i hi => wd_rise (rise_allD ds) hi
    clear hown
    generalize allD ds = L at *
    go_wp2_with fail
    go_loopw [10] (fun i wr => ∃ k : Nat, k ≤ L.length ∧ i = .int .i64 k ∧ Below w6.heap.size w6 wr) (fun i _ => L.length - (intOf i).toNat)
    case atStart => exact ⟨0, Nat.zero_le _, rfl, Below.refl _ _⟩
    case round =>
      obtain ⟨k, hk, rfl, hB⟩ := hrel
      by_cases hlt : k < L.length
      · have hdn := hLd.out k hlt
        have hs32 : wd L k < 4294967296 := Nat.lt_of_lt_of_le (only_lt hdn.1) (Nat.le_trans (Nat.pow_le_pow_right (by decide) hl16) (by decide))
        have hRr := R7.step hB
        have hcs := codeS_ok HC.out (outside_of hdn.1)
        have hdd := down_self HO.out hdn
        have cD : ∀ d os, Calls Tryd.prog 28 #[.agg #[.int .i64 us.length, .slice a us.length cap], .int .u32 (wd L k : Nat)] (Go.Sort.grow (redrawn wr d) os) fun e w'' => e = .returned (.tuple #[.int .u32 (wd L k : Nat), .int .i64 0]) ∧ ∃ p : Regrown, w'' = Go.Sort.grow (redrawn wr p.d) p.os := fun d os => by
          have h := downA (hRr.step (below_regrown wr d os)) cap hs32 hcs
          rw [hdd] at h
          unfold setAns at h
          exact Calls.regrown_of h
        have hsz := hB.size
        have q6 := row_below q5 hB q5.lt
        have c0 := cell_regrown (q6.cell (i := 0) rfl)
        have c1 := cell_regrown (q6.cell (i := 1) rfl)
        have hwr := hwv.below hB
        obtain ⟨b, off, rfl, hb, hcL⟩ := hwr.at hlt
        have cK := cell_regrown (hcL k hlt)
        clear o0 o1 hdn hcL hdd hcs
        rcases Nat.eq_zero_or_pos k with hk0 | hpos
        · have hgt : decide (0 < ((k : Nat) : Int)) = false := by rw [decide_eq_false_iff_not]; omega
          have hgt' : decide (0 < k) = false := by rw [decide_eq_false_iff_not]; omega
          have HK0 := hide hk0
          clear hk0
          go_wp2_with fail
          refine wp_region_quiet_below (by kernel_rfl) (by kernel_rfl) ?_
          repeat (go_big_quiet_step (exact cD _ _))
          refine wpQuiet_nil ?_
          intro _ hw'
          obtain ⟨⟨dq, osq⟩, hw''⟩ := hw'
          subst hw''
          have hb8 := below_regrown wr dq osq
          obtain ⟨V, hV⟩ : ∃ V, Go.Sort.grow (redrawn wr dq) osq = V := ⟨_, rfl⟩
          rw [hV] at hb8 ⊢
          clear hV cD c0 c1 cK
          have hwV := hwr.below (hb8.mono hsz)
          obtain ⟨b2, off2, e2, _, hcV⟩ := hwV.at hlt
          cases e2
          have cV := hcV k hlt
          clear hcV
          go_wp2_with fail
          refine wp_region_still_lit (by kernel_rfl) (by kernel_rfl) ?_
          repeat (first | (refine no_implicit_lambda% (wpStill_step ?_); intro K hK; go_simp; refine hK _ ?_; clear hK K))
          refine no_implicit_lambda% (wpStill_nil ?_)
          go_wp2_with fail
          exact ⟨⟨k + 1, by omega, by go_num, hB.trans (hb8.mono hsz).drew⟩, by simp [intOf]; omega⟩
        · obtain ⟨k', hk'⟩ : ∃ k', k = k' + 1 := ⟨k - 1, by omega⟩
          have hri := hLr.out k' (by omega)
          rw [← hk'] at hri
          have hsub : ((k : Nat) : Int) - 1 = (k' : Nat) := by omega
          have hwrap : IntKind.i64.wrap ((k : Nat) - 1) = ((k' : Nat) : Int) := by rw [IntWalk.i64_in _ (by omega)]; omega
          clear hsub
          have hkl : k' < L.length := by omega
          have hge : decide (((wd L k : Nat) : Int) ≤ ((wd L k' : Nat) : Int)) = false := by rw [decide_eq_false_iff_not]; omega
          have hge' : decide (wd L k ≤ wd L k') = false := by rw [decide_eq_false_iff_not]; omega
          clear hk'
          go_wp2_with fail
          refine wp_region_quiet_below (by kernel_rfl) (by kernel_rfl) ?_
          repeat (go_big_quiet_step (exact cD _ _))
          refine wpQuiet_nil ?_
          intro _ hw'
          obtain ⟨⟨dq, osq⟩, hw''⟩ := hw'
          subst hw''
          have hb8 := below_regrown wr dq osq
          obtain ⟨V, hV⟩ : ∃ V, Go.Sort.grow (redrawn wr dq) osq = V := ⟨_, rfl⟩
          rw [hV] at hb8 ⊢
          clear hV cD c0 c1 cK
          have hwV := hwr.below (hb8.mono hsz)
          obtain ⟨b2, off2, e2, _, hcV⟩ := hwV.at hlt
          cases e2
          have cV := hcV k hlt
          have cW := hcV k' hkl
          clear hcV
          go_wp2_with fail
          refine wp_region_still_lit (by kernel_rfl) (by kernel_rfl) ?_
          repeat (first | (refine no_implicit_lambda% (wpStill_step ?_); intro K hK; go_simp; refine hK _ ?_; clear hK K))
          refine no_implicit_lambda% (wpStill_nil ?_)
          go_wp2_with fail
          exact ⟨⟨k + 1, by omega, by go_num, hB.trans (hb8.mono hsz).drew⟩, by simp [intOf]; omega⟩
      · obtain rfl : k = L.length := by omega
        go_wp2_with fail
        go_ret
        exact ⟨ret_bool (by simp), HB6.out.trans (hB.mono (by have := HB6.out.size; omega))⟩

/-- **DownsTurned answers true, for every order, and writes nothing that was there** -/
theorem dturn_any (n : Int) (a : Option Addr) (cap : Nat) (us : List Nat) (n₀ : Nat) (hf : Fit us) (w : World) (hT : TabAt w) (hw : IsWords n₀ w a us) (hg : 0 < n₀) (hn₀ : n₀ ≤ w.heap.size) :
    Calls Tryd.prog 7 #[.agg #[.int .i64 n, .slice a us.length cap]] w fun e w' => e = .returned (.bool true) ∧ Below w.heap.size w w' := by
  have hR : Ready a us n₀ w := ⟨hf, hT, hw, hg, hn₀⟩
  by_cases hc : codeOf n us = 0
  · have hl := (code_zero hc).2.2.1
    subst hl
    exact dturn_ok a cap us n₀ w hR hc
  · exact dturn_bad n a cap us n₀ w hR hc
end Go.Proofs.YtdomcjfgmnpbmaaDoor
