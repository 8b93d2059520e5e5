/- The walk of the law OrderSzpilrajn: it answers true, and writes nothing that was there. -/
import Derived.Test.YthhjhfjildmbhabDoorSortedTop
import Derived.Test.YthhjhfjildmbhabDoorSound
import Derived.Test.YthhjhfjildmbhabDoorKeepLow
import Derived.Test.YthhjhfjildmbhabDoorSzPlain
import Derived.Lib.QuietBelow
namespace Go.Proofs.YthhjhfjildmbhabDoor
open Go.RowKit Go.Shelf

set_option maxRecDepth 100000 in
set_option maxHeartbeats 1000000 in
theorem szp_bad (n : Int) (a : Option Addr) (cap : Nat) (us : List Nat) (n₀ : Nat) (hf : Fit us) (w : World) (hT : TabAt w) (hw : IsWords n₀ w a us) (hg : 0 < n₀) (hn₀ : n₀ ≤ w.heap.size) (hc : codeOf n us ≠ 0) :
    Calls Tryd.prog 7 #[.agg #[.int .i64 n, .slice a us.length cap]] w fun e w' => e = .returned (.bool true) ∧ Below w.heap.size w w' := by
  obtain ⟨r0, hb0, hs0⟩ := one_row w 24 (.int .i64 n) (.slice a us.length cap) rfl
  have hT1 := hT.below hb0 (by omega)
  have hw1 := hw.below (hb0.mono hn₀)
  have hso := sound_any n a cap us n₀ hf _ hw1 (by omega)
  have h1 : (codeOf n us == 0) = false := by rw [beq_eq_false_iff_ne]; exact hc
  have h2 : (codeOf n us != 0) = true := by rw [bne_iff_ne]; exact hc
  rw [h1] at hso
  have c00 := r0.cell (i := 0) rfl
  have c01 := r0.cell (i := 1) rfl
  go_enter Tryd.func7, Tryd.ntmps7
  go_wp2_with fail
  refine hso.mono ?_
  rintro e w1 ⟨rfl, hb1⟩
  have q0 := row_below r0 hb1 r0.lt
  have hs1 := hb1.size
  have hre := refused_any n a cap us n₀ hf w1 (hT1.below hb1 (by omega)) (hw1.below (hb1.mono (by omega))) hg (by omega)
  rw [h2] at hre
  have d00 := q0.cell (i := 0) rfl
  have d01 := q0.cell (i := 1) rfl
  have HB := hide (hb0.trans (hb1.mono (by omega)))
  clear hso c00 c01 hb0 hb1 h1 h2 hc
  go_wp2_with (go_at_call 10; refine hre.mono ?_; rintro e w2 ⟨rfl, hb2⟩)
  go_ret
  exact ⟨rfl, HB.out.trans (hb2.mono (by have := HB.out.size; omega))⟩

set_option maxRecDepth 100000 in
set_option maxHeartbeats 1000000 in
theorem szp_ok (n : Int) (a : Option Addr) (cap : Nat) (us : List Nat) (n₀ : Nat) (hf : Fit us) (w : World) (hT : TabAt w) (hw : IsWords n₀ w a us) (hg : 0 < n₀) (hn₀ : n₀ ≤ w.heap.size) (hc : codeOf n us = 0) :
    Calls Tryd.prog 7 #[.agg #[.int .i64 n, .slice a us.length cap]] w fun e w' => e = .returned (.bool true) ∧ Below w.heap.size w w' := by
  obtain ⟨_, h16, hlen, hin, hord⟩ := code_zero hc
  have hl16 : us.length ≤ 16 := by omega
  obtain ⟨r0, hb0, hs0⟩ := one_row w 24 (.int .i64 n) (.slice a us.length cap) rfl
  have hT0 := hT.below hb0 (by omega)
  have hw0 := hw.below (hb0.mono hn₀)
  have hso := sound_any n a cap us n₀ hf _ hw0 (by omega)
  have h1 : (codeOf n us == 0) = true := by rw [beq_iff_eq]; exact hc
  rw [h1] at hso
  have c00 := r0.cell (i := 0) rfl
  have c01 := r0.cell (i := 1) rfl
  have Hc := hide hc
  have Hlen := hide hlen
  clear hc h1 hlen
  go_enter Tryd.func7, Tryd.ntmps7
  go_wp2_with fail
  refine hso.mono ?_
  rintro e w1 ⟨rfl, hb1⟩
  have q1 := row_below r0 hb1 r0.lt
  have hB1 : Below w.heap.size w w1 := hb0.trans (hb1.mono (by omega))
  have hz1 : w.heap.size < w1.heap.size := q1.lt
  have d00 := q1.cell (i := 0) rfl
  have d01 := q1.cell (i := 1) rfl
  clear hso c00 c01 r0 hb0 hb1 hs0 hT0 hw0
  go_wp2_with fail
  refine (Sorted_ok n a cap us n₀ hf w1 (hT.below hB1 (by omega)) (hw.below (hB1.mono hn₀)) hg (by omega) Hc.out).mono ?_
  rintro e w2 ⟨av, cv, rfl, hb2, hown⟩
  have hs2 := hb2.size
  have hB2 : Below w.heap.size w w2 := hB1.trans (hb2.mono (by omega))
  have q2 := row_below q1 hb2 hz1
  have e00 := q2.cell (i := 0) rfl
  have e01 := q2.cell (i := 1) rfl
  have hlen := Hlen.out
  subst hlen
  have hA := acy_under hord
  have hsl : (sortL us).length = us.length := sortF_len _ _ _
  have hlt' : ∀ i, i < us.length → wd (sortL us) i < us.length := fun i hi => (sortF_facts hA us.length (Nat.le_refl _)).2 _ (wd_mem (by rw [show (sortF (underB us) us.length us.length).length = us.length from sortF_len _ _ _]; exact hi))
  have hints := ownsRow_ints hown
  have hwi := kwithin_true us.length av cv (sortL us) w2.heap.size (by omega) (fun i hi => hlt' i (by omega)) w2 hints
  rw [hsl] at hwi
  have hne : ((us.length : Int) != (us.length : Int)) = false := by simp
  have hbef : ∀ i j, j < i → i < us.length → wd (sortL us) i ≠ wd (sortL us) j ∧ underB us (wd (sortL us) i) (wd (sortL us) j) = false := fun i j h1 h2 => sort_before hA h1 h2
  have HS := hide hsl
  clear d00 d01 hsl
  go_wp2_with (go_at_call 11; refine hwi.mono ?_; rintro e w' ⟨rfl, hww⟩; rw [hww]; clear hww w')
  go_loopw [5] (fun i wr => ∃ k : Nat, k ≤ us.length ∧ i = .int .i64 k ∧ Below w2.heap.size w2 wr) (fun i _ => us.length - (intOf i).toNat)
  case atStart => exact ⟨0, Nat.zero_le _, rfl, Below.refl _ _⟩
  case round =>
    clear hwi hne e00 e01
    obtain ⟨k, hk, rfl, hbr⟩ := hrel
    by_cases hlt : k < us.length
    · go_wp2
      go_loopw [6] (fun j wr => ∃ j' : Nat, j' ≤ k ∧ j = .int .i64 j' ∧ Below w2.heap.size w2 wr) (fun j _ => k - (intOf j).toNat)
      case atStart => exact ⟨0, Nat.zero_le _, rfl, hbr⟩
      case round =>
        clear hbr
        obtain ⟨j, hj, rfl, hbr⟩ := hrel
        by_cases hlj : j < k
        · obtain ⟨hb1, hb2'⟩ := hbef k j hlj hlt
          obtain ⟨b, off, rfl, hbb, hcc⟩ := (hints.below hbr).at (i := k) (by rw [HS.out]; exact hlt)
          have hck := hcc k (by rw [HS.out]; exact hlt)
          have hcj := hcc j (by rw [HS.out]; omega)
          clear hcc
          have qr := row_below q2 hbr q2.lt
          have r00 := qr.cell (i := 0) rfl
          have r01 := qr.cell (i := 1) rfl
          have hrs := hbr.size
          have hlk := hlt' k hlt
          have hljj := hlt' j (by omega)
          generalize wd (sortL us) k = x at *
          generalize wd (sortL us) j = y at *
          have hd : ((x : Int) == (y : Int)) = false := by rw [beq_eq_false_iff_ne]; omega
          have cU : ∀ d os, Calls Tryd.prog 19 #[.agg #[.int .i64 us.length, .slice a us.length cap], .int .i64 (x : Nat), .int .i64 (y : Nat)] (Go.Sort.grow (redrawn wr d) os) fun e w'' => e = .returned (.bool false) ∧ ∃ p : Regrown, w'' = Go.Sort.grow (redrawn wr p.d) p.os := fun d os => Calls.regrown_of (by
            have h := kunder_any us.length a cap us x y n₀ hf hlk (by omega) (Go.Sort.grow (redrawn wr d) os) ((hw.below ((hB2.trans (hbr.mono (by omega))).mono hn₀)).below ((below_regrown wr d os).mono (by omega))) (by have := (below_regrown wr d os).size; omega)
            rw [hb2'] at h
            exact h)
          have k0 := cell_regrown r00
          have k1 := cell_regrown r01
          have k2 := cell_regrown hck
          have k3 := cell_regrown hcj
          have hjn : j < us.length := by omega
          have HX := hide hb1
          clear hb1 hb2' r00 r01 hck hcj
          go_wp2
          refine wp_region_quiet_below (by kernel_rfl) (by kernel_rfl) ?_
          repeat (quiet_step (first | exact cU _ _))
          refine wpQuiet_nil ?_
          intro _ hw'
          obtain ⟨⟨dq, osq⟩, hw''⟩ := hw'
          subst hw''
          go_wp2
          exact ⟨⟨j + 1, by omega, by go_num, hbr.trans ((below_regrown _ dq osq).mono hrs)⟩, by simp [intOf]; omega⟩
        · go_wp2
          exact ⟨⟨k + 1, by omega, by go_num, hbr⟩, by simp [intOf]; omega⟩
    · go_wp2
      go_ret
      exact ⟨rfl, hB2.trans (hbr.mono (by omega))⟩

/-- **OrderSzpilrajn answers true, for every order, and writes nothing that was there** -/
theorem szp_any (n : Int) (a : Option Addr) (cap : Nat) (us : List Nat) (n₀ : Nat) (hf : Fit us) (w : World) (hT : TabAt w) (hw : IsWords n₀ w a us) (hg : 0 < n₀) (hn₀ : n₀ ≤ w.heap.size) :
    Calls Tryd.prog 7 #[.agg #[.int .i64 n, .slice a us.length cap]] w fun e w' => e = .returned (.bool true) ∧ Below w.heap.size w w' := by
  by_cases hc : codeOf n us = 0
  · exact szp_ok n a cap us n₀ hf w hT hw hg hn₀ hc
  · exact szp_bad n a cap us n₀ hf w hT hw hg hn₀ hc
end Go.Proofs.YthhjhfjildmbhabDoor
