/- The contract of the program's Inclusion. -/
import Derived.Test.YtjbfjdijgfhjfaaDoorCountAny
import Derived.Test.YtjbfjdijgfhjfaaDoorInclPlain
namespace Go.Proofs.YtjbfjdijgfhjfaaDoor
open Go.RowKit Go.Shelf

/-- what Inclusion answers, where the order may be -/
def InclAns (us : List Nat) (w : World) (e : Ending) (w' : World) : Prop :=
  ∃ ds, Tur us us.length [] ds ∧ Below w.heap.size w w' ∧ ((16 < (allD ds).length ∧ e = .returned (.tuple #[.agg #[.int .i64 0, .slice none 0 0], .int .i64 1])) ∨ ((allD ds).length ≤ 16 ∧ ∃ g, e = .returned (.tuple #[.agg #[.int .i64 ((allD ds).length : Nat), .slice (some ⟨g, 0, none⟩) (allD ds).length (allD ds).length], .int .i64 0]) ∧ w.heap.size ≤ g ∧ Row w' g 50 (wvals (inclL (allD ds)))))

set_option maxRecDepth 100000 in
set_option maxHeartbeats 1000000 in
theorem Incl_bad (n : Int) (a : Option Addr) (cap : Nat) (us : List Nat) (n₀ : Nat) (w : World) (hR : Ready a us n₀ w) (hc : codeOf n us ≠ 0) :
    Calls Tryd.prog 12 #[.agg #[.int .i64 n, .slice a us.length cap]] w fun e w' => e = .returned (.tuple #[.agg #[.int .i64 0, .slice none 0 0], .int .i64 (codeOf n us)]) ∧ Below w.heap.size w w' := by
  obtain ⟨r0, r1, hb0, hs0⟩ := two_rows w 24 (.int .i64 n) (.slice a us.length cap) (.int .i64 0) (.slice none 0 0) rfl
  have hal := All_bad n a cap us n₀ _ (hR.step hb0) hc
  generalize codeOf n us = c at *
  have hne : (c != 0) = true := by rw [bne_iff_ne]; exact hc
  have Hb := hide hb0
  clear hb0 hc hs0
  go_enter Tryd.func12, Tryd.ntmps12
  go_wp2_with (go_at_call 13; refine hal.mono ?_; rintro e w1 ⟨rfl, hb1⟩; have q1 := row_below r1 hb1 r1.lt; have k0 := q1.cell (i := 0) rfl; have k1 := q1.cell (i := 1) rfl; have f0 := q1.frozen 0; have f1 := q1.frozen 1)
  have q2 := (q1.set 0 (.int .i64 0)).set 1 (.slice none 0 0)
  have e0 := q2.cell (i := 0) (v := .int .i64 0) rfl
  have e1 := q2.cell (i := 1) (v := .slice none 0 0) rfl
  refine bodyPost_ret (v := .tuple #[.agg #[.int .i64 0, .slice none 0 0], .int .i64 c]) (by simp [results, Tryd.results12, go_sem, e0, e1]) rfl ⟨rfl, ?_⟩
  exact ((Hb.out.trans (hb1.mono (by simp; omega))).setCell (p := ⟨w.heap.size + 1, 0, none⟩) (by simp) _).setCell (p := ⟨w.heap.size + 1, 1, none⟩) (by simp) _

set_option maxRecDepth 100000 in
set_option maxHeartbeats 2000000 in
theorem Incl_ok (a : Option Addr) (cap : Nat) (us : List Nat) (n₀ : Nat) (w : World) (hR : Ready a us n₀ w) (hc : codeOf us.length us = 0) :
    Calls Tryd.prog 12 #[.agg #[.int .i64 us.length, .slice a us.length cap]] w (InclAns us w) := by
  obtain ⟨r0, r1, hb0, hs0⟩ := two_rows w 24 (.int .i64 us.length) (.slice a us.length cap) (.int .i64 0) (.slice none 0 0) rfl
  have hl16 : us.length ≤ 16 := by have := code_zero hc; omega
  have hal := All_ok a cap us n₀ _ (hR.step hb0) hc
  have hz0 : w.heap.size ≤ ((w.alloc (.cells #[.int .i64 us.length, .slice a us.length cap] 24)).alloc (.cells #[.int .i64 0, .slice none 0 0] 24)).heap.size := by omega
  have Hb := hide hb0
  clear hb0 hc
  go_enter Tryd.func12, Tryd.ntmps12
  go_wp2_with (go_at_call 13; refine hal.mono ?_)
  rintro e w1 ⟨ds, hT, hb1, hAns⟩
  have hs1 := hb1.size
  have q1 := row_below r1 hb1 r1.lt
  have k0 := q1.cell (i := 0) rfl
  have k1 := q1.cell (i := 1) rfl
  have f0 := q1.frozen 0
  have f1 := q1.frozen 1
  have HB := hide (Hb.out.trans (hb1.mono hz0))
  have HT := hide hT
  have hlD := hT.len
  clear hT hal
  rcases hAns with ⟨hbig, rfl⟩ | ⟨hsm, v, rfl, hown⟩
  · have HL := hide hbig
    clear hbig
    go_wp2
    have q2 := (q1.set 0 (.int .i64 0)).set 1 (.slice none 0 0)
    have e0 := q2.cell (i := 0) (v := .int .i64 0) rfl
    have e1 := q2.cell (i := 1) (v := .slice none 0 0) rfl
    refine bodyPost_ret (v := .tuple #[.agg #[.int .i64 0, .slice none 0 0], .int .i64 1]) (by simp [results, Tryd.results12, go_sem, e0, e1]) rfl ⟨ds, HT.out, ?_, .inl ⟨by have := HL.out; omega, rfl⟩⟩
    exact (HB.out.setCell (p := ⟨w.heap.size + 1, 0, none⟩) (by simp) _).setCell (p := ⟨w.heap.size + 1, 1, none⟩) (by simp) _
  · obtain ⟨av, cv, rfl, hwv⟩ := ownsRow_words hown
    have hfL : Hid (∀ i, wd (allD ds) i < 4294967296) := fun i => by
      by_cases h : i < (allD ds).length
      · have := allD_lt (by omega) (wd_mem h); omega
      · unfold wd; rw [List.getD_eq_getElem?_getD, List.getElem?_eq_none (by omega)]; decide
    clear hown
    generalize hLe : allD ds = L at *
    have HLe := hide hLe
    clear hLe
    by_cases h16 : 16 < L.length
    · go_wp2
      have q2 := (q1.set 0 (.int .i64 0)).set 1 (.slice none 0 0)
      have e0 := q2.cell (i := 0) (v := .int .i64 0) rfl
      have e1 := q2.cell (i := 1) (v := .slice none 0 0) rfl
      refine bodyPost_ret (v := .tuple #[.agg #[.int .i64 0, .slice none 0 0], .int .i64 1]) (by simp [results, Tryd.results12, go_sem, e0, e1]) rfl ⟨ds, HT.out, ?_, .inl ⟨by rw [HLe.out]; exact h16, rfl⟩⟩
      exact (HB.out.setCell (p := ⟨w.heap.size + 1, 0, none⟩) (by simp) _).setCell (p := ⟨w.heap.size + 1, 1, none⟩) (by simp) _
    · have hmk := run_make_row' (P := Tryd.prog) 22 50 (.int .u32 0) 4 Tryd.underlying22 info_u32 rfl .i64 .i64 L.length (by omega) (by omega)
      go_wp2
      go_loopw [29] (fun i wr => ∃ k : Nat, k ≤ L.length ∧ i = .int .i64 k ∧ Below w1.heap.size w1 wr ∧ Row wr w1.heap.size 50 (wvals (inclTo L k 0))) (fun i _ => L.length - (intOf i).toNat)
      case atStart =>
        have rn := Row.new w1 50 (wvals (List.replicate L.length 0))
        rw [← wvals_replicate] at rn
        exact ⟨0, Nat.zero_le _, rfl, (Below.refl _ _).alloc (Nat.le_refl _) _, by rw [inclTo_zero]; exact rn⟩
      case round =>
        clear hmk
        obtain ⟨k, hk, rfl, hB, rU⟩ := hrel
        have hsz := hB.size
        by_cases hlt : k < L.length
        · have hwr := hwv.below hB
          obtain ⟨b, off, rfl, hb, hcL⟩ := hwr.at hlt
          have cK := hcL k hlt
          have HK := hide hk
          clear hcL hk k0 k1 f0 f1
          go_wp2
          go_loopw [36] (fun j W => ∃ m : Nat, m ≤ L.length ∧ j = .int .i64 m ∧ Below w1.heap.size w1 W ∧ Row W w1.heap.size 50 (wvals (inclTo L k m))) (fun j _ => L.length - (intOf j).toNat)
          case atStart => exact ⟨0, Nat.zero_le _, rfl, hB, rU⟩
          case round =>
            clear rU hB hwr cK
            obtain ⟨m, hm, rfl, hB2, rU2⟩ := hrel
            have hsz2 := hB2.size
            by_cases hlm : m < L.length
            · obtain ⟨b2, off2, e2, _, hcM⟩ := (hwv.below hB2).at hlm
              cases e2
              have cM := hcM m hlm
              have han := bits_andN32 (wd L k) (wd L m) (hfL.out k) (hfL.out m)
              clear hcM
              cases hsub : subB (wd L k) (wd L m) with
              | true =>
                have hz : (((andN (wd L k) (wd L m) : Nat) : Int) == 0) = true := by
                  unfold subB at hsub; rw [decide_eq_true_iff] at hsub; rw [hsub]; rfl
                have HY := hide (inclTo_yes hlt hsub)
                have cU := rU2.cell (i := k) (wvals_at (by rw [inclTo_len]; exact hlt))
                rw [inclTo_at hlt] at cU
                have fU := rU2.frozen k
                have hor := bits_or32 (inclW L k m) (bitW m) (inclW_lt L k (by omega)) (bitW_lt (by omega))
                have hbit := dbit_any m (by omega)
                clear hsub
                go_wp2
                refine wp_region_still_tail 8 (by kernel_rfl) (by kernel_rfl) ?_
                simp only [List.take_succ_cons, List.take_zero, List.drop_succ_cons, List.drop_zero]
                repeat (first | (refine no_implicit_lambda% (wpStill_step ?_); intro K hK; go_simp; refine hK _ ?_; clear hK K) | still_call (hbit _))
                refine no_implicit_lambda% (wpStill_nil ?_)
                show wpList _ _ _ _ _ _
                go_wp2
                have rS := rU2.set k (.int .u32 (orW (inclW L k m) (bitW m) : Nat))
                rw [wvals_set] at rS
                exact ⟨⟨m + 1, by omega, by go_num, (hB2.setCell (p := ⟨w1.heap.size, k, none⟩) (Nat.le_refl _) _).drew, by rw [HY.out]; exact rS⟩, by simp [intOf]; omega⟩
              | false =>
                have hz : (((andN (wd L k) (wd L m) : Nat) : Int) == 0) = false := by
                  unfold subB at hsub; rw [decide_eq_false_iff_not] at hsub; rw [beq_eq_false_iff_ne]; omega
                have HN := hide (inclTo_no hsub)
                clear hsub
                go_wp2
                exact ⟨⟨m + 1, by omega, by go_num, hB2, by rw [HN.out]; exact rU2⟩, by simp [intOf]; omega⟩
            · obtain rfl : m = L.length := by omega
              rw [inclTo_next] at rU2
              go_wp2
              exact ⟨⟨k + 1, by omega, by go_num, hB2, rU2⟩, by simp [intOf]; omega⟩
        · obtain rfl : k = L.length := by omega
          rw [inclTo_done] at rU
          have q2 := row_below q1 hB q1.lt
          have p0 := q2.cell (i := 0) rfl
          have p1 := q2.cell (i := 1) rfl
          have g0 := q2.frozen 0
          have g1 := q2.frozen 1
          clear k0 k1 f0 f1
          go_wp2
          have q3 := (q2.set 0 (.int .i64 (L.length : Nat))).set 1 (.slice (some ⟨w1.heap.size, 0, none⟩) L.length L.length)
          have e0 := q3.cell (i := 0) (v := .int .i64 (L.length : Nat)) rfl
          have e1 := q3.cell (i := 1) (v := .slice (some ⟨w1.heap.size, 0, none⟩) L.length L.length) rfl
          have hne : w1.heap.size ≠ w.heap.size + 1 := by omega
          refine bodyPost_ret (v := .tuple #[.agg #[.int .i64 (L.length : Nat), .slice (some ⟨w1.heap.size, 0, none⟩) L.length L.length], .int .i64 0]) (by simp [results, Tryd.results12, go_sem, e0, e1]) rfl ⟨ds, HT.out, ?_, .inr ⟨by rw [HLe.out]; omega, w1.heap.size, by rw [HLe.out], by omega, ?_⟩⟩
          · exact ((HB.out.trans (hB.mono (by omega))).setCell (p := ⟨w.heap.size + 1, 0, none⟩) (by simp) _).setCell (p := ⟨w.heap.size + 1, 1, none⟩) (by simp) _
          · rw [HLe.out]; exact (rU.other hne _ _).other hne _ _
end Go.Proofs.YtjbfjdijgfhjfaaDoor
