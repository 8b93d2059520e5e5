/- The walk of the law PolarConcepts: it answers true, and writes nothing that was there. -/
import Derived.Test.YtdeglbmoiofpoaaRefCon
import Derived.Laws.StructEq
import Derived.Lib.QuietBelow
import Derived.BigQuiet
namespace Go.Proofs.Ytdeglbmoiofpoaa
open Go.RowKit Go.Shelf

set_option maxRecDepth 100000 in
set_option maxHeartbeats 2000000 in
theorem lpcon_any (n : Int) (a : Option Addr) (cap : Nat) (us : List Nat) (n₀ : Nat) (w : World) (hR : Rdy a us n₀ w) :
    Calls Try.prog 3 #[.agg #[.slice a us.length cap, .int .i64 n]] w fun e w' => e = .returned (.bool true) ∧ Below w.heap.size w w' := by
  obtain ⟨r0, hb0, hs0⟩ := one_row w 24 (.slice a us.length cap) (.int .i64 n) rfl
  obtain ⟨W0, hW0⟩ : ∃ V, w.alloc (.cells #[.slice a us.length cap, .int .i64 n] 24) = V := ⟨_, rfl⟩
  rw [hW0] at r0 hb0 hs0
  have R0 := hR.step hb0
  have s1 := Concepts_any n a cap us n₀ W0 R0
  have c0 := r0.cell (i := 0) rfl
  have c1 := r0.cell (i := 1) rfl
  have lt0 := r0.lt
  have HB := hide hb0
  clear hb0 hs0
  go_enter Try.func3, Try.ntmps3
  go_wp2_with fail
  refine s1.mono ?_
  rintro e w1 ⟨hp, hb1⟩
  have R1 := R0.step hb1
  have r1 := row_below r0 hb1 lt0
  have lt1 := r1.lt
  have hB1 := HB.out.trans (hb1.mono HB.out.size)
  have s2 := RefPCheck_any n a cap us n₀ w1 R1
  clear c0 c1 s1
  have c0 := r1.cell (i := 0) rfl
  have c1 := r1.cell (i := 1) rfl
  rcases hp with ⟨hc, rfl⟩ | ⟨hc, hbig, rfl⟩ | ⟨hc, P, B, cp, hP, hPl, rfl, hcons, hlB⟩
  · have e1 : (codeC n us != 0) = true := by rw [bne_iff_ne]; exact hc
    clear hc
    generalize codeC n us = c at *
    go_wp2_with fail
    refine s2.mono ?_
    rintro e w2 ⟨rfl, hb2⟩
    go_wp2_with fail
    go_ret
    exact ⟨rfl, hB1.trans (hb2.mono hB1.size)⟩
  · obtain ⟨hl, m, rfl, hm, _⟩ := codeC_zero hc
    rw [Int.toNat_natCast] at hbig
    rw [hc] at s2
    clear hc
    go_wp2_with fail
    refine s2.mono ?_
    rintro e w2 ⟨rfl, hb2⟩
    have R2 := R1.step hb2
    have r2 := row_below r1 hb2 lt1
    have hB2 := hB1.trans (hb2.mono hB1.size)
    clear c0 c1 s2
    have c0 := r2.cell (i := 0) rfl
    have c1 := r2.cell (i := 1) rfl
    have s3 := RefCon_any m hm a cap us hl 256 (by omega) n₀ w2 R2
    go_wp2_with fail
    refine s3.mono ?_
    rintro e w3 ⟨Q, av, cv, rfl, hQ, hQl, hown, hb3⟩
    have hq : 256 < Q.length := by
      rcases hQ with rfl | ⟨h, _⟩
      · rw [conP_len]; exact hbig
      · exact h
    have e1 : decide ((256 : Int) < (Q.length : Int)) = true := decide_eq_true (by omega)
    clear hQ s3 c0 c1
    go_wp2_with fail
    go_ret
    exact ⟨rfl, hB2.trans (hb3.mono hB2.size)⟩
  · obtain ⟨hl, m, rfl, hm, _⟩ := codeC_zero hc
    rw [Int.toNat_natCast] at hP
    have HP := hide hP
    clear hP
    rw [hc] at s2
    clear hc
    have HPl := hide hPl
    go_wp2_with fail
    refine s2.mono ?_
    rintro e w2 ⟨rfl, hb2⟩
    have R2 := R1.step hb2
    have r2 := row_below r1 hb2 lt1
    have hB2 := hB1.trans (hb2.mono hB1.size)
    have hcons2 := hcons.below hb2 hlB
    have hlB2 : B < w2.heap.size := Nat.lt_of_lt_of_le hlB hb2.size
    clear c0 c1 s2 hcons
    have c0 := r2.cell (i := 0) rfl
    have c1 := r2.cell (i := 1) rfl
    have s3 := RefCon_any m hm a cap us hl 256 (by omega) n₀ w2 R2
    go_wp2_with fail
    refine s3.mono ?_
    rintro e w3 ⟨Q, av, cv, rfl, hQ, hQl, hown, hb3⟩
    have hqp : Q = P := by
      rcases hQ with h | ⟨_, h⟩
      · rw [h, HP.out]
      · exfalso
        have := HPl.out
        rw [HP.out, conP_len] at this
        omega
    subst hqp
    have hB3 := hB2.trans (hb3.mono hB2.size)
    have hcons3 := hcons2.below hb3 hlB2
    have hlB3 : B < w3.heap.size := Nat.lt_of_lt_of_le hlB2 hb3.size
    have e1 : decide ((256 : Int) < (Q.length : Int)) = false := decide_eq_false (by omega)
    have e2 : ((Q.length : Int) != (Q.length : Int)) = false := by rw [bne_eq_false_iff_eq]
    have hoc := ownsRow_cons hown
    clear hQ s3 c0 c1
    go_wp2_with fail
    go_loopw [7] (fun i wr => ∃ k : Nat, k ≤ Q.length ∧ i = .int .i64 k ∧ Below w3.heap.size w3 wr) (fun i _ => Q.length - (intOf i).toNat)
    case atStart => exact ⟨0, Nat.zero_le _, rfl, Below.refl _ _⟩
    case round =>
      obtain ⟨k, hk, rfl, hbr⟩ := hrel
      have hBr := hB3.trans (hbr.mono hB3.size)
      by_cases hlt : k < Q.length
      · rcases hoc with h0 | ⟨B2, rfl, hcq, hlq⟩
        · exfalso; rw [h0] at hlt; simp at hlt
        · have x0 := cell_regrown ((hcons3.below hbr hlB3) k hlt).1
          have x1 := cell_regrown ((hcons3.below hbr hlB3) k hlt).2
          have y0 := cell_regrown ((hcq.below hbr hlq) k hlt).1
          have y1 := cell_regrown ((hcq.below hbr hlq) k hlt).2
          generalize Q[k].1 = p at *
          generalize Q[k].2 = q at *
          go_wp2_with fail
          refine wp_region_quiet_below (by kernel_rfl) (by kernel_rfl) ?_
          repeat (go_big_quiet_step (fail))
          refine wpQuiet_nil ?_
          intro _ hw'
          obtain ⟨⟨dq, osq⟩, hw''⟩ := hw'
          subst hw''
          go_wp2_with fail
          exact ⟨⟨k + 1, by omega, by go_num, hbr.trans ((below_regrown wr dq osq).mono hbr.size)⟩, by simp [intOf]; omega⟩
      · go_wp2_with fail
        go_ret
        exact ⟨rfl, hBr⟩
end Go.Proofs.Ytdeglbmoiofpoaa
