/- The walk of the law PolarTells: it answers true, and writes nothing that was there. -/
import Derived.Test.YtfdpjnejhacamaaPolAny
import Derived.Test.YtfdpjnejhacamaaRefPol
namespace Go.Proofs.Ytfdpjnejhacamaa
open Go.RowKit Go.Shelf

set_option maxRecDepth 100000 in
set_option maxHeartbeats 1000000 in
theorem ptells_bad (n : Int) (a : Option Addr) (cap : Nat) (us : List Nat) (s t u : Nat) (hs : s < 4294967296) (ht : t < 4294967296) (hu : u < 4294967296) (n₀ : Nat) (w : World) (hR : Rdy a us n₀ w) (hc : codeC n us ≠ 0) :
    Calls Try.prog 3 #[.agg #[.slice a us.length cap, .int .i64 n], .int .u32 s, .int .u32 t, .int .u32 u] w fun e w' => e = .returned (.bool true) ∧ Below w.heap.size w w' := by
  obtain ⟨r0, hb0, hs0⟩ := one_row w 24 (.slice a us.length cap) (.int .i64 n) rfl
  have R1 := hR.step hb0
  have d1 := Up_any n a cap us s hs n₀ _ R1
  have d2 := Down_any n a cap us t ht n₀
  have d3 := Implies_any n a cap us t u ht hu n₀
  have d4 := RefPCheck_any n a cap us n₀
  rw [codeCS_bad hc, if_neg hc] at d1
  simp only [codeCS_bad hc, if_neg hc, decide_eq_false hc, Bool.false_and] at d2 d3
  unfold polAns at d1 d2
  unfold polYes at d3
  generalize codeC n us = c at *
  have hne : (c != 0) = true := by rw [bne_iff_ne]; exact hc
  have Hb := hide hb0
  clear hb0 hc
  go_enter Try.func3, Try.ntmps3
  go_wp2_with fail
  refine d1.mono ?_
  rintro e w1 ⟨rfl, hb1⟩
  have q0 := row_below r0 hb1 r0.lt
  have j10 := q0.cell (i := 0) rfl
  have j11 := q0.cell (i := 1) rfl
  have R2 := R1.step hb1
  have hs1 := hb1.size
  go_wp2_with fail
  refine (d2 w1 R2).mono ?_
  rintro e w2 ⟨rfl, hb2⟩
  have q1 := row_below q0 hb2 q0.lt
  have j20 := q1.cell (i := 0) rfl
  have j21 := q1.cell (i := 1) rfl
  have R3 := R2.step hb2
  have hs2 := hb2.size
  clear j10 j11
  go_wp2_with fail
  refine (d3 w2 R3).mono ?_
  rintro e w3 ⟨rfl, hb3⟩
  have q2 := row_below q1 hb3 q1.lt
  have j30 := q2.cell (i := 0) rfl
  have j31 := q2.cell (i := 1) rfl
  have R4 := R3.step hb3
  have hs3 := hb3.size
  clear j20 j21
  go_wp2_with fail
  refine (d4 w3 R4).mono ?_
  rintro e w4 ⟨rfl, hb4⟩
  have HB := hide ((((Hb.out.trans (hb1.mono (by omega))).trans (hb2.mono (by omega))).trans (hb3.mono (by omega))).trans (hb4.mono (by omega)))
  clear hb1 hb2 hb3 hb4 Hb d1 d2 d3 d4
  go_wp2_with fail
  go_ret
  exact ⟨ret_bool (by simp), HB.out⟩

set_option maxRecDepth 100000 in
set_option maxHeartbeats 1000000 in
theorem ptells_ok (n : Nat) (a : Option Addr) (cap : Nat) (us : List Nat) (s t u : Nat) (hs : s < 4294967296) (ht : t < 4294967296) (hu : u < 4294967296) (n₀ : Nat) (w : World) (hR : Rdy a us n₀ w) (hc : codeC n us = 0) :
    Calls Try.prog 3 #[.agg #[.slice a us.length cap, .int .i64 n], .int .u32 s, .int .u32 t, .int .u32 u] w fun e w' => e = .returned (.bool true) ∧ Below w.heap.size w w' := by
  obtain ⟨r0, hb0, hs0⟩ := one_row w 24 (.slice a us.length cap) (.int .i64 n) rfl
  have R1 := hR.step hb0
  obtain ⟨hl16, m', hm', hn16, hin⟩ := codeC_zero hc
  obtain rfl : n = m' := by omega
  have d1 := Up_any n a cap us s hs n₀ _ R1
  have d2 := Down_any n a cap us t ht n₀
  have d3 := Implies_any n a cap us t u ht hu n₀
  have d4 := RefPCheck_any n a cap us n₀
  simp only [hc] at d4
  simp only [Int.toNat_natCast] at d1 d2 d3
  unfold polAns at d1 d2
  unfold polYes at d3
  obtain ⟨x1, hx1⟩ : ∃ x, (if codeCS n us us.length s = 0 then upW n us s else 0) = x := ⟨_, rfl⟩
  obtain ⟨x2, hx2⟩ : ∃ x, (if codeCS n us n t = 0 then dnW us t else 0) = x := ⟨_, rfl⟩
  obtain ⟨b3, hb3'⟩ : ∃ x, (decide (codeCS n us n (orW t u) = 0) && impB us t u) = x := ⟨_, rfl⟩
  have o1 := fun W => Outside_any s us.length hs hl16 W
  have o2 := fun W => Outside_any t n ht hn16 W
  have o3 := fun W => Outside_any u n hu hn16 W
  have hU : (outsideB s us.length = true ∧ codeCS n us us.length s = 2 ∧ x1 = 0) ∨ (outsideB s us.length = false ∧ codeCS n us us.length s = 0 ∧ x1 = upW n us s) := by
    cases h : outsideB s us.length with
    | true => left; have := codeCS_out hc h; rw [this, if_neg (by decide)] at hx1; exact ⟨rfl, this, hx1.symm⟩
    | false => right; have := codeCS_ok hc h; rw [if_pos this] at hx1; exact ⟨rfl, this, hx1.symm⟩
  have hD : (outsideB t n = true ∧ codeCS n us n t = 2 ∧ x2 = 0 ∧ codeCS n us n (orW t u) = 2 ∧ b3 = false) ∨ (outsideB t n = false ∧ codeCS n us n t = 0 ∧ x2 = dnW us t ∧ ((outsideB u n = true ∧ codeCS n us n (orW t u) = 2 ∧ b3 = false) ∨ (outsideB u n = false ∧ codeCS n us n (orW t u) = 0 ∧ b3 = impB us t u))) := by
    have ho := out_or (n := n) ht hu
    cases h : outsideB t n with
    | true =>
      left
      have e1 := codeCS_out hc h
      rw [h] at ho
      have e2 := codeCS_out hc (by rw [ho]; rfl : outsideB (orW t u) n = true)
      rw [e1, if_neg (by decide)] at hx2
      rw [e2] at hb3'
      exact ⟨rfl, e1, hx2.symm, e2, hb3'.symm⟩
    | false =>
      right
      have e1 := codeCS_ok hc h
      rw [if_pos e1] at hx2
      rw [h] at ho
      refine ⟨rfl, e1, hx2.symm, ?_⟩
      cases h2 : outsideB u n with
      | true =>
        rw [h2] at ho
        have e2 := codeCS_out hc ho
        rw [e2] at hb3'
        exact .inl ⟨rfl, e2, hb3'.symm⟩
      | false =>
        rw [h2] at ho
        have e2 := codeCS_ok hc ho
        rw [e2] at hb3'
        exact .inr ⟨rfl, e2, by simpa using hb3'.symm⟩
  rw [hx1] at d1
  simp only [hx2] at d2
  simp only [hb3'] at d3
  clear hx1 hx2 hb3'
  generalize codeCS n us us.length s = c1 at *
  generalize codeCS n us n t = c2 at *
  generalize codeCS n us n (orW t u) = c3 at *
  have Hb := hide hb0
  clear hb0 hc hin
  go_enter Try.func3, Try.ntmps3
  go_wp2_with fail
  refine d1.mono ?_
  rintro e w1 ⟨rfl, hb1⟩
  have q0 := row_below r0 hb1 r0.lt
  have j10 := q0.cell (i := 0) rfl
  have j11 := q0.cell (i := 1) rfl
  have R2 := R1.step hb1
  have hs1 := hb1.size
  go_wp2_with fail
  refine (d2 w1 R2).mono ?_
  rintro e w2 ⟨rfl, hb2⟩
  have q1 := row_below q0 hb2 q0.lt
  have j20 := q1.cell (i := 0) rfl
  have j21 := q1.cell (i := 1) rfl
  have R3 := R2.step hb2
  have hs2 := hb2.size
  clear j10 j11
  go_wp2_with fail
  refine (d3 w2 R3).mono ?_
  rintro e w3 ⟨rfl, hb3⟩
  have q2 := row_below q1 hb3 q1.lt
  have j30 := q2.cell (i := 0) rfl
  have j31 := q2.cell (i := 1) rfl
  have R4 := R3.step hb3
  have hs3 := hb3.size
  clear j20 j21
  go_wp2_with fail
  refine (d4 w3 R4).mono ?_
  rintro e w4 ⟨rfl, hb4⟩
  have q3 := row_below q2 hb4 q2.lt
  have j40 := q3.cell (i := 0) rfl
  have j41 := q3.cell (i := 1) rfl
  have R5 := R4.step hb4
  have hs4 := hb4.size
  clear j30 j31
  have HB := hide ((((Hb.out.trans (hb1.mono (by omega))).trans (hb2.mono (by omega))).trans (hb3.mono (by omega))).trans (hb4.mono (by omega)))
  clear hb1 hb2 hb3 hb4 Hb d1 d2 d3 d4
  obtain ⟨y, hy⟩ : ∃ y, upW n us s = y := ⟨_, rfl⟩
  obtain ⟨z, hz⟩ : ∃ z, dnW us t = z := ⟨_, rfl⟩
  obtain ⟨v, hv⟩ : ∃ v, dnW us u = v := ⟨_, rfl⟩
  have lz : z < 4294967296 := hz ▸ dnW_lt hl16 t
  have lv : v < 4294967296 := hv ▸ dnW_lt hl16 u
  have u1 := fun W hW => RefPUp_any n hn16 a cap us hl16 s hs n₀ W hW
  have u2 := fun W hW => RefPDown_any n a cap us hl16 t ht n₀ W hW
  have u3 := fun W hW => RefPDown_any n a cap us hl16 u hu n₀ W hW
  have hand := bits_and32 z v lz lv
  have hI : Hid ((((andW z v : Nat) : Int) == (z : Int)) = impB us t u) := by
    show (((andW z v : Nat) : Int) == (z : Int)) = impB us t u
    rw [Bool.eq_iff_iff, beq_iff_eq]
    unfold impB
    rw [hz, hv, withB_iff lz]
    have hcomm : andW z v = andW v z := Nat.and_comm _ _
    constructor
    · intro h
      have h2 : andW v z = z := by rw [← hcomm]; omega
      exact sub_and.1 h2
    · intro h
      have h2 := sub_and.2 h
      rw [hcomm, h2]
  simp only [hy] at u1 hU
  simp only [hz] at u2 hD
  simp only [hv] at u3
  clear hy hz hv
  generalize impB us t u = bI at *
  generalize andW z v = zv at *
  have hI2 := hI.out
  clear hI
  rcases hU with ⟨g1, rfl, rfl⟩ | ⟨g1, rfl, rfl⟩
  · rw [g1] at o1
    clear g1 u1
    go_wp2_with (go_at_call 12; refine (o1 _).mono ?_; rintro e w' ⟨rfl, hww⟩; rw [hww]; clear hww w' o1)
    rcases hD with ⟨g2, rfl, rfl, rfl, rfl⟩ | ⟨g2, rfl, rfl, ⟨g3, rfl, rfl⟩ | ⟨g3, rfl, rfl⟩⟩
    · rw [g2] at o2
      clear g2
      go_wp2_with (go_at_call 12; refine (o2 _).mono ?_; rintro e w' ⟨rfl, hww⟩; rw [hww]; clear hww w' o2)
      go_ret
      exact ⟨ret_bool (by simp), HB.out⟩
    · rw [g2] at o2
      rw [g3] at o3
      clear g2 g3 hI2 u3
      go_wp2_with (first | (go_at_call 12; refine (o2 _).mono ?_; rintro e w' ⟨rfl, hww⟩; rw [hww]; clear hww w' o2) | (go_at_call 14; refine (u2 w4 R5).mono ?_; rintro e w6 ⟨rfl, hb6⟩; clear u2; have q6 := row_below q3 hb6 q3.lt; have j60 := q6.cell (i := 0) rfl; have j61 := q6.cell (i := 1) rfl; have R7 := R5.step hb6; have hs6 := hb6.size))
      go_wp2_with (go_at_call 12; refine (o3 _).mono ?_; rintro e w' ⟨rfl, hww⟩; rw [hww]; clear hww w' o3)
      go_ret
      exact ⟨ret_bool (by simp), (HB.out).trans (hb6.mono (by have := (HB.out).size; omega))⟩
    · rw [g2] at o2
      rw [g3] at o3
      clear g2 g3
      go_wp2_with (first | (go_at_call 12; refine (o2 _).mono ?_; rintro e w' ⟨rfl, hww⟩; rw [hww]; clear hww w' o2) | (go_at_call 14; refine (u2 w4 R5).mono ?_; rintro e w6 ⟨rfl, hb6⟩; clear u2; have q6 := row_below q3 hb6 q3.lt; have j60 := q6.cell (i := 0) rfl; have j61 := q6.cell (i := 1) rfl; have R7 := R5.step hb6; have hs6 := hb6.size))
      go_wp2_with (first | (go_at_call 12; refine (o3 _).mono ?_; rintro e w' ⟨rfl, hww⟩; rw [hww]; clear hww w' o3) | (go_at_call 14; refine (u3 w6 R7).mono ?_; rintro e w7 ⟨rfl, hb7⟩; clear u3))
      go_ret
      exact ⟨ret_bool (by first | rfl | (rw [hI2]; simp)), ((HB.out).trans (hb6.mono (by have := (HB.out).size; omega))).trans (hb7.mono (by have := (HB.out).size; omega))⟩
  · rw [g1] at o1
    clear g1
    go_wp2_with (first | (go_at_call 12; refine (o1 _).mono ?_; rintro e w' ⟨rfl, hww⟩; rw [hww]; clear hww w' o1) | (go_at_call 13; refine (u1 w4 R5).mono ?_; rintro e w5 ⟨rfl, hb5⟩; clear u1; have q5 := row_below q3 hb5 q3.lt; have j50 := q5.cell (i := 0) rfl; have j51 := q5.cell (i := 1) rfl; have R6 := R5.step hb5; have hs5 := hb5.size))
    have HB2 := hide (HB.out.trans (hb5.mono (by have := HB.out.size; omega)))
    clear hb5 HB j40 j41
    rcases hD with ⟨g2, rfl, rfl, rfl, rfl⟩ | ⟨g2, rfl, rfl, ⟨g3, rfl, rfl⟩ | ⟨g3, rfl, rfl⟩⟩
    · rw [g2] at o2
      clear g2
      go_wp2_with (go_at_call 12; refine (o2 _).mono ?_; rintro e w' ⟨rfl, hww⟩; rw [hww]; clear hww w' o2)
      go_ret
      exact ⟨ret_bool (by simp), HB2.out⟩
    · rw [g2] at o2
      rw [g3] at o3
      clear g2 g3 hI2 u3
      go_wp2_with (first | (go_at_call 12; refine (o2 _).mono ?_; rintro e w' ⟨rfl, hww⟩; rw [hww]; clear hww w' o2) | (go_at_call 14; refine (u2 w5 R6).mono ?_; rintro e w6 ⟨rfl, hb6⟩; clear u2; have q6 := row_below q5 hb6 q5.lt; have j60 := q6.cell (i := 0) rfl; have j61 := q6.cell (i := 1) rfl; have R7 := R6.step hb6; have hs6 := hb6.size))
      go_wp2_with (go_at_call 12; refine (o3 _).mono ?_; rintro e w' ⟨rfl, hww⟩; rw [hww]; clear hww w' o3)
      go_ret
      exact ⟨ret_bool (by simp), (HB2.out).trans (hb6.mono (by have := (HB2.out).size; omega))⟩
    · rw [g2] at o2
      rw [g3] at o3
      clear g2 g3
      go_wp2_with (first | (go_at_call 12; refine (o2 _).mono ?_; rintro e w' ⟨rfl, hww⟩; rw [hww]; clear hww w' o2) | (go_at_call 14; refine (u2 w5 R6).mono ?_; rintro e w6 ⟨rfl, hb6⟩; clear u2; have q6 := row_below q5 hb6 q5.lt; have j60 := q6.cell (i := 0) rfl; have j61 := q6.cell (i := 1) rfl; have R7 := R6.step hb6; have hs6 := hb6.size))
      go_wp2_with (first | (go_at_call 12; refine (o3 _).mono ?_; rintro e w' ⟨rfl, hww⟩; rw [hww]; clear hww w' o3) | (go_at_call 14; refine (u3 w6 R7).mono ?_; rintro e w7 ⟨rfl, hb7⟩; clear u3))
      go_ret
      exact ⟨ret_bool (by first | rfl | (rw [hI2]; simp)), ((HB2.out).trans (hb6.mono (by have := (HB2.out).size; omega))).trans (hb7.mono (by have := (HB2.out).size; omega))⟩
/-- **PolarTells answers true, for every context and any sets, and writes nothing that was there** -/
theorem ptells_any (n : Int) (a : Option Addr) (cap : Nat) (us : List Nat) (s t u : Nat) (hs : s < 4294967296) (ht : t < 4294967296) (hu : u < 4294967296) (n₀ : Nat) (w : World) (hR : Rdy a us n₀ w) :
    Calls Try.prog 3 #[.agg #[.slice a us.length cap, .int .i64 n], .int .u32 s, .int .u32 t, .int .u32 u] w fun e w' => e = .returned (.bool true) ∧ Below w.heap.size w w' := by
  by_cases h1 : codeC n us = 0
  · obtain ⟨_, m, rfl, _⟩ := codeC_zero h1
    exact ptells_ok m a cap us s t u hs ht hu n₀ w hR h1
  · exact ptells_bad n a cap us s t u hs ht hu n₀ w hR h1
end Go.Proofs.Ytfdpjnejhacamaa
