/- The walk of the law PolarArmstrong: it answers true, and writes nothing that was there. -/
import Derived.Test.YtfdpjnejhacamabPolAny
namespace Go.Proofs.Ytfdpjnejhacamab
open Go.RowKit Go.Shelf

set_option maxRecDepth 100000 in
set_option maxHeartbeats 1000000 in
theorem parm_bad (n : Int) (a : Option Addr) (cap : Nat) (us : List Nat) (s t u : Nat) (hs : s < 4294967296) (ht : t < 4294967296) (hu : u < 4294967296) (n₀ : Nat) (w : World) (hR : Rdy a us n₀ w) (hc : codeCS n us n.toNat (orW s t) ≠ 0 ∨ codeCS n us n.toNat (orW t u) ≠ 0) :
    Calls Try.prog 3 #[.agg #[.slice a us.length cap, .int .i64 n], .int .u32 s, .int .u32 t, .int .u32 u] w fun e w' => e = .returned (.bool true) ∧ Below w.heap.size w w' := by
  obtain ⟨r0, hb0, hs0⟩ := one_row w 24 (.slice a us.length cap) (.int .i64 n) rfl
  have R1 := hR.step hb0
  have d1 := Implies_any n a cap us s t hs ht n₀ _ R1
  have d2 := Implies_any n a cap us t u ht hu n₀
  unfold polYes at d1 d2
  generalize (decide (codeCS n us n.toNat (orW s t) = 0) && impB us s t) = x at d1
  generalize (decide (codeCS n us n.toNat (orW t u) = 0) && impB us t u) = y at d2
  generalize codeCS n us n.toNat (orW s t) = c1 at *
  generalize codeCS n us n.toNat (orW t u) = c2 at *
  have Hb := hide hb0
  clear hb0
  have e1 := code_cases c1
  have e2 := code_cases c2
  go_enter Try.func3, Try.ntmps3
  go_wp2_with fail
  refine d1.mono ?_
  rintro e w1 ⟨rfl, hb1⟩
  have q0 := row_below r0 hb1 r0.lt
  have j0 := q0.cell (i := 0) rfl
  have j1 := q0.cell (i := 1) rfl
  have R2 := R1.step hb1
  have hs1 := hb1.size
  go_wp2_with fail
  refine (d2 w1 R2).mono ?_
  rintro e w2 ⟨rfl, hb2⟩
  clear d1 d2
  have HB := hide ((Hb.out.trans (hb1.mono (by omega))).trans (hb2.mono (by omega)))
  clear hb1 hb2 Hb
  rcases e1 with ⟨h1, e1⟩ | e1
  · rcases e2 with ⟨h2, e2⟩ | e2
    · exact absurd hc (by rw [h1, h2]; simp)
    · clear hc h1
      go_wp2_with fail
      go_ret
      exact ⟨rfl, HB.out⟩
  · clear hc
    go_wp2_with fail
    go_ret
    exact ⟨rfl, HB.out⟩

set_option maxRecDepth 100000 in
set_option maxHeartbeats 1000000 in
theorem parm_ok (n : Nat) (a : Option Addr) (cap : Nat) (us : List Nat) (s t u : Nat) (hs : s < 4294967296) (ht : t < 4294967296) (hu : u < 4294967296) (n₀ : Nat) (w : World) (hR : Rdy a us n₀ w) (hc1 : codeCS n us n (orW s t) = 0) (hc2 : codeCS n us n (orW t u) = 0) :
    Calls Try.prog 3 #[.agg #[.slice a us.length cap, .int .i64 n], .int .u32 s, .int .u32 t, .int .u32 u] w fun e w' => e = .returned (.bool true) ∧ Below w.heap.size w w' := by
  obtain ⟨r0, hb0, hs0⟩ := one_row w 24 (.slice a us.length cap) (.int .i64 n) rfl
  have R1 := hR.step hb0
  obtain ⟨hcc, o1⟩ := codeCS_zero hc1
  obtain ⟨_, o2⟩ := codeCS_zero hc2
  obtain ⟨hl16, m', hm', hn16, hin⟩ := codeC_zero hcc
  obtain rfl : n = m' := by omega
  rw [out_or hs ht, Bool.or_eq_false_iff] at o1
  rw [out_or ht hu, Bool.or_eq_false_iff] at o2
  obtain ⟨oS, oT⟩ := o1
  obtain ⟨_, oU⟩ := o2
  have hst := orW_lt hs ht
  have hsu := orW_lt hs hu
  have htu := orW_lt ht hu
  have d1 := Implies_ok n a cap us s t hs ht n₀ _ R1 hc1
  have d2 := fun W hW => Implies_ok n a cap us t u ht hu n₀ W hW hc2
  have d3 := fun W hW => Implies_ok n a cap us (orW s t) t hst ht n₀ W hW (codeCS_ok hcc (by rw [out_or hst ht, out_or hs ht, oS, oT]; rfl))
  have d4 := fun W hW => Implies_ok n a cap us (orW s u) (orW t u) hsu htu n₀ W hW (codeCS_ok hcc (by rw [out_or hsu htu, out_or hs hu, out_or ht hu, oS, oT, oU]; rfl))
  have d5 := fun W hW => Implies_ok n a cap us s u hs hu n₀ W hW (codeCS_ok hcc (by rw [out_or hs hu, oS, oU]; rfl))
  have e1 := bits_or32 s t hs ht
  have e2 := bits_or32 s u hs hu
  have e3 := bits_or32 t u ht hu
  have f1 := imp_own hl16 hs ht
  have f2 : impB us s t = true → impB us (orW s u) (orW t u) = true := imp_beside hl16 hs ht hu
  have f3 : impB us s t = true → impB us t u = true → impB us s u = true := imp_trans hl16 hs ht hu
  simp only [f1] at d3
  unfold polYes at d1 d2 d3 d4 d5
  have Hb := hide hb0
  clear hb0 hc1 hc2 hcc hin oS oT oU f1
  generalize impB us s t = p at *
  generalize impB us t u = q at *
  generalize impB us (orW s u) (orW t u) = r at *
  generalize impB us s u = v at *
  generalize orW s t = st at *
  generalize orW s u = su at *
  generalize orW t u = tu at *
  have hall : (!p || r) = true ∧ (!p || !q || v) = true := by
    revert f2 f3; cases p <;> cases q <;> cases r <;> cases v <;> simp
  obtain ⟨g1, g2⟩ := hall
  clear f2 f3
  go_enter Try.func3, Try.ntmps3
  go_wp2_with fail
  refine d1.mono ?_
  rintro e w1 ⟨rfl, hb1⟩
  have q0 := row_below r0 hb1 r0.lt
  have j10 := q0.cell (i := 0) rfl
  have j11 := q0.cell (i := 1) rfl
  have R2 := R1.step hb1
  have hs1 := hb1.size
  go_wp2_with fail
  refine (d2 w1 R2).mono ?_
  rintro e w2 ⟨rfl, hb2⟩
  have q1 := row_below q0 hb2 q0.lt
  have j20 := q1.cell (i := 0) rfl
  have j21 := q1.cell (i := 1) rfl
  have R3 := R2.step hb2
  have hs2 := hb2.size
  clear j10 j11
  go_wp2_with fail
  refine (d3 w2 R3).mono ?_
  rintro e w3 ⟨rfl, hb3⟩
  have q2 := row_below q1 hb3 q1.lt
  have j30 := q2.cell (i := 0) rfl
  have j31 := q2.cell (i := 1) rfl
  have R4 := R3.step hb3
  have hs3 := hb3.size
  clear j20 j21
  go_wp2_with fail
  refine (d4 w3 R4).mono ?_
  rintro e w4 ⟨rfl, hb4⟩
  have q3 := row_below q2 hb4 q2.lt
  have j40 := q3.cell (i := 0) rfl
  have j41 := q3.cell (i := 1) rfl
  have R5 := R4.step hb4
  have hs4 := hb4.size
  clear j30 j31
  go_wp2_with fail
  refine (d5 w4 R5).mono ?_
  rintro e w5 ⟨rfl, hb5⟩
  clear d1 d2 d3 d4 d5
  have HB := hide (((((Hb.out.trans (hb1.mono (by omega))).trans (hb2.mono (by omega))).trans (hb3.mono (by omega))).trans (hb4.mono (by omega))).trans (hb5.mono (by omega)))
  clear hb1 hb2 hb3 hb4 hb5 Hb
  cases p <;> cases q <;> cases r <;> cases v <;> first | (exfalso; revert g1 g2; decide) | (go_wp2_with fail; go_ret; exact ⟨ret_bool (by simp), HB.out⟩)

/-- **PolarArmstrong answers true, for every context and any three sets, and writes nothing that was there** -/
theorem parm_any (n : Int) (a : Option Addr) (cap : Nat) (us : List Nat) (s t u : Nat) (hs : s < 4294967296) (ht : t < 4294967296) (hu : u < 4294967296) (n₀ : Nat) (w : World) (hR : Rdy a us n₀ w) :
    Calls Try.prog 3 #[.agg #[.slice a us.length cap, .int .i64 n], .int .u32 s, .int .u32 t, .int .u32 u] w fun e w' => e = .returned (.bool true) ∧ Below w.heap.size w w' := by
  by_cases h1 : codeCS n us n.toNat (orW s t) = 0
  · by_cases h2 : codeCS n us n.toNat (orW t u) = 0
    · obtain ⟨_, m, rfl, _⟩ := codeC_zero (codeCS_zero h1).1
      exact parm_ok m a cap us s t u hs ht hu n₀ w hR h1 h2
    · exact parm_bad n a cap us s t u hs ht hu n₀ w hR (.inr h2)
  · exact parm_bad n a cap us s t u hs ht hu n₀ w hR (.inl h1)
end Go.Proofs.Ytfdpjnejhacamab
