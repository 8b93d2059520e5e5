/- The walk of the law PolarGalois: it answers true, and writes nothing that was there. -/
import Derived.Test.YtfdpjnejhacamaaPolUp
namespace Go.Proofs.Ytfdpjnejhacamaa
open Go.RowKit Go.Shelf

/-- Up and Down, whatever comes in -/
theorem Up_any (n : Int) (a : Option Addr) (cap : Nat) (us : List Nat) (s : Nat) (hs : s < 4294967296) (n₀ : Nat) (w : World) (hR : Rdy a us n₀ w) :
    Calls Try.prog 8 #[.agg #[.slice a us.length cap, .int .i64 n], .int .u32 s] w fun e w' => e = polAns (codeCS n us us.length s) (if codeCS n us us.length s = 0 then upW n.toNat us s else 0) ∧ Below w.heap.size w w' := by
  by_cases hc : codeCS n us us.length s = 0
  · obtain ⟨_, m, rfl, _⟩ := codeC_zero (codeCS_zero hc).1
    rw [hc, if_pos rfl]
    exact Up_ok m a cap us s hs n₀ w hR hc
  · rw [if_neg hc]
    exact Up_bad n a cap us s hs n₀ w hR hc
theorem Down_any (n : Int) (a : Option Addr) (cap : Nat) (us : List Nat) (s : Nat) (hs : s < 4294967296) (n₀ : Nat) (w : World) (hR : Rdy a us n₀ w) :
    Calls Try.prog 9 #[.agg #[.slice a us.length cap, .int .i64 n], .int .u32 s] w fun e w' => e = polAns (codeCS n us n.toNat s) (if codeCS n us n.toNat s = 0 then dnW us s else 0) ∧ Below w.heap.size w w' := by
  by_cases hc : codeCS n us n.toNat s = 0
  · obtain ⟨_, m, rfl, _⟩ := codeC_zero (codeCS_zero hc).1
    rw [hc, if_pos rfl]
    exact Down_ok m a cap us s hs n₀ w hR hc
  · rw [if_neg hc]
    exact Down_bad n a cap us s hs n₀ w hR hc
theorem Implies_any (n : Int) (a : Option Addr) (cap : Nat) (us : List Nat) (s t : Nat) (hs : s < 4294967296) (ht : t < 4294967296) (n₀ : Nat) (w : World) (hR : Rdy a us n₀ w) :
    Calls Try.prog 10 #[.agg #[.slice a us.length cap, .int .i64 n], .int .u32 s, .int .u32 t] w fun e w' => e = polYes (codeCS n us n.toNat (orW s t)) (decide (codeCS n us n.toNat (orW s t) = 0) && impB us s t) ∧ Below w.heap.size w w' := by
  by_cases hc : codeCS n us n.toNat (orW s t) = 0
  · obtain ⟨_, m, rfl, _⟩ := codeC_zero (codeCS_zero hc).1
    rw [hc, decide_eq_true rfl]
    exact Implies_ok m a cap us s t hs ht n₀ w hR hc
  · rw [decide_eq_false hc]
    exact Implies_bad n a cap us s t hs ht n₀ w hR hc

set_option maxRecDepth 100000 in
set_option maxHeartbeats 1000000 in
/-- **PolarGalois answers true, for every context and any two sets, and writes nothing that was there** -/
theorem pgalois_any (n : Int) (a : Option Addr) (cap : Nat) (us : List Nat) (s t : Nat) (hs : s < 4294967296) (ht : t < 4294967296) (n₀ : Nat) (w : World) (hR : Rdy a us n₀ w) :
    Calls Try.prog 5 #[.agg #[.slice a us.length cap, .int .i64 n], .int .u32 s, .int .u32 t] w fun e w' => e = .returned (.bool true) ∧ Below w.heap.size w w' := by
  obtain ⟨r0, hb0, hs0⟩ := one_row w 24 (.slice a us.length cap) (.int .i64 n) rfl
  have R1 := hR.step hb0
  have d1 := Up_any n a cap us s hs n₀ _ R1
  have d2 := Down_any n a cap us t ht n₀
  obtain ⟨x, hx⟩ : ∃ x, (if codeCS n us us.length s = 0 then upW n.toNat us s else 0) = x := ⟨_, rfl⟩
  obtain ⟨y, hy⟩ : ∃ y, (if codeCS n us n.toNat t = 0 then dnW us t else 0) = y := ⟨_, rfl⟩
  have hfin : codeCS n us us.length s = 0 → codeCS n us n.toNat t = 0 → x < 4294967296 ∧ y < 4294967296 ∧ (orW s y = y ↔ orW t x = x) := by
    intro h1 h2
    rw [if_pos h1] at hx
    rw [if_pos h2] at hy
    obtain ⟨hl16, m, rfl, hm16, hin⟩ := codeC_zero (codeCS_zero h1).1
    subst hx hy
    refine ⟨upW_lt (by omega) us s, dnW_lt hl16 t, ?_⟩
    rw [sub_or, sub_or]
    exact galois ht (only_of hs (codeCS_zero h1).2) (only_of ht (codeCS_zero h2).2)
  rw [hx] at d1
  simp only [hy] at d2
  clear hx hy
  unfold polAns at d1 d2
  generalize codeCS n us us.length s = c1 at *
  generalize codeCS n us n.toNat t = c2 at *
  have Hb := hide hb0
  clear hb0
  have e1 : (c1 = 0 ∧ (c1 != 0) = false) ∨ (c1 != 0) = true := by
    by_cases h : c1 = 0
    · exact .inl ⟨h, by rw [h]; rfl⟩
    · exact .inr (by rw [bne_iff_ne]; exact h)
  have e2 : (c2 = 0 ∧ (c2 != 0) = false) ∨ (c2 != 0) = true := by
    by_cases h : c2 = 0
    · exact .inl ⟨h, by rw [h]; rfl⟩
    · exact .inr (by rw [bne_iff_ne]; exact h)
  go_enter Try.func5, Try.ntmps5
  go_wp2_with fail
  refine d1.mono ?_
  rintro e w1 ⟨rfl, hb1⟩
  have q0 := row_below r0 hb1 r0.lt
  have j0 := q0.cell (i := 0) rfl
  have j1 := q0.cell (i := 1) rfl
  have R2 := R1.step hb1
  have hs1 := hb1.size
  go_wp2_with fail
  refine (d2 w1 R2).mono ?_
  rintro e w2 ⟨rfl, hb2⟩
  clear d1 d2
  have HB := hide ((Hb.out.trans (hb1.mono (by omega))).trans (hb2.mono (by omega)))
  clear hb1 hb2 Hb
  rcases e1 with ⟨h1, e1⟩ | e1
  · rcases e2 with ⟨h2, e2⟩ | e2
    · obtain ⟨lx, ly, hiff⟩ := hfin h1 h2
      have o1 := bits_or32 s y hs ly
      have o2 := bits_or32 t x ht lx
      have Hi := hide hiff
      clear hfin h1 h2 hiff
      go_wp2_with fail
      go_ret
      refine ⟨ret_bool ?_, HB.out⟩
      have hi := Hi.out
      rw [beq_iff_eq, Bool.eq_iff_iff]
      simp only [beq_iff_eq]
      constructor
      · intro h
        have := hi.1 (by omega)
        omega
      · intro h
        have := hi.2 (by omega)
        omega
    · clear hfin h1
      go_wp2_with fail
      go_ret
      exact ⟨rfl, HB.out⟩
  · clear hfin
    go_wp2_with fail
    go_ret
    exact ⟨rfl, HB.out⟩
end Go.Proofs.Ytfdpjnejhacamaa
