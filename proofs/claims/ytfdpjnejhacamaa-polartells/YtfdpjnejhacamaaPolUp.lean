/- The contracts of package polar's Up, Down and Implies. -/
import Derived.Test.YtfdpjnejhacamaaPolLow
import Derived.Lib.QuietBelow
import Derived.BigQuiet
namespace Go.Proofs.Ytfdpjnejhacamaa
open Go.RowKit Go.Shelf

/-- what a call that tells a set answers -/
def polAns (c : Int) (x : Nat) : Ending := .returned (.tuple #[.int .u32 (x : Nat), .int .i64 c])
/-- what a call that tells yes or no answers -/
def polYes (c : Int) (x : Bool) : Ending := .returned (.tuple #[.bool x, .int .i64 c])
/-- what is wrong with a context and a set of m things -/
def codeCS (n : Int) (us : List Nat) (m s : Nat) : Int := if codeC n us ≠ 0 then codeC n us else if outsideB s m = true then 2 else 0
theorem codeCS_bad {n : Int} {us : List Nat} {m s : Nat} (h : codeC n us ≠ 0) : codeCS n us m s = codeC n us := by unfold codeCS; rw [if_pos h]
theorem codeCS_out {n : Int} {us : List Nat} {m s : Nat} (h : codeC n us = 0) (h' : outsideB s m = true) : codeCS n us m s = 2 := by unfold codeCS; rw [if_neg (by simp [h]), if_pos h']
theorem codeCS_ok {n : Int} {us : List Nat} {m s : Nat} (h : codeC n us = 0) (h' : outsideB s m = false) : codeCS n us m s = 0 := by unfold codeCS; rw [if_neg (by simp [h]), if_neg (by simp [h'])]
theorem codeCS_zero {n : Int} {us : List Nat} {m s : Nat} (h : codeCS n us m s = 0) : codeC n us = 0 ∧ outsideB s m = false := by
  by_cases h1 : codeC n us = 0
  · refine ⟨h1, ?_⟩
    cases ho : outsideB s m with
    | false => rfl
    | true => rw [codeCS_out h1 ho] at h; cases h
  · rw [codeCS_bad h1] at h; exact absurd h h1

theorem prows_re (n : Int) (a : Option Addr) (cap : Nat) (us : List Nat) (hl : us.length ≤ 16) (s : Nat) (hs : s < 4294967296) (n₀ : Nat) (W : World) (hR : Rdy a us n₀ W) (r : Nat) (hr : dnW us s = r) (d : Nat) (os : Array Obj) :
    Calls Try.prog 21 #[.agg #[.slice a us.length cap, .int .i64 n], .int .u32 s] (Go.Sort.grow (redrawn W d) os) fun e w'' => e = .returned (.int .u32 (r : Nat)) ∧ ∃ p : Regrown, w'' = Go.Sort.grow (redrawn W p.d) p.os := by
  subst hr
  exact Calls.regrown_of (prows_any n a cap us hl s hs n₀ _ (hR.step (below_regrown W d os)))
theorem pwithin_re (x y : Nat) (hx : x < 4294967296) (hy : y < 4294967296) (W : World) (r : Bool) (hr : withB x y = r) (d : Nat) (os : Array Obj) :
    Calls Try.prog 22 #[.int .u32 x, .int .u32 y] (Go.Sort.grow (redrawn W d) os) fun e w'' => e = .returned (.bool r) ∧ ∃ p : Regrown, w'' = Go.Sort.grow (redrawn W p.d) p.os := by
  subst hr
  exact Calls.regrown_of ((pwithin_any x y hx hy _).mono fun e w' h => ⟨h.1, h.2 ▸ Below.refl _ _⟩)

set_option maxRecDepth 100000 in
set_option maxHeartbeats 1000000 in
theorem Up_ok (n : Nat) (a : Option Addr) (cap : Nat) (us : List Nat) (s : Nat) (hs : s < 4294967296) (n₀ : Nat) (w : World) (hR : Rdy a us n₀ w) (hc : codeCS n us us.length s = 0) :
    Calls Try.prog 8 #[.agg #[.slice a us.length cap, .int .i64 n], .int .u32 s] w fun e w' => e = polAns 0 (upW n us s) ∧ Below w.heap.size w w' := by
  obtain ⟨r0, hb0, hs0⟩ := one_row w 24 (.slice a us.length cap) (.int .i64 n) rfl
  have R1 := hR.step hb0
  obtain ⟨hcc, ho⟩ := codeCS_zero hc
  obtain ⟨hl16, m', hm', hn16, hin⟩ := codeC_zero hcc
  obtain rfl : n = m' := by omega
  have hck := pcheck_any n a cap us n₀ _ R1
  rw [hcc] at hck
  have hbe := pbeyond_any s us.length hs hl16
  rw [ho] at hbe
  have Hb := hide hb0
  clear hb0 hc hcc ho hin
  go_enter Try.func8, Try.ntmps8
  go_wp2_with fail
  refine hck.mono ?_
  rintro e w1 ⟨rfl, hb1⟩
  have q0 := row_below r0 hb1 r0.lt
  have j0 := q0.cell (i := 0) rfl
  have j1 := q0.cell (i := 1) rfl
  have R2 := R1.step hb1
  have hs1 := hb1.size
  go_wp2_with (first | (go_at_call 19; refine (hbe _).mono ?_; rintro e w' ⟨rfl, hww⟩; rw [hww]; clear hww w') | (go_at_call 20; refine (pcols_any n hn16 a cap us hl16 s hs n₀ w1 R2).mono ?_; rintro e w2 ⟨rfl, hb2⟩))
  go_ret2
  exact ⟨rfl, (Hb.out.trans (hb1.mono (by omega))).trans (hb2.mono (by omega))⟩

set_option maxRecDepth 100000 in
set_option maxHeartbeats 1000000 in
theorem Up_bad (n : Int) (a : Option Addr) (cap : Nat) (us : List Nat) (s : Nat) (hs : s < 4294967296) (n₀ : Nat) (w : World) (hR : Rdy a us n₀ w) (hc : codeCS n us us.length s ≠ 0) :
    Calls Try.prog 8 #[.agg #[.slice a us.length cap, .int .i64 n], .int .u32 s] w fun e w' => e = polAns (codeCS n us us.length s) 0 ∧ Below w.heap.size w w' := by
  obtain ⟨r0, hb0, hs0⟩ := one_row w 24 (.slice a us.length cap) (.int .i64 n) rfl
  have R1 := hR.step hb0
  have hck := pcheck_any n a cap us n₀ _ R1
  by_cases hcc : codeC n us = 0
  · obtain ⟨hl16, m', rfl, hn16, hin⟩ := codeC_zero hcc
    try simp only [Int.toNat_natCast] at hc ⊢
    have ho : outsideB s us.length = true := by
      cases h : outsideB s us.length with
      | true => rfl
      | false => exact absurd (codeCS_ok hcc h) hc
    rw [codeCS_out hcc ho]
    rw [hcc] at hck
    have hbe := pbeyond_any s us.length hs hl16
    rw [ho] at hbe
    have Hb := hide hb0
    clear hb0 hc hcc ho hin
    go_enter Try.func8, Try.ntmps8
    go_wp2_with fail
    refine hck.mono ?_
    rintro e w1 ⟨rfl, hb1⟩
    have q0 := row_below r0 hb1 r0.lt
    have j0 := q0.cell (i := 0) rfl
    have j1 := q0.cell (i := 1) rfl
    go_wp2_with (go_at_call 19; refine (hbe _).mono ?_; rintro e w' ⟨rfl, hww⟩; rw [hww]; clear hww w')
    go_ret2
    exact ⟨rfl, Hb.out.trans (hb1.mono (by omega))⟩
  · rw [codeCS_bad hcc]
    generalize codeC n us = c at *
    have hne : (c != 0) = true := by rw [bne_iff_ne]; exact hcc
    have Hb := hide hb0
    clear hb0 hcc hc
    go_enter Try.func8, Try.ntmps8
    go_wp2_with fail
    refine hck.mono ?_
    rintro e w1 ⟨rfl, hb1⟩
    go_wp2_with fail
    go_ret2
    exact ⟨rfl, Hb.out.trans (hb1.mono (by omega))⟩

set_option maxRecDepth 100000 in
set_option maxHeartbeats 1000000 in
theorem Down_ok (n : Nat) (a : Option Addr) (cap : Nat) (us : List Nat) (s : Nat) (hs : s < 4294967296) (n₀ : Nat) (w : World) (hR : Rdy a us n₀ w) (hc : codeCS n us n s = 0) :
    Calls Try.prog 9 #[.agg #[.slice a us.length cap, .int .i64 n], .int .u32 s] w fun e w' => e = polAns 0 (dnW us s) ∧ Below w.heap.size w w' := by
  obtain ⟨r0, hb0, hs0⟩ := one_row w 24 (.slice a us.length cap) (.int .i64 n) rfl
  have R1 := hR.step hb0
  obtain ⟨hcc, ho⟩ := codeCS_zero hc
  obtain ⟨hl16, m', hm', hn16, hin⟩ := codeC_zero hcc
  obtain rfl : n = m' := by omega
  have hck := pcheck_any n a cap us n₀ _ R1
  rw [hcc] at hck
  have hbe := pbeyond_any s n hs hn16
  rw [ho] at hbe
  have Hb := hide hb0
  clear hb0 hc hcc ho hin
  go_enter Try.func9, Try.ntmps9
  go_wp2_with fail
  refine hck.mono ?_
  rintro e w1 ⟨rfl, hb1⟩
  have q0 := row_below r0 hb1 r0.lt
  have j0 := q0.cell (i := 0) rfl
  have j1 := q0.cell (i := 1) rfl
  have R2 := R1.step hb1
  have hs1 := hb1.size
  go_wp2_with (first | (go_at_call 19; refine (hbe _).mono ?_; rintro e w' ⟨rfl, hww⟩; rw [hww]; clear hww w') | (go_at_call 21; refine (prows_any n a cap us hl16 s hs n₀ w1 R2).mono ?_; rintro e w2 ⟨rfl, hb2⟩))
  go_ret2
  exact ⟨rfl, (Hb.out.trans (hb1.mono (by omega))).trans (hb2.mono (by omega))⟩

set_option maxRecDepth 100000 in
set_option maxHeartbeats 1000000 in
theorem Down_bad (n : Int) (a : Option Addr) (cap : Nat) (us : List Nat) (s : Nat) (hs : s < 4294967296) (n₀ : Nat) (w : World) (hR : Rdy a us n₀ w) (hc : codeCS n us n.toNat s ≠ 0) :
    Calls Try.prog 9 #[.agg #[.slice a us.length cap, .int .i64 n], .int .u32 s] w fun e w' => e = polAns (codeCS n us n.toNat s) 0 ∧ Below w.heap.size w w' := by
  obtain ⟨r0, hb0, hs0⟩ := one_row w 24 (.slice a us.length cap) (.int .i64 n) rfl
  have R1 := hR.step hb0
  have hck := pcheck_any n a cap us n₀ _ R1
  by_cases hcc : codeC n us = 0
  · obtain ⟨hl16, m', rfl, hn16, hin⟩ := codeC_zero hcc
    try simp only [Int.toNat_natCast] at hc ⊢
    have ho : outsideB s m' = true := by
      cases h : outsideB s m' with
      | true => rfl
      | false => exact absurd (codeCS_ok hcc h) hc
    rw [codeCS_out hcc ho]
    rw [hcc] at hck
    have hbe := pbeyond_any s m' hs hn16
    rw [ho] at hbe
    have Hb := hide hb0
    clear hb0 hc hcc ho hin
    go_enter Try.func9, Try.ntmps9
    go_wp2_with fail
    refine hck.mono ?_
    rintro e w1 ⟨rfl, hb1⟩
    have q0 := row_below r0 hb1 r0.lt
    have j0 := q0.cell (i := 0) rfl
    have j1 := q0.cell (i := 1) rfl
    go_wp2_with (go_at_call 19; refine (hbe _).mono ?_; rintro e w' ⟨rfl, hww⟩; rw [hww]; clear hww w')
    go_ret2
    exact ⟨rfl, Hb.out.trans (hb1.mono (by omega))⟩
  · rw [codeCS_bad hcc]
    generalize codeC n us = c at *
    have hne : (c != 0) = true := by rw [bne_iff_ne]; exact hcc
    have Hb := hide hb0
    clear hb0 hcc hc
    go_enter Try.func9, Try.ntmps9
    go_wp2_with fail
    refine hck.mono ?_
    rintro e w1 ⟨rfl, hb1⟩
    go_wp2_with fail
    go_ret2
    exact ⟨rfl, Hb.out.trans (hb1.mono (by omega))⟩

set_option maxRecDepth 100000 in
set_option maxHeartbeats 1000000 in
theorem Implies_ok (n : Nat) (a : Option Addr) (cap : Nat) (us : List Nat) (s t : Nat) (hs : s < 4294967296) (ht : t < 4294967296) (n₀ : Nat) (w : World) (hR : Rdy a us n₀ w) (hc : codeCS n us n (orW s t) = 0) :
    Calls Try.prog 10 #[.agg #[.slice a us.length cap, .int .i64 n], .int .u32 s, .int .u32 t] w fun e w' => e = polYes 0 (impB us s t) ∧ Below w.heap.size w w' := by
  obtain ⟨r0, hb0, hs0⟩ := one_row w 24 (.slice a us.length cap) (.int .i64 n) rfl
  have R1 := hR.step hb0
  obtain ⟨hcc, ho⟩ := codeCS_zero hc
  obtain ⟨hl16, m', hm', hn16, hin⟩ := codeC_zero hcc
  obtain rfl : n = m' := by omega
  have hck := pcheck_any n a cap us n₀ _ R1
  rw [hcc] at hck
  have hor := bits_or32 s t hs ht
  have hbe := pbeyond_any (orW s t) n (orW_lt hs ht) hn16
  rw [ho] at hbe
  have Hb := hide hb0
  clear hb0 hc hcc ho hin
  go_enter Try.func10, Try.ntmps10
  go_wp2_with fail
  refine hck.mono ?_
  rintro e w1 ⟨rfl, hb1⟩
  have q0 := row_below r0 hb1 r0.lt
  have j0 := q0.cell (i := 0) rfl
  have j1 := q0.cell (i := 1) rfl
  have R2 := R1.step hb1
  have hs1 := hb1.size
  obtain ⟨x, hx⟩ : ∃ x, dnW us s = x := ⟨_, rfl⟩
  obtain ⟨y, hy⟩ : ∃ y, dnW us t = y := ⟨_, rfl⟩
  obtain ⟨z, hz⟩ : ∃ z, withB x y = z := ⟨_, rfl⟩
  have lx : x < 4294967296 := hx ▸ dnW_lt hl16 s
  have ly : y < 4294967296 := hy ▸ dnW_lt hl16 t
  have Hz : Hid (impB us s t = z) := by show impB us s t = z; unfold impB; rw [hx, hy, hz]
  have d1 := prows_re n a cap us hl16 s hs n₀ w1 R2 x hx
  have d2 := prows_re n a cap us hl16 t ht n₀ w1 R2 y hy
  have d3 := pwithin_re x y lx ly w1 z hz
  have j2 := q0.cell (i := 0) rfl
  have j3 := q0.cell (i := 1) rfl
  clear hx hy hz
  go_wp2_with (go_at_call 19; refine (hbe _).mono ?_; rintro e w' ⟨rfl, hww⟩; rw [hww]; clear hww w')
  clear hbe j0 j1
  have j0 := cell_regrown j2
  have j1 := cell_regrown j3
  refine wp_region_quiet_below (by kernel_rfl) (by kernel_rfl) ?_
  repeat (go_big_quiet_step (first | with_reducible exact d1 _ _ | with_reducible exact d2 _ _ | with_reducible exact d3 _ _))
  refine wpQuiet_nil ?_
  intro _ hw'
  obtain ⟨⟨dq, osq⟩, hw''⟩ := hw'
  subst hw''
  go_wp2
  go_ret2
  rw [Hz.out]
  exact ⟨rfl, (Hb.out.trans (hb1.mono (by omega))).trans ((below_regrown _ _ _).mono (by omega))⟩

set_option maxRecDepth 100000 in
set_option maxHeartbeats 1000000 in
theorem Implies_bad (n : Int) (a : Option Addr) (cap : Nat) (us : List Nat) (s t : Nat) (hs : s < 4294967296) (ht : t < 4294967296) (n₀ : Nat) (w : World) (hR : Rdy a us n₀ w) (hc : codeCS n us n.toNat (orW s t) ≠ 0) :
    Calls Try.prog 10 #[.agg #[.slice a us.length cap, .int .i64 n], .int .u32 s, .int .u32 t] w fun e w' => e = polYes (codeCS n us n.toNat (orW s t)) false ∧ Below w.heap.size w w' := by
  obtain ⟨r0, hb0, hs0⟩ := one_row w 24 (.slice a us.length cap) (.int .i64 n) rfl
  have R1 := hR.step hb0
  have hck := pcheck_any n a cap us n₀ _ R1
  by_cases hcc : codeC n us = 0
  · obtain ⟨hl16, m', rfl, hn16, hin⟩ := codeC_zero hcc
    try simp only [Int.toNat_natCast] at hc ⊢
    have ho : outsideB (orW s t) m' = true := by
      cases h : outsideB (orW s t) m' with
      | true => rfl
      | false => exact absurd (codeCS_ok hcc h) hc
    rw [codeCS_out hcc ho]
    rw [hcc] at hck
    have hor := bits_or32 s t hs ht
    have hbe := pbeyond_any (orW s t) m' (orW_lt hs ht) hn16
    rw [ho] at hbe
    have Hb := hide hb0
    clear hb0 hc hcc ho hin
    go_enter Try.func10, Try.ntmps10
    go_wp2_with fail
    refine hck.mono ?_
    rintro e w1 ⟨rfl, hb1⟩
    have q0 := row_below r0 hb1 r0.lt
    have j0 := q0.cell (i := 0) rfl
    have j1 := q0.cell (i := 1) rfl
    go_wp2_with (go_at_call 19; refine (hbe _).mono ?_; rintro e w' ⟨rfl, hww⟩; rw [hww]; clear hww w')
    go_ret2
    exact ⟨rfl, Hb.out.trans (hb1.mono (by omega))⟩
  · rw [codeCS_bad hcc]
    generalize codeC n us = c at *
    have hne : (c != 0) = true := by rw [bne_iff_ne]; exact hcc
    have Hb := hide hb0
    clear hb0 hcc hc
    go_enter Try.func10, Try.ntmps10
    go_wp2_with fail
    refine hck.mono ?_
    rintro e w1 ⟨rfl, hb1⟩
    go_wp2_with fail
    go_ret2
    exact ⟨rfl, Hb.out.trans (hb1.mono (by omega))⟩
end Go.Proofs.Ytfdpjnejhacamaa
