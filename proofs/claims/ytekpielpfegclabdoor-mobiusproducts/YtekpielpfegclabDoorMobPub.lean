/- Package mobius: Zeta, Times, Sums. -/
import Derived.Test.YtekpielpfegclabDoorMobIsTab
import Derived.Test.YtekpielpfegclabDoorMobStrict
import Derived.Test.YtekpielpfegclabDoorCheck
import Derived.Lib.QuietBelow
namespace Go.Proofs.YtekpielpfegclabDoor
open Go.RowKit Go.Shelf

theorem run_field_at (n : Int) (a : Option Addr) (len cap : Nat) (w : World) : Sem.run Tryd.prog (Instr.field 48 (.agg #[.int .i64 n, .slice a len cap]) 1) w = .ok (.slice a len cap) w := by
  first | kernel_rfl | rfl
/-- the answer where there is none -/
def mobErr (c : Int) : Ending := .returned (.tuple #[.slice none 0 0, .int .i64 c])

set_option maxRecDepth 100000 in
set_option maxHeartbeats 1000000 in
theorem Times_bad (n : Int) (a : Option Addr) (cap : Nat) (us : List Nat) (v1 v2 : Value) (n₀ : Nat) (hf : Fit us) (w : World) (hT : TabAt w) (hw : IsWords n₀ w a us) (hg : 0 < n₀) (hn₀ : n₀ ≤ w.heap.size) (hc : codeOf n us ≠ 0) :
    Calls Tryd.prog 11 #[.agg #[.int .i64 n, .slice a us.length cap], v1, v2] w fun e w' => e = mobErr (codeOf n us) ∧ Below w.heap.size w w' := by
  obtain ⟨r0, hb0, hs0⟩ := one_row w 24 (.int .i64 n) (.slice a us.length cap) rfl
  have hck := Check_any n a cap us n₀ hf _ (hT.below hb0 (by omega)) (hw.below (hb0.mono hn₀)) hg (by omega)
  unfold mobErr
  generalize codeOf n us = c at *
  have hne : (c != 0) = true := by rw [bne_iff_ne]; exact hc
  have Hb := hide hb0
  clear hb0 hc hs0
  go_enter Tryd.func11, Tryd.ntmps11
  go_wp2_with (go_at_call 22; refine hck.mono ?_; rintro e w1 ⟨rfl, hb1⟩)
  go_ret2
  exact ⟨rfl, Hb.out.trans (hb1.mono (by simp))⟩

set_option maxRecDepth 100000 in
set_option maxHeartbeats 4000000 in
/-- one of both is no table -/
theorem Times_none (n : Nat) (a : Option Addr) (cap : Nat) (us : List Nat) (af : Option Addr) (cf : Nat) (F : List B64) (ag : Option Addr) (cg : Nat) (G : List B64) (n₀ : Nat) (hn : n = us.length) (hf : Fit us) (w : World) (hT : TabAt w) (hw : IsWords n₀ w a us) (hvF : ZInts n₀ w af (tiL F)) (hvG : ZInts n₀ w ag (tiL G)) (hg : 0 < n₀) (hn₀ : n₀ ≤ w.heap.size) (hc : codeOf n us = 0) (hno : (tabB us F && tabB us G) = false) :
    Calls Tryd.prog 11 #[.agg #[.int .i64 n, .slice a n cap], .slice af F.length cf, .slice ag G.length cg] w fun e w' => e = mobErr 2 ∧ Below w.heap.size w w' := by
  have hl : n ≤ 16 := by have := (code_zero hc).2.1; omega
  obtain ⟨r0, hb0, hs0⟩ := one_row w 24 (.int .i64 n) (.slice a n cap) rfl
  have hck := Check_any n a cap us n₀ hf _ (hT.below hb0 (by omega)) (hw.below (hb0.mono hn₀)) hg (by omega)
  rw [hc, ← hn] at hck
  have t1 := fun (W : World) (hb : Below w.heap.size w W) => isTable_any n a cap us af cf F n₀ hn hf hl W (hw.below (hb.mono hn₀)) (hvF.below (hb.mono hn₀)) (by have := hb.size; omega)
  have t2 := fun (W : World) (hb : Below w.heap.size w W) => isTable_any n a cap us ag cg G n₀ hn hf hl W (hw.below (hb.mono hn₀)) (hvG.below (hb.mono hn₀)) (by have := hb.size; omega)
  have Hb := hide hb0
  unfold mobErr
  clear hb0 hn hc
  generalize tabB us F = x at *
  generalize tabB us G = y at *
  go_enter Tryd.func11, Tryd.ntmps11
  go_wp2_with fail
  refine hck.mono ?_
  rintro e w1 ⟨rfl, hb1⟩
  have q0 := row_below r0 hb1 r0.lt
  have c0 := q0.cell (i := 0) rfl
  have c1 := q0.cell (i := 1) rfl
  have hB1 := Hb.out.trans (hb1.mono (by simp))
  have hs1 := hB1.size
  cases x with
  | false =>
    go_wp2_with fail
    refine (t1 _ hB1).mono ?_
    rintro e w2 ⟨rfl, hb2⟩
    go_wp2_with fail
    go_ret2
    exact ⟨rfl, hB1.trans (hb2.mono hs1)⟩
  | true =>
    obtain rfl : y = false := by simpa using hno
    go_wp2_with fail
    refine (t1 _ hB1).mono ?_
    rintro e w2 ⟨rfl, hb2⟩
    clear c0 c1
    have q2 := row_below q0 hb2 q0.lt
    have c0 := q2.cell (i := 0) rfl
    have c1 := q2.cell (i := 1) rfl
    have hB2 := hB1.trans (hb2.mono hs1)
    have hs2 := hB2.size
    go_wp2_with fail
    refine (t2 _ hB2).mono ?_
    rintro e w3 ⟨rfl, hb3⟩
    go_wp2_with fail
    go_ret2
    exact ⟨rfl, hB2.trans (hb3.mono hs2)⟩
end Go.Proofs.YtekpielpfegclabDoor
