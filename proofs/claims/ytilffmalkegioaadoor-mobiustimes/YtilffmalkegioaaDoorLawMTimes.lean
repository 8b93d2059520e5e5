/- The walk of the law MobiusTimes: it answers true, and writes nothing that was there. -/
import Derived.Test.YtilffmalkegioaaDoorMobPubT
import Derived.Test.YtilffmalkegioaaDoorMobRefT
import Derived.Test.YtilffmalkegioaaDoorMobRefTab
import Derived.Test.YtilffmalkegioaaDoorRefCheck
namespace Go.Proofs.YtilffmalkegioaaDoor
open Go.RowKit Go.Shelf

theorem ZInts.step {A B : World} {a : Option Addr} {l : List Int} (h : ZInts A.heap.size A a l) (hb : Below A.heap.size A B) : ZInts B.heap.size B a l := (h.below hb).mono hb.size
set_option maxRecDepth 100000 in
set_option maxHeartbeats 4000000 in
theorem mtimes_bad (n : Int) (a : Option Addr) (cap : Nat) (us : List Nat) (a1 : Option Addr) (c1_ : Nat) (l1 : List B64) (a2 : Option Addr) (c2_ : Nat) (l2 : List B64) (n₀ : Nat) (hf : Fit us) (w : World) (hT : TabAt w) (hw : IsWords n₀ w a us) (z1 : ZInts n₀ w a1 (tiL l1)) (z2 : ZInts n₀ w a2 (tiL l2)) (hg : 0 < n₀) (hn₀ : n₀ ≤ w.heap.size) (hc : codeOf n us ≠ 0) :
    Calls Tryd.prog 4 #[.agg #[.int .i64 n, .slice a us.length cap], .slice a1 l1.length c1_, .slice a2 l2.length c2_] w fun e w' => e = .returned (.bool true) ∧ Below w.heap.size w w' := by
  have e1 : (codeOf n us == 0) = false := by rw [beq_eq_false_iff_ne]; exact hc
  have e2 : (codeOf n us != 0) = true := by rw [bne_iff_ne]; exact hc
  have k1 := fun W hT hw hg => Times_bad n a cap us (.slice a1 l1.length c1_) (.slice a2 l2.length c2_) W.heap.size hf W hT hw hg (Nat.le_refl _) hc
  have k2 := fun W hw => OrderCheck_any n a cap us W.heap.size hf W hw (Nat.le_refl _)
  unfold mobErr at k1
  generalize codeOf n us = c at *
  clear hc
  obtain ⟨W0, hW0⟩ : ∃ V, w.alloc (.cells #[.int .i64 n, .slice a us.length cap] 24) = V := ⟨_, rfl⟩
  obtain ⟨r0, hB, hs0⟩ := one_row w 24 (.int .i64 n) (.slice a us.length cap) hW0
  replace hw := (hw.below (hB.mono hn₀)).mono (show n₀ ≤ W0.heap.size by omega)
  replace z1 := (z1.below (hB.mono hn₀)).mono (show n₀ ≤ W0.heap.size by omega)
  replace z2 := (z2.below (hB.mono hn₀)).mono (show n₀ ≤ W0.heap.size by omega)
  replace hT := hT.below hB (by omega)
  replace hg : 0 < W0.heap.size := by omega
  clear hs0 hn₀
  have c0 := r0.cell (i := 0) rfl
  have c1 := r0.cell (i := 1) rfl
  go_enter Tryd.func4, Tryd.ntmps4
  go_wp2_with fail
  clear hW0
  refine (k1 _ hT hw hg).mono ?_
  rintro e w1 ⟨rfl, hb⟩
  clear c0 c1
  replace r0 := row_below r0 hb r0.lt
  replace hw := (hw.below hb).mono hb.size
  replace z1 := z1.step hb
  replace z2 := z2.step hb
  replace hT := hT.below hb hg
  replace hg := Nat.lt_of_lt_of_le hg hb.size
  replace hB := hB.trans (hb.mono hB.size)
  have c0 := r0.cell (i := 0) rfl
  have c1 := r0.cell (i := 1) rfl
  clear hb
  go_wp2_with fail
  refine (k2 _ hw).mono ?_
  rintro e w2 ⟨rfl, hb⟩
  clear c0 c1
  replace r0 := row_below r0 hb r0.lt
  replace hw := (hw.below hb).mono hb.size
  replace z1 := z1.step hb
  replace z2 := z2.step hb
  replace hT := hT.below hb hg
  replace hg := Nat.lt_of_lt_of_le hg hb.size
  replace hB := hB.trans (hb.mono hB.size)
  have c0 := r0.cell (i := 0) rfl
  have c1 := r0.cell (i := 1) rfl
  clear hb
  go_wp2_with fail
  go_ret
  exact ⟨rfl, hB⟩

set_option maxRecDepth 100000 in
set_option maxHeartbeats 4000000 in
theorem mtimes_none (n : Nat) (a : Option Addr) (cap : Nat) (us : List Nat) (a1 : Option Addr) (c1_ : Nat) (l1 : List B64) (a2 : Option Addr) (c2_ : Nat) (l2 : List B64) (n₀ : Nat) (hn : n = us.length) (hf : Fit us) (w : World) (hT : TabAt w) (hw : IsWords n₀ w a us) (z1 : ZInts n₀ w a1 (tiL l1)) (z2 : ZInts n₀ w a2 (tiL l2)) (hg : 0 < n₀) (hn₀ : n₀ ≤ w.heap.size) (hc : codeOf n us = 0) (hno : (tabB us l1 && tabB us l2) = false) :
    Calls Tryd.prog 4 #[.agg #[.int .i64 n, .slice a n cap], .slice a1 l1.length c1_, .slice a2 l2.length c2_] w fun e w' => e = .returned (.bool true) ∧ Below w.heap.size w w' := by
  have hl : n ≤ 16 := by have := (code_zero hc).2.1; omega
  have k1 := fun W hT hw z1 z2 hg => Times_none n a cap us a1 c1_ l1 a2 c2_ l2 W.heap.size hn hf W hT hw z1 z2 hg (Nat.le_refl _) hc hno
  have k2 := fun W hw => OrderCheck_any n a cap us W.heap.size hf W hw (Nat.le_refl _)
  have t1 := fun W hw z1 => Table_any n a cap us a1 c1_ l1 W.heap.size hn hf hl W hw z1 (Nat.le_refl _)
  have t2 := fun W hw z2 => Table_any n a cap us a2 c2_ l2 W.heap.size hn hf hl W hw z2 (Nat.le_refl _)
  unfold mobErr at k1
  rw [hc, ← hn] at k2
  generalize tabB us l1 = x at *
  generalize tabB us l2 = y at *
  clear hc hn hl
  obtain ⟨W0, hW0⟩ : ∃ V, w.alloc (.cells #[.int .i64 n, .slice a n cap] 24) = V := ⟨_, rfl⟩
  obtain ⟨r0, hB, hs0⟩ := one_row w 24 (.int .i64 n) (.slice a n cap) hW0
  replace hw := (hw.below (hB.mono hn₀)).mono (show n₀ ≤ W0.heap.size by omega)
  replace z1 := (z1.below (hB.mono hn₀)).mono (show n₀ ≤ W0.heap.size by omega)
  replace z2 := (z2.below (hB.mono hn₀)).mono (show n₀ ≤ W0.heap.size by omega)
  replace hT := hT.below hB (by omega)
  replace hg : 0 < W0.heap.size := by omega
  clear hs0 hn₀
  have c0 := r0.cell (i := 0) rfl
  have c1 := r0.cell (i := 1) rfl
  go_enter Tryd.func4, Tryd.ntmps4
  go_wp2_with fail
  clear hW0
  refine (k1 _ hT hw z1 z2 hg).mono ?_
  rintro e w1 ⟨rfl, hb⟩
  clear c0 c1
  replace r0 := row_below r0 hb r0.lt
  replace hw := (hw.below hb).mono hb.size
  replace z1 := z1.step hb
  replace z2 := z2.step hb
  replace hT := hT.below hb hg
  replace hg := Nat.lt_of_lt_of_le hg hb.size
  replace hB := hB.trans (hb.mono hB.size)
  have c0 := r0.cell (i := 0) rfl
  have c1 := r0.cell (i := 1) rfl
  clear hb
  go_wp2_with fail
  refine (k2 _ hw).mono ?_
  rintro e w2 ⟨rfl, hb⟩
  clear c0 c1
  replace r0 := row_below r0 hb r0.lt
  replace hw := (hw.below hb).mono hb.size
  replace z1 := z1.step hb
  replace z2 := z2.step hb
  replace hT := hT.below hb hg
  replace hg := Nat.lt_of_lt_of_le hg hb.size
  replace hB := hB.trans (hb.mono hB.size)
  have c0 := r0.cell (i := 0) rfl
  have c1 := r0.cell (i := 1) rfl
  clear hb
  cases x with
  | false =>
    go_wp2_with fail
    refine (t1 _ hw z1).mono ?_
    rintro e w3 ⟨rfl, hb⟩
    clear c0 c1
    replace r0 := row_below r0 hb r0.lt
    replace hw := (hw.below hb).mono hb.size
    replace z1 := z1.step hb
    replace z2 := z2.step hb
    replace hT := hT.below hb hg
    replace hg := Nat.lt_of_lt_of_le hg hb.size
    replace hB := hB.trans (hb.mono hB.size)
    have c0 := r0.cell (i := 0) rfl
    have c1 := r0.cell (i := 1) rfl
    clear hb
    go_wp2_with fail
    go_ret
    exact ⟨rfl, hB⟩
  | true =>
    obtain rfl : y = false := by simpa using hno
    go_wp2_with fail
    refine (t1 _ hw z1).mono ?_
    rintro e w3 ⟨rfl, hb⟩
    clear c0 c1
    replace r0 := row_below r0 hb r0.lt
    replace hw := (hw.below hb).mono hb.size
    replace z1 := z1.step hb
    replace z2 := z2.step hb
    replace hT := hT.below hb hg
    replace hg := Nat.lt_of_lt_of_le hg hb.size
    replace hB := hB.trans (hb.mono hB.size)
    have c0 := r0.cell (i := 0) rfl
    have c1 := r0.cell (i := 1) rfl
    clear hb
    go_wp2_with fail
    refine (t2 _ hw z2).mono ?_
    rintro e w4 ⟨rfl, hb⟩
    clear c0 c1
    replace r0 := row_below r0 hb r0.lt
    replace hw := (hw.below hb).mono hb.size
    replace z1 := z1.step hb
    replace z2 := z2.step hb
    replace hT := hT.below hb hg
    replace hg := Nat.lt_of_lt_of_le hg hb.size
    replace hB := hB.trans (hb.mono hB.size)
    have c0 := r0.cell (i := 0) rfl
    have c1 := r0.cell (i := 1) rfl
    clear hb
    go_wp2_with fail
    go_ret
    exact ⟨rfl, hB⟩

set_option maxRecDepth 100000 in
set_option maxHeartbeats 4000000 in
theorem mtimes_tab (n : Nat) (a : Option Addr) (cap : Nat) (us : List Nat) (a1 : Option Addr) (c1_ : Nat) (l1 : List B64) (a2 : Option Addr) (c2_ : Nat) (l2 : List B64) (n₀ : Nat) (hn : n = us.length) (hf : Fit us) (w : World) (hT : TabAt w) (hw : IsWords n₀ w a us) (z1 : ZInts n₀ w a1 (tiL l1)) (z2 : ZInts n₀ w a2 (tiL l2)) (hg : 0 < n₀) (hn₀ : n₀ ≤ w.heap.size) (hc : codeOf n us = 0) (h1 : IsTab us l1) (h2 : IsTab us l2) :
    Calls Tryd.prog 4 #[.agg #[.int .i64 n, .slice a n cap], .slice a1 l1.length c1_, .slice a2 l2.length c2_] w fun e w' => e = .returned (.bool true) ∧ Below w.heap.size w w' := by
  have hl : n ≤ 16 := by have := (code_zero hc).2.1; omega
  have hl1 : l1.length = n * n := by rw [h1.1, hn]
  have hl2 : l2.length = n * n := by rw [h2.1, hn]
  have hnn : n * n ≤ 256 := Nat.mul_le_mul hl hl
  have k1 := fun W hT hw z1 z2 hg => Times_ok n a cap us a1 c1_ l1 a2 c2_ l2 W.heap.size hn hf W hT hw z1 z2 hg (Nat.le_refl _) hc h1 h2
  have k2 := fun W hw => OrderCheck_any n a cap us W.heap.size hf W hw (Nat.le_refl _)
  have t1 := fun W hw z1 => Table_any n a cap us a1 c1_ l1 W.heap.size hn hf hl W hw z1 (Nat.le_refl _)
  have t2 := fun W hw z2 => Table_any n a cap us a2 c2_ l2 W.heap.size hn hf hl W hw z2 (Nat.le_refl _)
  have k3 := fun W hw z1 z2 => RTimes_any n a cap us a1 c1_ l1 a2 c2_ l2 W.heap.size hn hf hl hl1 hl2 W hw z1 z2 (Nat.le_refl _)
  have hsame : tabL n (tmM us (mat n l1) (mat n l2)) = tabL n (mm n (mat n l1) (mat n l2)) := by
    subst hn
    exact tabL_congr (tm_is h1.2 h2.2)
  rw [hsame] at k3
  rw [hc, ← hn] at k2
  rw [tabB_true.2 h1, hl1] at t1
  rw [tabB_true.2 h2, hl2] at t2
  rw [hl1, hl2]
  have hlen := tabL_len n (mm n (mat n l1) (mat n l2))
  generalize tabL n (mm n (mat n l1) (mat n l2)) = R at *
  clear hc hn hl h1 h2 hsame
  obtain ⟨W0, hW0⟩ : ∃ V, w.alloc (.cells #[.int .i64 n, .slice a n cap] 24) = V := ⟨_, rfl⟩
  obtain ⟨r0, hB, hs0⟩ := one_row w 24 (.int .i64 n) (.slice a n cap) hW0
  replace hw := (hw.below (hB.mono hn₀)).mono (show n₀ ≤ W0.heap.size by omega)
  replace z1 := (z1.below (hB.mono hn₀)).mono (show n₀ ≤ W0.heap.size by omega)
  replace z2 := (z2.below (hB.mono hn₀)).mono (show n₀ ≤ W0.heap.size by omega)
  replace hT := hT.below hB (by omega)
  replace hg : 0 < W0.heap.size := by omega
  clear hs0 hn₀
  have c0 := r0.cell (i := 0) rfl
  have c1 := r0.cell (i := 1) rfl
  go_enter Tryd.func4, Tryd.ntmps4
  go_wp2_with fail
  clear hW0
  refine (k1 _ hT hw z1 z2 hg).mono ?_
  rintro e w1 ⟨p, rfl, hp, hb, hr⟩
  clear c0 c1
  replace r0 := row_below r0 hb r0.lt
  replace hw := (hw.below hb).mono hb.size
  replace z1 := z1.step hb
  replace z2 := z2.step hb
  replace hT := hT.below hb hg
  replace hg := Nat.lt_of_lt_of_le hg hb.size
  replace hB := hB.trans (hb.mono hB.size)
  have c0 := r0.cell (i := 0) rfl
  have c1 := r0.cell (i := 1) rfl
  have z3 := hr.b hr.lt
  clear hr hp
  clear hb
  go_wp2_with fail
  refine (k2 _ hw).mono ?_
  rintro e w2 ⟨rfl, hb⟩
  clear c0 c1
  replace r0 := row_below r0 hb r0.lt
  replace hw := (hw.below hb).mono hb.size
  replace z1 := z1.step hb
  replace z2 := z2.step hb
  replace z3 := z3.step hb
  replace hT := hT.below hb hg
  replace hg := Nat.lt_of_lt_of_le hg hb.size
  replace hB := hB.trans (hb.mono hB.size)
  have c0 := r0.cell (i := 0) rfl
  have c1 := r0.cell (i := 1) rfl
  clear hb
  go_wp2_with fail
  refine (t1 _ hw z1).mono ?_
  rintro e w3 ⟨rfl, hb⟩
  clear c0 c1
  replace r0 := row_below r0 hb r0.lt
  replace hw := (hw.below hb).mono hb.size
  replace z1 := z1.step hb
  replace z2 := z2.step hb
  replace z3 := z3.step hb
  replace hT := hT.below hb hg
  replace hg := Nat.lt_of_lt_of_le hg hb.size
  replace hB := hB.trans (hb.mono hB.size)
  have c0 := r0.cell (i := 0) rfl
  have c1 := r0.cell (i := 1) rfl
  clear hb
  go_wp2_with fail
  refine (t2 _ hw z2).mono ?_
  rintro e w4 ⟨rfl, hb⟩
  clear c0 c1
  replace r0 := row_below r0 hb r0.lt
  replace hw := (hw.below hb).mono hb.size
  replace z1 := z1.step hb
  replace z2 := z2.step hb
  replace z3 := z3.step hb
  replace hT := hT.below hb hg
  replace hg := Nat.lt_of_lt_of_le hg hb.size
  replace hB := hB.trans (hb.mono hB.size)
  have c0 := r0.cell (i := 0) rfl
  have c1 := r0.cell (i := 1) rfl
  clear hb
  go_wp2_with fail
  refine (k3 _ hw z1 z2).mono ?_
  rintro e w5 ⟨av, cv, rfl, hb, hown⟩
  clear c0 c1
  replace r0 := row_below r0 hb r0.lt
  replace hw := (hw.below hb).mono hb.size
  replace z1 := z1.step hb
  replace z2 := z2.step hb
  replace z3 := z3.step hb
  replace hT := hT.below hb hg
  replace hg := Nat.lt_of_lt_of_le hg hb.size
  replace hB := hB.trans (hb.mono hB.size)
  have c0 := r0.cell (i := 0) rfl
  have c1 := r0.cell (i := 1) rfl
  have z4 := ownsRow_b hown
  clear hown
  clear hb
  go_wp2_with fail
  refine (Longs_same _ _ _ _ R (n * n) _ hlen (by omega) _ z3 z4 (Nat.le_refl _)).mono ?_
  rintro e w6 ⟨rfl, hb⟩
  clear c0 c1
  replace r0 := row_below r0 hb r0.lt
  replace hw := (hw.below hb).mono hb.size
  replace z1 := z1.step hb
  replace z2 := z2.step hb
  replace z3 := z3.step hb
  replace z4 := z4.step hb
  replace hT := hT.below hb hg
  replace hg := Nat.lt_of_lt_of_le hg hb.size
  replace hB := hB.trans (hb.mono hB.size)
  have c0 := r0.cell (i := 0) rfl
  have c1 := r0.cell (i := 1) rfl
  clear hb
  go_wp2_with fail
  go_ret
  exact ⟨rfl, hB⟩

theorem mtimes_ok (n : Nat) (a : Option Addr) (cap : Nat) (us : List Nat) (a1 : Option Addr) (c1_ : Nat) (l1 : List B64) (a2 : Option Addr) (c2_ : Nat) (l2 : List B64) (n₀ : Nat) (hn : n = us.length) (hf : Fit us) (w : World) (hT : TabAt w) (hw : IsWords n₀ w a us) (z1 : ZInts n₀ w a1 (tiL l1)) (z2 : ZInts n₀ w a2 (tiL l2)) (hg : 0 < n₀) (hn₀ : n₀ ≤ w.heap.size) (hc : codeOf n us = 0) :
    Calls Tryd.prog 4 #[.agg #[.int .i64 n, .slice a n cap], .slice a1 l1.length c1_, .slice a2 l2.length c2_] w fun e w' => e = .returned (.bool true) ∧ Below w.heap.size w w' := by
  by_cases h : (tabB us l1 && tabB us l2) = true
  · rw [Bool.and_eq_true] at h
    exact mtimes_tab n a cap us a1 c1_ l1 a2 c2_ l2 n₀ hn hf w hT hw z1 z2 hg hn₀ hc (tabB_true.1 h.1) (tabB_true.1 h.2)
  · exact mtimes_none n a cap us a1 c1_ l1 a2 c2_ l2 n₀ hn hf w hT hw z1 z2 hg hn₀ hc (by simpa using h)
/-- **MobiusTimes answers true, for every order and any numbers, and writes nothing that was there** -/
theorem mtimes_any (n : Int) (a : Option Addr) (cap : Nat) (us : List Nat) (a1 : Option Addr) (c1_ : Nat) (l1 : List B64) (a2 : Option Addr) (c2_ : Nat) (l2 : List B64) (n₀ : Nat) (hf : Fit us) (_lz1 : l1.length ≤ 9223372036854775807) (_lz2 : l2.length ≤ 9223372036854775807) (w : World) (hT : TabAt w) (hw : IsWords n₀ w a us) (z1 : ZInts n₀ w a1 (tiL l1)) (z2 : ZInts n₀ w a2 (tiL l2)) (hg : 0 < n₀) (hn₀ : n₀ ≤ w.heap.size) :
    Calls Tryd.prog 4 #[.agg #[.int .i64 n, .slice a us.length cap], .slice a1 l1.length c1_, .slice a2 l2.length c2_] w fun e w' => e = .returned (.bool true) ∧ Below w.heap.size w w' := by
  by_cases hc : codeOf n us = 0
  · obtain rfl := (code_zero hc).2.2.1
    exact mtimes_ok us.length a cap us a1 c1_ l1 a2 c2_ l2 n₀ rfl hf w hT hw z1 z2 hg hn₀ hc
  · exact mtimes_bad n a cap us a1 c1_ l1 a2 c2_ l2 n₀ hf w hT hw z1 z2 hg hn₀ hc
end Go.Proofs.YtilffmalkegioaaDoor
