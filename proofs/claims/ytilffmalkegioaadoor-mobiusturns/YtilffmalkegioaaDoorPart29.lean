/- The contract of refused. The walk of the law MobiusTurns: it answers true, and writes nothing that was there. -/
import Derived.Test.YtilffmalkegioaaDoorPart17
import Derived.Test.YtilffmalkegioaaDoorPart28
import Derived.Test.YtilffmalkegioaaDoorPart18
import Derived.Test.YtilffmalkegioaaDoorPart27
import Derived.Test.YtilffmalkegioaaDoorPart22
namespace Go.Proofs.YtilffmalkegioaaDoor
open Go.RowKit Go.Shelf

theorem refused_any (n : Int) (a : Option Addr) (cap : Nat) (us : List Nat) (n₀ : Nat) (hf : Fit us) (w : World) (hT : TabAt w) (hw : IsWords n₀ w a us) (hg : 0 < n₀) (hn₀ : n₀ ≤ w.heap.size) :
    Calls Tryd.prog 31 #[.agg #[.int .i64 n, .slice a us.length cap]] w fun e w' => e = .returned (.bool (codeOf n us != 0)) ∧ Below w.heap.size w w' := by
  have hb0 : Below w.heap.size w (w.alloc (.cells #[.int .i64 n, .slice a us.length cap] 24)) := (Below.refl _ _).alloc (Nat.le_refl _) _
  have hck := Check_any n a cap us n₀ hf _ (hT.below hb0 (by omega)) (hw.below (hb0.mono hn₀)) hg (by simp; omega)
  generalize codeOf n us = c at *
  have Hb := hide hb0
  clear hb0
  go_enter Tryd.func31, Tryd.ntmps31
  go_wp2_with (go_at_call 37; refine hck.mono ?_; rintro e w1 ⟨rfl, hb1⟩)
  go_ret
  exact ⟨rfl, Hb.out.trans (hb1.mono (by simp))⟩

end Go.Proofs.YtilffmalkegioaaDoor

namespace Go.Proofs.YtilffmalkegioaaDoor
open Go.RowKit Go.Shelf

theorem ZInts.step {A B : World} {a : Option Addr} {l : List Int} (h : ZInts A.heap.size A a l) (hb : Below A.heap.size A B) : ZInts B.heap.size B a l := (h.below hb).mono hb.size
set_option maxRecDepth 100000 in
set_option maxHeartbeats 4000000 in
theorem mturns_bad (n : Int) (a : Option Addr) (cap : Nat) (us : List Nat) (a1 : Option Addr) (c1_ : Nat) (l1 : List B64) (n₀ : Nat) (hf : Fit us) (w : World) (hT : TabAt w) (hw : IsWords n₀ w a us) (z1 : ZInts n₀ w a1 (tiL l1)) (hg : 0 < n₀) (hn₀ : n₀ ≤ w.heap.size) (hc : codeOf n us ≠ 0) :
    Calls Tryd.prog 9 #[.agg #[.int .i64 n, .slice a us.length cap], .slice a1 l1.length c1_] w fun e w' => e = .returned (.bool true) ∧ Below w.heap.size w w' := by
  have k1 := fun W hw => sound_any n a cap us W.heap.size hf W hw (Nat.le_refl _)
  have k2 := fun W hT hw hg => refused_any n a cap us W.heap.size hf W hT hw hg (Nat.le_refl _)
  have e1 : (codeOf n us == 0) = false := by rw [beq_eq_false_iff_ne]; exact hc
  have e2 : (codeOf n us != 0) = true := by rw [bne_iff_ne]; exact hc
  rw [e1] at k1
  rw [e2] at k2
  clear hc e1 e2
  obtain ⟨W0, hW0⟩ : ∃ V, w.alloc (.cells #[.int .i64 n, .slice a us.length cap] 24) = V := ⟨_, rfl⟩
  obtain ⟨r0, hB, hs0⟩ := one_row w 24 (.int .i64 n) (.slice a us.length cap) hW0
  replace hw := (hw.below (hB.mono hn₀)).mono (show n₀ ≤ W0.heap.size by omega)
  replace z1 := (z1.below (hB.mono hn₀)).mono (show n₀ ≤ W0.heap.size by omega)
  replace hT := hT.below hB (by omega)
  replace hg : 0 < W0.heap.size := by omega
  clear hs0 hn₀
  have c0 := r0.cell (i := 0) rfl
  have c1 := r0.cell (i := 1) rfl
  go_enter Tryd.func9, Tryd.ntmps9
  go_wp2_with fail
  clear hW0
  refine (k1 _ hw).mono ?_
  rintro e w1 ⟨rfl, hb⟩
  clear c0 c1
  replace r0 := row_below r0 hb r0.lt
  replace hw := (hw.below hb).mono hb.size
  replace z1 := z1.step hb
  replace hT := hT.below hb hg
  replace hg := Nat.lt_of_lt_of_le hg hb.size
  replace hB := hB.trans (hb.mono hB.size)
  have c0 := r0.cell (i := 0) rfl
  have c1 := r0.cell (i := 1) rfl
  clear hb
  go_wp2_with fail
  refine (k2 _ hT hw hg).mono ?_
  rintro e w2 ⟨rfl, hb⟩
  clear c0 c1
  replace r0 := row_below r0 hb r0.lt
  replace hw := (hw.below hb).mono hb.size
  replace z1 := z1.step hb
  replace hT := hT.below hb hg
  replace hg := Nat.lt_of_lt_of_le hg hb.size
  replace hB := hB.trans (hb.mono hB.size)
  have c0 := r0.cell (i := 0) rfl
  have c1 := r0.cell (i := 1) rfl
  clear hb
  go_wp2_with fail
  go_ret
  exact ⟨rfl, hB⟩

set_option maxRecDepth 100000 in
set_option maxHeartbeats 4000000 in
theorem mturns_notab (n : Nat) (a : Option Addr) (cap : Nat) (us : List Nat) (a1 : Option Addr) (c1_ : Nat) (l1 : List B64) (n₀ : Nat) (hn : n = us.length) (hf : Fit us) (w : World) (hT : TabAt w) (hw : IsWords n₀ w a us) (z1 : ZInts n₀ w a1 (tiL l1)) (hg : 0 < n₀) (hn₀ : n₀ ≤ w.heap.size) (hc : codeOf n us = 0) (hno : ¬ IsTab us l1) :
    Calls Tryd.prog 9 #[.agg #[.int .i64 n, .slice a n cap], .slice a1 l1.length c1_] w fun e w' => e = .returned (.bool true) ∧ Below w.heap.size w w' := by
  have ks := fun W hw => sound_any n a cap us W.heap.size hf W hw (Nat.le_refl _)
  have e1 : (codeOf n us == 0) = true := by rw [hc]; rfl
  rw [e1, ← hn] at ks
  clear e1
  have k1 := fun W hT hw z1 hg => Inverse_notab n a cap us a1 c1_ l1 W.heap.size hn hf W hT hw z1 hg (Nat.le_refl _) hc hno
  unfold mobErr at k1
  clear hc hn hno
  obtain ⟨W0, hW0⟩ : ∃ V, w.alloc (.cells #[.int .i64 n, .slice a n cap] 24) = V := ⟨_, rfl⟩
  obtain ⟨r0, hB, hs0⟩ := one_row w 24 (.int .i64 n) (.slice a n cap) hW0
  replace hw := (hw.below (hB.mono hn₀)).mono (show n₀ ≤ W0.heap.size by omega)
  replace z1 := (z1.below (hB.mono hn₀)).mono (show n₀ ≤ W0.heap.size by omega)
  replace hT := hT.below hB (by omega)
  replace hg : 0 < W0.heap.size := by omega
  clear hs0 hn₀
  have c0 := r0.cell (i := 0) rfl
  have c1 := r0.cell (i := 1) rfl
  go_enter Tryd.func9, Tryd.ntmps9
  go_wp2_with fail
  clear hW0
  refine (ks _ hw).mono ?_
  rintro e w1 ⟨rfl, hb⟩
  clear c0 c1
  replace r0 := row_below r0 hb r0.lt
  replace hw := (hw.below hb).mono hb.size
  replace z1 := z1.step hb
  replace hT := hT.below hb hg
  replace hg := Nat.lt_of_lt_of_le hg hb.size
  replace hB := hB.trans (hb.mono hB.size)
  have c0 := r0.cell (i := 0) rfl
  have c1 := r0.cell (i := 1) rfl
  clear hb
  go_wp2_with fail
  refine (k1 _ hT hw z1 hg).mono ?_
  rintro e w2 ⟨rfl, hb⟩
  clear c0 c1
  replace r0 := row_below r0 hb r0.lt
  replace hw := (hw.below hb).mono hb.size
  replace z1 := z1.step hb
  replace hT := hT.below hb hg
  replace hg := Nat.lt_of_lt_of_le hg hb.size
  replace hB := hB.trans (hb.mono hB.size)
  have c0 := r0.cell (i := 0) rfl
  have c1 := r0.cell (i := 1) rfl
  clear hb
  go_wp2_with fail
  go_ret
  exact ⟨rfl, hB⟩

set_option maxRecDepth 100000 in
set_option maxHeartbeats 4000000 in
theorem mturns_none (n : Nat) (a : Option Addr) (cap : Nat) (us : List Nat) (a1 : Option Addr) (c1_ : Nat) (l1 : List B64) (n₀ : Nat) (hn : n = us.length) (hf : Fit us) (w : World) (hT : TabAt w) (hw : IsWords n₀ w a us) (z1 : ZInts n₀ w a1 (tiL l1)) (hg : 0 < n₀) (hn₀ : n₀ ≤ w.heap.size) (hc : codeOf n us = 0) (h1 : IsTab us l1) (hno : ¬ PM n (mat n l1)) :
    Calls Tryd.prog 9 #[.agg #[.int .i64 n, .slice a n cap], .slice a1 l1.length c1_] w fun e w' => e = .returned (.bool true) ∧ Below w.heap.size w w' := by
  have ks := fun W hw => sound_any n a cap us W.heap.size hf W hw (Nat.le_refl _)
  have e1 : (codeOf n us == 0) = true := by rw [hc]; rfl
  rw [e1, ← hn] at ks
  clear e1
  have hl1 : l1.length = n * n := by rw [h1.1, hn]
  have k1 := fun W hT hw z1 hg => Inverse_none n a cap us a1 c1_ l1 W.heap.size hn hf W hT hw z1 hg (Nat.le_refl _) hc h1 hno
  unfold mobErr at k1
  rw [hl1]
  clear hc hn hno h1
  obtain ⟨W0, hW0⟩ : ∃ V, w.alloc (.cells #[.int .i64 n, .slice a n cap] 24) = V := ⟨_, rfl⟩
  obtain ⟨r0, hB, hs0⟩ := one_row w 24 (.int .i64 n) (.slice a n cap) hW0
  replace hw := (hw.below (hB.mono hn₀)).mono (show n₀ ≤ W0.heap.size by omega)
  replace z1 := (z1.below (hB.mono hn₀)).mono (show n₀ ≤ W0.heap.size by omega)
  replace hT := hT.below hB (by omega)
  replace hg : 0 < W0.heap.size := by omega
  clear hs0 hn₀
  have c0 := r0.cell (i := 0) rfl
  have c1 := r0.cell (i := 1) rfl
  go_enter Tryd.func9, Tryd.ntmps9
  go_wp2_with fail
  clear hW0
  refine (ks _ hw).mono ?_
  rintro e w1 ⟨rfl, hb⟩
  clear c0 c1
  replace r0 := row_below r0 hb r0.lt
  replace hw := (hw.below hb).mono hb.size
  replace z1 := z1.step hb
  replace hT := hT.below hb hg
  replace hg := Nat.lt_of_lt_of_le hg hb.size
  replace hB := hB.trans (hb.mono hB.size)
  have c0 := r0.cell (i := 0) rfl
  have c1 := r0.cell (i := 1) rfl
  clear hb
  go_wp2_with fail
  refine (k1 _ hT hw z1 hg).mono ?_
  rintro e w2 ⟨rfl, hb⟩
  clear c0 c1
  replace r0 := row_below r0 hb r0.lt
  replace hw := (hw.below hb).mono hb.size
  replace z1 := z1.step hb
  replace hT := hT.below hb hg
  replace hg := Nat.lt_of_lt_of_le hg hb.size
  replace hB := hB.trans (hb.mono hB.size)
  have c0 := r0.cell (i := 0) rfl
  have c1 := r0.cell (i := 1) rfl
  clear hb
  go_wp2_with fail
  go_ret
  exact ⟨rfl, hB⟩

set_option maxRecDepth 100000 in
set_option maxHeartbeats 4000000 in
theorem mturns_tab (n : Nat) (a : Option Addr) (cap : Nat) (us : List Nat) (a1 : Option Addr) (c1_ : Nat) (l1 : List B64) (n₀ : Nat) (hn : n = us.length) (hf : Fit us) (w : World) (hT : TabAt w) (hw : IsWords n₀ w a us) (z1 : ZInts n₀ w a1 (tiL l1)) (hg : 0 < n₀) (hn₀ : n₀ ≤ w.heap.size) (hc : codeOf n us = 0) (h1 : IsTab us l1) (hp : PM n (mat n l1)) :
    Calls Tryd.prog 9 #[.agg #[.int .i64 n, .slice a n cap], .slice a1 l1.length c1_] w fun e w' => e = .returned (.bool true) ∧ Below w.heap.size w w' := by
  have ks := fun W hw => sound_any n a cap us W.heap.size hf W hw (Nat.le_refl _)
  have e1 : (codeOf n us == 0) = true := by rw [hc]; rfl
  rw [e1, ← hn] at ks
  clear e1
  have hl : n ≤ 16 := by have := (code_zero hc).2.1; omega
  have hl1 : l1.length = n * n := by rw [h1.1, hn]
  have hnn : n * n ≤ 256 := Nat.mul_le_mul hl hl
  have ho : IsOrd us := (code_zero hc).2.2.2.2
  obtain ⟨g2, p2, i2, r2, f2⟩ : IsTab us (invL us n l1) ∧ PM n (mat n (invL us n l1)) ∧ invL us n (invL us n l1) = l1 ∧ tabL n (mm n (mat n l1) (mat n (invL us n l1))) = tabL n one ∧ tabL n (mm n (mat n (invL us n l1)) (mat n l1)) = tabL n one := by
    subst hn
    exact ⟨invL_tab ho h1, invL_pm ho h1 hp, invL_inv ho h1 hp, invL_right ho h1 hp, invL_left ho h1 hp⟩
  have k1 := fun W hT hw z1 hg => Inverse_ok n a cap us a1 c1_ l1 W.heap.size hn hf W hT hw z1 hg (Nat.le_refl _) hc h1 hp
  rw [show tabL n (invG (mat n l1) (sortL us)) = invL us n l1 from rfl] at k1
  have hlg := invL_len us n l1
  have k2 := fun ag cg W hT hw z2 hg => Inverse_ok n a cap us ag cg (invL us n l1) W.heap.size hn hf W hT hw z2 hg (Nat.le_refl _) hc g2 p2
  rw [show tabL n (invG (mat n (invL us n l1)) (sortL us)) = invL us n (invL us n l1) from rfl, i2] at k2
  have k3 := fun ag cg W hT hw z1 z2 hg => Times_ok n a cap us a1 c1_ l1 ag cg (invL us n l1) W.heap.size hn hf W hT hw z1 z2 hg (Nat.le_refl _) hc h1 g2
  rw [r2] at k3
  have k4 := fun ag cg W hT hw z2 z1 hg => Times_ok n a cap us ag cg (invL us n l1) a1 c1_ l1 W.heap.size hn hf W hT hw z2 z1 hg (Nat.le_refl _) hc g2 h1
  rw [f2] at k4
  have k5 := fun W => kones_any n hl W
  have hlo := tabL_len n one
  generalize tabL n one = O at *
  generalize invL us n l1 = G at *
  rw [hl1]
  clear hc hn h1 hp g2 p2 i2 r2 f2 ho
  obtain ⟨W0, hW0⟩ : ∃ V, w.alloc (.cells #[.int .i64 n, .slice a n cap] 24) = V := ⟨_, rfl⟩
  obtain ⟨r0, hB, hs0⟩ := one_row w 24 (.int .i64 n) (.slice a n cap) hW0
  replace hw := (hw.below (hB.mono hn₀)).mono (show n₀ ≤ W0.heap.size by omega)
  replace z1 := (z1.below (hB.mono hn₀)).mono (show n₀ ≤ W0.heap.size by omega)
  replace hT := hT.below hB (by omega)
  replace hg : 0 < W0.heap.size := by omega
  clear hs0 hn₀
  have c0 := r0.cell (i := 0) rfl
  have c1 := r0.cell (i := 1) rfl
  go_enter Tryd.func9, Tryd.ntmps9
  go_wp2_with fail
  clear hW0
  refine (ks _ hw).mono ?_
  rintro e w1 ⟨rfl, hb⟩
  clear c0 c1
  replace r0 := row_below r0 hb r0.lt
  replace hw := (hw.below hb).mono hb.size
  replace z1 := z1.step hb
  replace hT := hT.below hb hg
  replace hg := Nat.lt_of_lt_of_le hg hb.size
  replace hB := hB.trans (hb.mono hB.size)
  have c0 := r0.cell (i := 0) rfl
  have c1 := r0.cell (i := 1) rfl
  clear hb
  go_wp2_with fail
  refine (k1 _ hT hw z1 hg).mono ?_
  rintro e w2 ⟨p, rfl, hp, hb, hr⟩
  clear c0 c1
  replace r0 := row_below r0 hb r0.lt
  replace hw := (hw.below hb).mono hb.size
  replace z1 := z1.step hb
  replace hT := hT.below hb hg
  replace hg := Nat.lt_of_lt_of_le hg hb.size
  replace hB := hB.trans (hb.mono hB.size)
  have c0 := r0.cell (i := 0) rfl
  have c1 := r0.cell (i := 1) rfl
  have z2 := hr.b hr.lt
  clear hr hp
  clear hb
  go_wp2_with fail
  refine (k2 _ _ _ hT hw z2 hg).mono ?_
  rintro e w3 ⟨q, rfl, hp, hb, hr⟩
  clear c0 c1
  replace r0 := row_below r0 hb r0.lt
  replace hw := (hw.below hb).mono hb.size
  replace z1 := z1.step hb
  replace z2 := z2.step hb
  replace hT := hT.below hb hg
  replace hg := Nat.lt_of_lt_of_le hg hb.size
  replace hB := hB.trans (hb.mono hB.size)
  have c0 := r0.cell (i := 0) rfl
  have c1 := r0.cell (i := 1) rfl
  have z3 := hr.b hr.lt
  clear hr hp
  clear hb
  go_wp2_with fail
  refine (k3 _ _ _ hT hw z1 z2 hg).mono ?_
  rintro e w4 ⟨r, rfl, hp, hb, hr⟩
  clear c0 c1
  replace r0 := row_below r0 hb r0.lt
  replace hw := (hw.below hb).mono hb.size
  replace z1 := z1.step hb
  replace z2 := z2.step hb
  replace z3 := z3.step hb
  replace hT := hT.below hb hg
  replace hg := Nat.lt_of_lt_of_le hg hb.size
  replace hB := hB.trans (hb.mono hB.size)
  have c0 := r0.cell (i := 0) rfl
  have c1 := r0.cell (i := 1) rfl
  have z4 := hr.b hr.lt
  clear hr hp
  clear hb
  go_wp2_with fail
  refine (k4 _ _ _ hT hw z2 z1 hg).mono ?_
  rintro e w5 ⟨t, rfl, hp, hb, hr⟩
  clear c0 c1
  replace r0 := row_below r0 hb r0.lt
  replace hw := (hw.below hb).mono hb.size
  replace z1 := z1.step hb
  replace z2 := z2.step hb
  replace z3 := z3.step hb
  replace z4 := z4.step hb
  replace hT := hT.below hb hg
  replace hg := Nat.lt_of_lt_of_le hg hb.size
  replace hB := hB.trans (hb.mono hB.size)
  have c0 := r0.cell (i := 0) rfl
  have c1 := r0.cell (i := 1) rfl
  have z5 := hr.b hr.lt
  clear hr hp
  clear hb
  go_wp2_with fail
  refine (Longs_same _ _ _ _ l1 (n * n) _ hl1 (by omega) _ z3 z1 (Nat.le_refl _)).mono ?_
  rintro e w6 ⟨rfl, hb⟩
  clear c0 c1
  replace r0 := row_below r0 hb r0.lt
  replace hw := (hw.below hb).mono hb.size
  replace z1 := z1.step hb
  replace z2 := z2.step hb
  replace z3 := z3.step hb
  replace z4 := z4.step hb
  replace z5 := z5.step hb
  replace hT := hT.below hb hg
  replace hg := Nat.lt_of_lt_of_le hg hb.size
  replace hB := hB.trans (hb.mono hB.size)
  have c0 := r0.cell (i := 0) rfl
  have c1 := r0.cell (i := 1) rfl
  clear hb
  go_wp2_with fail
  refine (k5 _).mono ?_
  rintro e w7 ⟨u, rfl, hp, hb, hr⟩
  clear c0 c1
  replace r0 := row_below r0 hb r0.lt
  replace hw := (hw.below hb).mono hb.size
  replace z1 := z1.step hb
  replace z2 := z2.step hb
  replace z3 := z3.step hb
  replace z4 := z4.step hb
  replace z5 := z5.step hb
  replace hT := hT.below hb hg
  replace hg := Nat.lt_of_lt_of_le hg hb.size
  replace hB := hB.trans (hb.mono hB.size)
  have c0 := r0.cell (i := 0) rfl
  have c1 := r0.cell (i := 1) rfl
  have z6 := hr.b hr.lt
  clear hr hp
  clear hb
  go_wp2_with fail
  refine (Longs_same _ _ _ _ O (n * n) _ hlo (by omega) _ z4 z6 (Nat.le_refl _)).mono ?_
  rintro e w8 ⟨rfl, hb⟩
  clear c0 c1
  replace r0 := row_below r0 hb r0.lt
  replace hw := (hw.below hb).mono hb.size
  replace z1 := z1.step hb
  replace z2 := z2.step hb
  replace z3 := z3.step hb
  replace z4 := z4.step hb
  replace z5 := z5.step hb
  replace z6 := z6.step hb
  replace hT := hT.below hb hg
  replace hg := Nat.lt_of_lt_of_le hg hb.size
  replace hB := hB.trans (hb.mono hB.size)
  have c0 := r0.cell (i := 0) rfl
  have c1 := r0.cell (i := 1) rfl
  clear hb
  go_wp2_with fail
  refine (k5 _).mono ?_
  rintro e w9 ⟨v, rfl, hp, hb, hr⟩
  clear c0 c1
  replace r0 := row_below r0 hb r0.lt
  replace hw := (hw.below hb).mono hb.size
  replace z1 := z1.step hb
  replace z2 := z2.step hb
  replace z3 := z3.step hb
  replace z4 := z4.step hb
  replace z5 := z5.step hb
  replace z6 := z6.step hb
  replace hT := hT.below hb hg
  replace hg := Nat.lt_of_lt_of_le hg hb.size
  replace hB := hB.trans (hb.mono hB.size)
  have c0 := r0.cell (i := 0) rfl
  have c1 := r0.cell (i := 1) rfl
  have z7 := hr.b hr.lt
  clear hr hp
  clear hb
  go_wp2_with fail
  refine (Longs_same _ _ _ _ O (n * n) _ hlo (by omega) _ z5 z7 (Nat.le_refl _)).mono ?_
  rintro e w10 ⟨rfl, hb⟩
  clear c0 c1
  replace r0 := row_below r0 hb r0.lt
  replace hw := (hw.below hb).mono hb.size
  replace z1 := z1.step hb
  replace z2 := z2.step hb
  replace z3 := z3.step hb
  replace z4 := z4.step hb
  replace z5 := z5.step hb
  replace z6 := z6.step hb
  replace z7 := z7.step hb
  replace hT := hT.below hb hg
  replace hg := Nat.lt_of_lt_of_le hg hb.size
  replace hB := hB.trans (hb.mono hB.size)
  have c0 := r0.cell (i := 0) rfl
  have c1 := r0.cell (i := 1) rfl
  clear hb
  go_wp2_with fail
  go_ret
  exact ⟨rfl, hB⟩

theorem mturns_ok (n : Nat) (a : Option Addr) (cap : Nat) (us : List Nat) (a1 : Option Addr) (c1_ : Nat) (l1 : List B64) (n₀ : Nat) (hn : n = us.length) (hf : Fit us) (w : World) (hT : TabAt w) (hw : IsWords n₀ w a us) (z1 : ZInts n₀ w a1 (tiL l1)) (hg : 0 < n₀) (hn₀ : n₀ ≤ w.heap.size) (hc : codeOf n us = 0) :
    Calls Tryd.prog 9 #[.agg #[.int .i64 n, .slice a n cap], .slice a1 l1.length c1_] w fun e w' => e = .returned (.bool true) ∧ Below w.heap.size w w' := by
  by_cases h : IsTab us l1
  · by_cases hp : PM n (mat n l1)
    · exact mturns_tab n a cap us a1 c1_ l1 n₀ hn hf w hT hw z1 hg hn₀ hc h hp
    · exact mturns_none n a cap us a1 c1_ l1 n₀ hn hf w hT hw z1 hg hn₀ hc h hp
  · exact mturns_notab n a cap us a1 c1_ l1 n₀ hn hf w hT hw z1 hg hn₀ hc h
/-- **MobiusTurns answers true, for every order and any numbers, and writes nothing that was there** -/
theorem mturns_any (n : Int) (a : Option Addr) (cap : Nat) (us : List Nat) (a1 : Option Addr) (c1_ : Nat) (l1 : List B64) (n₀ : Nat) (hf : Fit us) (_lz1 : l1.length ≤ 9223372036854775807) (w : World) (hT : TabAt w) (hw : IsWords n₀ w a us) (z1 : ZInts n₀ w a1 (tiL l1)) (hg : 0 < n₀) (hn₀ : n₀ ≤ w.heap.size) :
    Calls Tryd.prog 9 #[.agg #[.int .i64 n, .slice a us.length cap], .slice a1 l1.length c1_] w fun e w' => e = .returned (.bool true) ∧ Below w.heap.size w w' := by
  by_cases hc : codeOf n us = 0
  · obtain rfl := (code_zero hc).2.2.1
    exact mturns_ok us.length a cap us a1 c1_ l1 n₀ rfl hf w hT hw z1 hg hn₀ hc
  · exact mturns_bad n a cap us a1 c1_ l1 n₀ hf w hT hw z1 hg hn₀ hc
end Go.Proofs.YtilffmalkegioaaDoor
