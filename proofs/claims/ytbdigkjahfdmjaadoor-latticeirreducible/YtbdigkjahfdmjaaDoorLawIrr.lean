/- The walk of the law LatticeIrreducible: it answers true, and writes nothing that was there. -/
import Derived.Test.YtbdigkjahfdmjaaDoorIrreducible
import Derived.Test.YtbdigkjahfdmjaaDoorRefIrr
import Derived.Test.YtbdigkjahfdmjaaDoorRefMakeOk
import Derived.Test.YtbdigkjahfdmjaaDoorInts
import Derived.Test.YtbdigkjahfdmjaaDoorTurEx
namespace Go.Proofs.YtbdigkjahfdmjaaDoor
open Go.RowKit Go.Shelf

set_option maxRecDepth 100000 in
set_option maxHeartbeats 1000000 in
theorem irr_err (n : Int) (a : Option Addr) (len cap : Nat) (c : Int) (hc : c ≠ 0) (w : World) (h1 : ∀ W, Below w.heap.size w W → Calls Tryd.prog 26 #[.agg #[.int .i64 n, .slice a len cap]] W fun e w' => e = irrErr c ∧ Below W.heap.size W w') (h2 : ∀ W, Below w.heap.size w W → Calls Tryd.prog 24 #[.agg #[.int .i64 n, .slice a len cap]] W fun e w' => e = latErr c ∧ Below W.heap.size W w') :
    Calls Tryd.prog 8 #[.agg #[.int .i64 n, .slice a len cap]] w fun e w' => e = .returned (.bool true) ∧ Below w.heap.size w w' := by
  obtain ⟨r0, hb0, hs0⟩ := one_row w 25 (.int .i64 n) (.slice a len cap) rfl
  have s1 := h1 _ hb0
  unfold irrErr at s1
  unfold latErr at h2
  have e1 : (c != 0) = true := by rw [bne_iff_ne]; exact hc
  have e2 : (c == c) = true := by simp
  have lt0 := r0.lt
  clear h1 hc
  go_enter Tryd.func8, Tryd.ntmps8
  go_wp2_with (first
    | (go_at_call 26; refine s1.mono ?_; rintro e w1 ⟨rfl, hb1⟩; have q0 := row_below r0 hb1 lt0; have j0 := q0.cell (i := 0) rfl; have j1 := q0.cell (i := 1) rfl; have hB1 : Below w.heap.size w w1 := hb0.trans (hb1.mono (by omega)); have s2 := h2 w1 hB1; clear h2 s1)
    | (go_at_call 24; refine s2.mono ?_; rintro e w2 ⟨rfl, hb2⟩))
  go_ret
  exact ⟨rfl, (hB1.trans (hb2.mono hB1.size)).alloc (by have := hb2.size; have := hB1.size; omega) _⟩

set_option maxRecDepth 100000 in
set_option maxHeartbeats 1000000 in
theorem irr_ok (a : Option Addr) (cap : Nat) (us ds : List Nat) (n₀ : Nat) (hf : Fit us) (w : World) (hT : TabAt w) (hw : IsWords n₀ w a us) (hg : 0 < n₀) (hn₀ : n₀ ≤ w.heap.size) (hc : codeOf us.length us = 0) (hD : Tur us us.length [] ds) (hl : latB us ds = true) :
    Calls Tryd.prog 8 #[.agg #[.int .i64 us.length, .slice a us.length cap]] w fun e w' => e = .returned (.bool true) ∧ Below w.heap.size w w' := by
  have hl16 : us.length ≤ 16 := by have := code_zero hc; omega
  obtain ⟨r0, hb0, hs0⟩ := one_row w 25 (.int .i64 us.length) (.slice a us.length cap) rfl
  have s1 := Irr_ok us.length a cap us ds n₀ hf _ (hT.below hb0 (by omega)) (hw.below (hb0.mono hn₀)) hg (by omega) hc hD hl
  have h2 : ∀ W, Below w.heap.size w W → Calls Tryd.prog 24 #[.agg #[.int .i64 us.length, .slice a us.length cap]] W fun e w' => ∃ (a1 : Option Addr) (l1 c1 : Nat) (a2 : Option Addr) (l2 c2 : Nat) (z1 z2 : Int), e = .returned (.tuple #[.agg #[.slice a1 l1 c1, .slice a2 l2 c2, .int .i64 z1, .int .i64 z2], .int .i64 0]) ∧ Below W.heap.size W w' := fun W hW =>
    (RefMake_ok us.length a cap us ds n₀ hf W (hw.below (hW.mono hn₀)) (by have := hW.size; omega) hc hD hl).mono (by
      rintro e w' ⟨aj, cj, am, cm, js, ms, rfl, hb, _⟩
      exact ⟨_, _, _, _, _, _, _, _, rfl, hb⟩)
  have h3 : ∀ W, Below w.heap.size w W → _ := fun W hW => RefIrr_any a cap us n₀ hf hl16 W (hw.below (hW.mono hn₀)) (by have := hW.size; omega)
  have hll : (lowIrr us).length ≤ 16 := by
    unfold lowIrr
    have := List.length_filter_le (fun x => decide (lowCnt us x = 1)) (List.range us.length)
    simp at this
    omega
  have hlh : (highIrr us).length ≤ 16 := by
    unfold highIrr
    have := List.length_filter_le (fun x => decide (highCnt us x = 1)) (List.range us.length)
    simp at this
    omega
  have lt0 := r0.lt
  clear hc hl hD
  generalize lowIrr us = S1 at *
  generalize highIrr us = S2 at *
  have hts : ∀ (S : List Nat) (a1 a3 : Option Addr) (c1 c3 m : Nat) (W : World), S.length ≤ 16 → IsInts m W a1 S → IsInts m W a3 S → Calls Tryd.prog 28 #[.slice a1 S.length c1, .slice a3 S.length c3] W fun e w' => e = .returned (.bool true) ∧ Below W.heap.size W w' := fun S a1 a3 c1 c3 m W hS i1 i3 =>
    (TimesSame_any a1 a3 c1 c3 S S m rfl (by omega) W i1 i3).mono (by
      rintro e w' ⟨rfl, hb⟩
      exact ⟨by unfold sameIB; simp, hb⟩)
  go_enter Tryd.func8, Tryd.ntmps8
  go_wp2_with (first
    | (go_at_call 26; refine s1.mono ?_; rintro e w1 ⟨a1, c1, a2, c2, rfl, hb1, i1, i2⟩; clear s1; have q0 := row_below r0 hb1 lt0; have lq0 := q0.lt; have j0 := q0.cell (i := 0) rfl; have j1 := q0.cell (i := 1) rfl; have hB1 : Below w.heap.size w w1 := hb0.trans (hb1.mono (by omega)); have s2 := h2 w1 hB1; clear h2)
    | (go_at_call 24; refine s2.mono ?_; rintro e w2 ⟨b1, l1, d1, b2, l2, d2, z1, z2, rfl, hb2⟩; clear s2; have hs2 := hb2.size; have p0 := (row_below q0 hb2 lq0).alloc (.cells #[.slice b1 l1 d1, .slice b2 l2 d2, .int .i64 z1, .int .i64 z2] 53); have lp0 := p0.lt; have j0 := (row_below q0 hb2 lq0).cell (i := 0) rfl; have j1 := (row_below q0 hb2 lq0).cell (i := 1) rfl; have lq2 := (row_below q0 hb2 lq0).lt; have hA : Below w2.heap.size w2 (w2.alloc (.cells #[.slice b1 l1 d1, .slice b2 l2 d2, .int .i64 z1, .int .i64 z2] 53)) := (Below.refl _ _).alloc (Nat.le_refl _) _; have hB2 : Below w.heap.size w (w2.alloc (.cells #[.slice b1 l1 d1, .slice b2 l2 d2, .int .i64 z1, .int .i64 z2] 53)) := (hB1.trans (hb2.mono hB1.size)).trans (hA.mono (by have := hB1.size; omega)); have s3 := h3 _ hB2; clear h3)
    | (go_at_call 27; refine s3.mono ?_; rintro e w3 ⟨a3, c3, a4, c4, rfl, hb3, i3, i4⟩; clear s3; have hs3 := hb3.size; have hB3 : Below w.heap.size w w3 := hB2.trans (hb3.mono hB2.size); have hB13 : Below w1.heap.size w1 w3 := (hb2.trans (hA.mono hs2)).trans (hb3.mono (by simp; omega)); have hs13 := hB13.size; have I1 := (i1.below hB13).mono hs13; have I2 := (i2.below hB13).mono hs13; have t1 := hts S1 a1 a3 c1 c3 w3.heap.size w3 hll I1 i3)
    | (go_at_call 28; refine t1.mono ?_; rintro e w4 ⟨rfl, hb4⟩; clear t1; have t2 := hts S2 a2 a4 c2 c4 w3.heap.size w4 hlh (I2.below hb4) (i4.below hb4))
    | (go_at_call 28; refine t2.mono ?_; rintro e w5 ⟨rfl, hb5⟩; clear t2))
  go_ret
  exact ⟨rfl, (hB3.trans (hb4.mono hB3.size)).trans (hb5.mono (by have := hb4.size; have := hB3.size; omega))⟩

/-- **LatticeIrreducible answers true, for every order, and writes nothing that was there** -/
theorem irr_any (n : Int) (a : Option Addr) (cap : Nat) (us : List Nat) (n₀ : Nat) (hf : Fit us) (w : World) (hT : TabAt w) (hw : IsWords n₀ w a us) (hg : 0 < n₀) (hn₀ : n₀ ≤ w.heap.size) :
    Calls Tryd.prog 8 #[.agg #[.int .i64 n, .slice a us.length cap]] w fun e w' => e = .returned (.bool true) ∧ Below w.heap.size w w' := by
  have hTW : ∀ {W}, Below w.heap.size w W → TabAt W := fun hW => hT.below hW (by omega)
  have hwW : ∀ {W}, Below w.heap.size w W → IsWords n₀ W a us := fun hW => hw.below (hW.mono hn₀)
  have hnW : ∀ {W}, Below w.heap.size w W → n₀ ≤ W.heap.size := fun hW => by have := hW.size; omega
  have hcomp : ∀ {W X}, Below w.heap.size w W → Below W.heap.size W X → Below w.heap.size w X := fun hW hX => hW.trans (hX.mono hW.size)
  by_cases hc : codeOf n us = 0
  · obtain ⟨ds, hD⟩ := tur_ex hf (by have := code_zero hc; omega)
    cases hl : latB us ds with
    | true =>
      have en := (code_zero hc).2.2.1.symm
      subst en
      exact irr_ok a cap us ds n₀ hf w hT hw hg hn₀ hc hD hl
    | false => exact irr_err n a us.length cap 5 (by decide) w (fun W hW => Irr_err n a us.length cap 5 (by decide) W fun X hX => TableOf_none n a cap us ds n₀ hf X (hTW (hcomp hW hX)) (hwW (hcomp hW hX)) hg (hnW (hcomp hW hX)) hc hD hl) (fun W hW => RefMake_none n a cap us ds n₀ hf W (hwW hW) (hnW hW) hc hD hl)
  · exact irr_err n a us.length cap _ hc w (fun W hW => Irr_err n a us.length cap _ hc W fun X hX => TableOf_bad n a cap us n₀ hf X (hTW (hcomp hW hX)) (hwW (hcomp hW hX)) hg (hnW (hcomp hW hX)) hc) (fun W hW => RefMake_bad n a cap us n₀ hf W (hwW hW) (hnW hW) hc)
end Go.Proofs.YtbdigkjahfdmjaaDoor
