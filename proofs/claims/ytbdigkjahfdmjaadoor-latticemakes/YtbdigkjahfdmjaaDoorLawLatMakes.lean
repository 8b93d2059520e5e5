/- The walk of the law LatticeMakes: it answers true, and writes nothing that was there. -/
import Derived.Test.YtbdigkjahfdmjaaDoorRefMakeOk
import Derived.Test.YtbdigkjahfdmjaaDoorMake
import Derived.Test.YtbdigkjahfdmjaaDoorInts
import Derived.Test.YtbdigkjahfdmjaaDoorTurEx
namespace Go.Proofs.YtbdigkjahfdmjaaDoor
open Go.RowKit Go.Shelf

set_option maxRecDepth 100000 in
set_option maxHeartbeats 1000000 in
theorem Lattices_same (a1 a2 a3 a4 : Option Addr) (c1 c2 c3 c4 : Nat) (js ms : List Nat) (bt tp : Int) (n₀ : Nat) (h1 : js.length ≤ 256) (h2 : ms.length ≤ 256) (w : World) (i1 : IsInts n₀ w a1 js) (i2 : IsInts n₀ w a2 ms) (i3 : IsInts n₀ w a3 js) (i4 : IsInts n₀ w a4 ms) (hn₀ : n₀ ≤ w.heap.size) :
    Calls Tryd.prog 25 #[.agg #[.slice a1 js.length c1, .slice a2 ms.length c2, .int .i64 bt, .int .i64 tp], .agg #[.slice a3 js.length c3, .slice a4 ms.length c4, .int .i64 bt, .int .i64 tp]] w fun e w' => e = .returned (.bool true) ∧ Below w.heap.size w w' := by
  obtain ⟨r0, r1, hb0, hs0⟩ := rows_two w 53 53 [.slice a1 js.length c1, .slice a2 ms.length c2, .int .i64 bt, .int .i64 tp] [.slice a3 js.length c3, .slice a4 ms.length c4, .int .i64 bt, .int .i64 tp] rfl
  have hts : ∀ W, Below w.heap.size w W → Calls Tryd.prog 28 #[.slice a1 js.length c1, .slice a3 js.length c3] W fun e w' => e = .returned (.bool true) ∧ Below W.heap.size W w' := fun W hW =>
    (TimesSame_any a1 a3 c1 c3 js js n₀ rfl (by omega) W (i1.below (hW.mono hn₀)) (i3.below (hW.mono hn₀))).mono (by
      rintro e w' ⟨rfl, hb⟩
      exact ⟨by unfold sameIB; simp, hb⟩)
  have htm : ∀ W, Below w.heap.size w W → Calls Tryd.prog 28 #[.slice a2 ms.length c2, .slice a4 ms.length c4] W fun e w' => e = .returned (.bool true) ∧ Below W.heap.size W w' := fun W hW =>
    (TimesSame_any a2 a4 c2 c4 ms ms n₀ rfl (by omega) W (i2.below (hW.mono hn₀)) (i4.below (hW.mono hn₀))).mono (by
      rintro e w' ⟨rfl, hb⟩
      exact ⟨by unfold sameIB; simp, hb⟩)
  have h1' := hts _ hb0
  have Hb := hide hb0
  clear hts
  go_enter Tryd.func25, Tryd.ntmps25
  go_wp2_with (first
    | (go_at_call 28; refine h1'.mono ?_; rintro e w1 ⟨rfl, hb1⟩; have hs1 := hb1.size; have hB1 : Below w.heap.size w w1 := hb0.trans (hb1.mono (by omega)); have q0 := row_below r0 hb1 r0.lt; have q1 := row_below r1 hb1 r1.lt; have j1 := q0.cell (i := 1) rfl; have j2 := q0.cell (i := 2) rfl; have j3 := q0.cell (i := 3) rfl; have k1 := q1.cell (i := 1) rfl; have k2 := q1.cell (i := 2) rfl; have k3 := q1.cell (i := 3) rfl; have h2' := htm w1 hB1; clear h1' htm)
    | (go_at_call 28; refine h2'.mono ?_; rintro e w2 ⟨rfl, hb2⟩; have p0 := row_below q0 hb2 q0.lt; have p1 := row_below q1 hb2 q1.lt; have j2 := p0.cell (i := 2) rfl; have j3 := p0.cell (i := 3) rfl; have k2 := p1.cell (i := 2) rfl; have k3 := p1.cell (i := 3) rfl))
  go_ret
  exact ⟨by simp, hB1.trans (hb2.mono (by omega))⟩

set_option maxRecDepth 100000 in
set_option maxHeartbeats 1000000 in
theorem latmakes_err (n : Int) (a : Option Addr) (len cap : Nat) (c : Int) (w : World) (hm : ∀ W, Below w.heap.size w W → Calls Tryd.prog 23 #[.agg #[.int .i64 n, .slice a len cap]] W fun e w' => e = latErr c ∧ Below W.heap.size W w') (hr : ∀ W, Below w.heap.size w W → Calls Tryd.prog 24 #[.agg #[.int .i64 n, .slice a len cap]] W fun e w' => e = latErr c ∧ Below W.heap.size W w') :
    Calls Tryd.prog 7 #[.agg #[.int .i64 n, .slice a len cap]] w fun e w' => e = .returned (.bool true) ∧ Below w.heap.size w w' := by
  obtain ⟨r0, hb0, hs0⟩ := one_row w 25 (.int .i64 n) (.slice a len cap) rfl
  have h1 := hm _ hb0
  have hcc : (c == c) = true := by simp
  unfold latErr at h1 hr
  clear hm
  go_enter Tryd.func7, Tryd.ntmps7
  go_wp2_with (first
    | (go_at_call 23; refine h1.mono ?_; rintro e w1 ⟨rfl, hb1⟩; have hs1 := hb1.size; have hB1 : Below w.heap.size w w1 := hb0.trans (hb1.mono (by omega)); have q0 := row_below r0 hb1 r0.lt; have lt0 := q0.lt; have j0 := q0.cell (i := 0) rfl; have j1 := q0.cell (i := 1) rfl; have h2 := hr (w1.alloc (.cells #[.slice none 0 0, .slice none 0 0, .int .i64 0, .int .i64 0] 53)) (hB1.alloc (by omega) _))
    | (go_at_call 24; refine h2.mono ?_; rintro e w2 ⟨rfl, hb2⟩; have rA := row_below (Row.new w1 53 [.slice none 0 0, .slice none 0 0, .int .i64 0, .int .i64 0]) hb2 (by simp); have lA := rA.lt; have hs2 := hb2.size; have k0 := rA.cell (i := 0) rfl; have k1 := rA.cell (i := 1) rfl; have k2 := rA.cell (i := 2) rfl; have k3 := rA.cell (i := 3) rfl; have hB2 : Below w.heap.size w w2 := (hB1.alloc (by omega) _).trans (hb2.mono (by simp; omega)); have h3 := Lattices_same none none none none 0 0 0 0 [] [] 0 0 0 (by simp) (by simp) (w2.alloc (.cells #[.slice none 0 0, .slice none 0 0, .int .i64 0, .int .i64 0] 53)) (.inl rfl) (.inl rfl) (.inl rfl) (.inl rfl) (by simp))
    | (go_at_call 25; refine h3.mono ?_; rintro e w3 ⟨rfl, hb3⟩))
  go_ret
  exact ⟨rfl, (hB2.alloc (by simp at hs2; omega) _).trans (hb3.mono (by simp at hs2 ⊢; omega))⟩

set_option maxRecDepth 100000 in
set_option maxHeartbeats 1000000 in
theorem latmakes_ok (n : Int) (a : Option Addr) (cap : Nat) (us ds : List Nat) (n₀ : Nat) (hf : Fit us) (w : World) (hT : TabAt w) (hw : IsWords n₀ w a us) (hg : 0 < n₀) (hn₀ : n₀ ≤ w.heap.size) (hc : codeOf n us = 0) (hD : Tur us us.length [] ds) (hl : latB us ds = true) :
    Calls Tryd.prog 7 #[.agg #[.int .i64 n, .slice a us.length cap]] w fun e w' => e = .returned (.bool true) ∧ Below w.heap.size w w' := by
  obtain ⟨r0, hb0, hs0⟩ := one_row w 25 (.int .i64 n) (.slice a us.length cap) rfl
  have h1 := Make_ok n a cap us ds n₀ hf _ (hT.below hb0 (by omega)) (hw.below (hb0.mono hn₀)) hg (by simp; omega) hc hD hl
  have h2 : ∀ W, Below w.heap.size w W → _ := fun W hW => RefMake_ok n a cap us ds n₀ hf W (hw.below (hW.mono hn₀)) (by have := hW.size; omega) hc hD hl
  have hord := (code_zero hc).2.2.2.2
  have hl16 : us.length ≤ 16 := by have := code_zero hc; omega
  have hordD := tur_ord hord hD
  have h256 : us.length * us.length ≤ 256 := Nat.mul_le_mul hl16 hl16
  clear hc hl hD
  generalize us.length * us.length = nn at *
  go_enter Tryd.func7, Tryd.ntmps7
  go_wp2_with (first
    | (go_at_call 23; refine h1.mono ?_; rintro e w1 ⟨aj, cj, am, cm, js, ms, rfl, hb1, o1, o2, n1, n2⟩; have hs1 := hb1.size; have hB1 : Below w.heap.size w w1 := hb0.trans (hb1.mono (by omega)); have q0 := row_below r0 hb1 r0.lt; have lt0 := q0.lt; have j0 := q0.cell (i := 0) rfl; have j1 := q0.cell (i := 1) rfl; have h2' := h2 (w1.alloc (.cells #[.slice aj nn cj, .slice am nn cm, .int .i64 (gath (at2 ms us.length) 0 us.length : Nat), .int .i64 (gath (at2 js us.length) 0 us.length : Nat)] 53)) (hB1.alloc (by omega) _))
    | (go_at_call 24; refine h2'.mono ?_; rintro e w2 ⟨aj', cj', am', cm', js', ms', rfl, hb2, i3, i4, n3, n4⟩; have ej := NearTo.unique hord n1 n3; have em := NearTo.unique hordD n2 n4; subst ej; subst em; have rA := row_below (Row.new w1 53 [.slice aj nn cj, .slice am nn cm, .int .i64 (gath (at2 ms us.length) 0 us.length : Nat), .int .i64 (gath (at2 js us.length) 0 us.length : Nat)]) hb2 (by simp); have hs2 := hb2.size; have hA : Below w1.heap.size w1 w2 := ((Below.refl _ _).alloc (Nat.le_refl _) _).trans (hb2.mono (by simp)); have i1 := (ownsRow_ints (ownsRow_below o1 hA)); have i2 := (ownsRow_ints (ownsRow_below o2 hA)); have hlj := n1.len; have hlm := n2.len; have hB2 : Below w.heap.size w w2 := hB1.trans (hA.mono (by omega)); generalize gath (at2 ms us.length) 0 us.length = bt at *; generalize gath (at2 js us.length) 0 us.length = tp at *; have lA := rA.lt; have k0 := rA.cell (i := 0) rfl; have k1 := rA.cell (i := 1) rfl; have k2 := rA.cell (i := 2) rfl; have k3 := rA.cell (i := 3) rfl; have hA2 : Below w2.heap.size w2 (w2.alloc (.cells #[.slice aj' nn cj', .slice am' nn cm', .int .i64 (bt : Nat), .int .i64 (tp : Nat)] 53)) := (Below.refl _ _).alloc (Nat.le_refl _) _; have h3 := Lattices_same aj am aj' am' cj cm cj' cm' js ms (bt : Nat) (tp : Nat) w2.heap.size (by omega) (by omega) (w2.alloc (.cells #[.slice aj' nn cj', .slice am' nn cm', .int .i64 (bt : Nat), .int .i64 (tp : Nat)] 53)) (i1.below hA2) (i2.below hA2) (i3.below hA2) (i4.below hA2) (by simp); rw [hlj, hlm] at h3; clear h2 h2' n1 n2 n3 n4)
    | (go_at_call 25; refine h3.mono ?_; rintro e w3 ⟨rfl, hb3⟩))
  go_ret
  exact ⟨rfl, (hB2.alloc (by have := hB2.size; omega) _).trans (hb3.mono (by have := hB2.size; simp; omega))⟩

/-- **LatticeMakes answers true, for every order, and writes nothing that was there** -/
theorem latmakes_any (n : Int) (a : Option Addr) (cap : Nat) (us : List Nat) (n₀ : Nat) (hf : Fit us) (w : World) (hT : TabAt w) (hw : IsWords n₀ w a us) (hg : 0 < n₀) (hn₀ : n₀ ≤ w.heap.size) :
    Calls Tryd.prog 7 #[.agg #[.int .i64 n, .slice a us.length cap]] w fun e w' => e = .returned (.bool true) ∧ Below w.heap.size w w' := by
  by_cases hc : codeOf n us = 0
  · obtain ⟨ds, hD⟩ := tur_ex hf (by have := code_zero hc; omega)
    cases hl : latB us ds with
    | true => exact latmakes_ok n a cap us ds n₀ hf w hT hw hg hn₀ hc hD hl
    | false =>
      exact latmakes_err n a us.length cap 5 w (fun W hW => Make_none n a cap us ds n₀ hf W (hT.below hW (by omega)) (hw.below (hW.mono hn₀)) hg (by have := hW.size; omega) hc hD hl) (fun W hW => RefMake_none n a cap us ds n₀ hf W (hw.below (hW.mono hn₀)) (by have := hW.size; omega) hc hD hl)
  · exact latmakes_err n a us.length cap _ w (fun W hW => Make_bad n a cap us n₀ hf W (hT.below hW (by omega)) (hw.below (hW.mono hn₀)) hg (by have := hW.size; omega) hc) (fun W hW => RefMake_bad n a cap us n₀ hf W (hw.below (hW.mono hn₀)) (by have := hW.size; omega) hc)
end Go.Proofs.YtbdigkjahfdmjaaDoor
