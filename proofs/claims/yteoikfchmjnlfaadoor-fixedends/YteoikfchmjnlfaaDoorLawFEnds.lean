/- The walk of the law FixedEnds: it answers true, and writes nothing that was there. -/
import Derived.Test.YteoikfchmjnlfaaDoorFixLeft
import Derived.Test.YteoikfchmjnlfaaDoorRefMakeOk
import Derived.Test.YteoikfchmjnlfaaDoorTurEx
import Derived.Test.YteoikfchmjnlfaaDoorDualPlain
namespace Go.Proofs.YteoikfchmjnlfaaDoor
open Go.RowKit Go.Shelf

set_option maxRecDepth 100000 in
set_option maxHeartbeats 2000000 in
theorem fends_err (n : Int) (a : Option Addr) (len cap : Nat) (ag : Option Addr) (lg cg : Nat) (c : Int) (hc : c ≠ 0) (w : World) (h1 : ∀ W, Below w.heap.size w W → Calls Tryd.prog 9 #[.agg #[.int .i64 n, .slice a len cap], .slice ag lg cg] W fun e w' => e = endErr c ∧ Below W.heap.size W w') (h2 : ∀ W, Below w.heap.size w W → Calls Tryd.prog 10 #[.agg #[.int .i64 n, .slice a len cap], .slice ag lg cg] W fun e w' => e = endErr c ∧ Below W.heap.size W w') (h3 : ∀ W, Below w.heap.size w W → Calls Tryd.prog 11 #[.agg #[.int .i64 n, .slice a len cap]] W fun e w' => e = latErr c ∧ Below W.heap.size W w') :
    Calls Tryd.prog 3 #[.agg #[.int .i64 n, .slice a len cap], .slice ag lg cg] w fun e w' => e = .returned (.bool true) ∧ Below w.heap.size w w' := by
  obtain ⟨r0, hb0, hs0⟩ := one_row w 24 (.int .i64 n) (.slice a len cap) rfl
  have s1 := h1 _ hb0
  unfold endErr at s1 h2
  unfold latErr at h3
  have e1 : (c != 0) = true := by rw [bne_iff_ne]; exact hc
  have e2 : (c == 0) = false := by rw [beq_eq_false_iff_ne]; exact hc
  have e3 : (c == c) = true := by simp
  have lt0 := r0.lt
  clear h1 hc
  go_enter Tryd.func3, Tryd.ntmps3
  go_wp2_with fail
  with_reducible refine s1.mono ?_
  rintro e w1 ⟨rfl, hb1⟩
  have q0 := row_below r0 hb1 lt0
  have lq0 := q0.lt
  have j0 := q0.cell (i := 0) rfl
  have j1 := q0.cell (i := 1) rfl
  have hB1 : Below w.heap.size w w1 := hb0.trans (hb1.mono (by omega))
  go_wp2_with fail
  with_reducible refine (h2 w1 hB1).mono ?_
  rintro e w2 ⟨rfl, hb2⟩
  clear j0 j1
  have q1 := row_below q0 hb2 lq0
  have j0 := q1.cell (i := 0) rfl
  have j1 := q1.cell (i := 1) rfl
  have hB2 : Below w.heap.size w w2 := hB1.trans (hb2.mono hB1.size)
  go_wp2_with fail
  with_reducible refine (h3 w2 hB2).mono ?_
  rintro e w3 ⟨rfl, hb3⟩
  go_wp2_with fail
  go_ret
  exact ⟨rfl, (hB2.trans (hb3.mono hB2.size)).alloc (by have := hb3.size; have := hB2.size; omega) _⟩

set_option maxRecDepth 100000 in
set_option maxHeartbeats 4000000 in
theorem fends_ok (a : Option Addr) (cap : Nat) (us ds : List Nat) (ag : Option Addr) (cg : Nat) (zs : List Int) (n₀ : Nat) (hf : Fit us) (h63 : zs.length ≤ 9223372036854775807) (w : World) (hT : TabAt w) (hw : IsWords n₀ w a us) (hz : ZInts n₀ w ag zs) (hg : 0 < n₀) (hn₀ : n₀ ≤ w.heap.size) (hc : codeOf us.length us = 0) (hD : Tur us us.length [] ds) (hl : latB us ds = true) :
    Calls Tryd.prog 3 #[.agg #[.int .i64 us.length, .slice a us.length cap], .slice ag zs.length cg] w fun e w' => e = .returned (.bool true) ∧ Below w.heap.size w w' := by
  have hTW : ∀ {W}, Below w.heap.size w W → TabAt W := fun hW => hT.below hW (by omega)
  have hwW : ∀ {W}, Below w.heap.size w W → IsWords n₀ W a us := fun hW => hw.below (hW.mono hn₀)
  have hzW : ∀ {W}, Below w.heap.size w W → ZInts n₀ W ag zs := fun hW => hz.below (hW.mono hn₀)
  have hnW : ∀ {W}, Below w.heap.size w W → n₀ ≤ W.heap.size := fun hW => by have := hW.size; omega
  have hord := (code_zero hc).2.2.2.2
  have hl16 : us.length ≤ 16 := by have := code_zero hc; omega
  have hpos : 0 < us.length := Nat.pos_of_ne_zero (latB_parts hl).1
  obtain ⟨r0, hb0, hs0⟩ := one_row w 24 (.int .i64 us.length) (.slice a us.length cap) rfl
  have s1 := Least_map a cap us ds ag cg zs n₀ hf h63 _ (hTW hb0) (hwW hb0) (hzW hb0) hg (hnW hb0) hc hD hl
  have s2 : ∀ W, Below w.heap.size w W → _ := fun W hW => Great_map a cap us ds ag cg zs n₀ hf h63 W (hTW hW) (hwW hW) (hzW hW) hg (hnW hW) hc hD hl
  have s3 : ∀ W, Below w.heap.size w W → _ := fun W hW => RefMake_ok us.length a cap us ds n₀ hf W (hwW hW) (hnW hW) hc hD hl
  have s4 : ∀ W, Below w.heap.size w W → _ := fun W hW => RefFix_any a cap us ag cg zs n₀ hf hl16 h63 W (hwW hW) (hzW hW) (hnW hW)
  have hL : ∀ js ms, NearTo us js (us.length * us.length) → NearTo ds ms (us.length * us.length) → Lat us.length (leW us) (at2 js us.length) (at2 ms us.length) (gath (at2 ms us.length) 0 us.length) (gath (at2 js us.length) 0 us.length) := fun js ms h1' h2' => lat_pre hord hD h1' h2' hpos
  have lt0 := r0.lt
  unfold endErr at s1 s2
  clear hc hl hD
  go_enter Tryd.func3, Tryd.ntmps3
  go_wp2_with fail
  with_reducible refine s1.mono ?_
  rintro e w1 ⟨hb1, hh1⟩
  have q0 := row_below r0 hb1 lt0
  have lq0 := q0.lt
  have j0 := q0.cell (i := 0) rfl
  have j1 := q0.cell (i := 1) rfl
  have hB1 : Below w.heap.size w w1 := hb0.trans (hb1.mono (by omega))
  have s2' := s2 w1 hB1
  clear s1 s2
  by_cases hm : mapCode us zs = 0
  · rcases hh1 with ⟨hx, _⟩ | ⟨_, b, y, K, hbot, hcb, hK, hy, rfl⟩
    · exact absurd hm hx
    obtain ⟨hI, hmo⟩ := mapCode_zero hm
    have hmap := into_map hI
    have hlm := hmap.len
    have hlz : zs.length = us.length := (intoB_true.1 hI).1
    have HZ := hide hlz
    clear hlz
    have hzi : ∀ {W}, Below w.heap.size w W → IsInts n₀ W ag (mapN zs) := fun hW => mapN_ints (intoB_true.1 hI).2 (hzW hW)
    rw [hm] at s4
    go_wp2_with fail
    with_reducible refine s2'.mono ?_
    rintro e w2 ⟨hb2, hh2⟩
    rcases hh2 with ⟨hx, _⟩ | ⟨_, t, z, M, htop, hct, hM, hz', rfl⟩
    · exact absurd hm hx
    clear j0 j1 s2'
    have q1 := row_below q0 hb2 lq0
    have lq1 := q1.lt
    have j0 := q1.cell (i := 0) rfl
    have j1 := q1.cell (i := 1) rfl
    have hB2 : Below w.heap.size w w2 := hB1.trans (hb2.mono hB1.size)
    go_wp2_with fail
    with_reducible refine (s3 w2 hB2).mono ?_
    rintro e w3 ⟨aj, cj, am, cm, js, ms, rfl, hb3, i3, i4, n1, n2⟩
    have L := hL js ms n1 n2
    generalize gath (at2 ms us.length) 0 us.length = bt at *
    generalize gath (at2 js us.length) 0 us.length = tp at *
    obtain rfl : b = bt := L.anti hbot.1 L.blt (hbot.2 _ L.blt) (L.ble hbot.1)
    obtain rfl : t = tp := L.anti htop.1 L.tlt (L.let_ htop.1) (htop.2 _ L.tlt)
    have f1 : ∀ W, Below w.heap.size w W → Calls Tryd.prog 13 #[.slice ag zs.length cg, .int .i64 (b : Nat)] W fun e w' => e = .returned (.tuple #[.int .i64 (y : Nat), .int .i64 (K : Nat)]) ∧ w' = W := fun W hW => by
      have h := From_any ag cg (mapN zs) b y K n₀ (by omega) (by omega) hcb (fun k => by rw [hlm]; exact stepN_lt hmap hbot.1 k) W (hzi hW)
      rw [hlm, ← HZ.out] at h
      exact h
    have f2 : ∀ W, Below w.heap.size w W → Calls Tryd.prog 13 #[.slice ag zs.length cg, .int .i64 (t : Nat)] W fun e w' => e = .returned (.tuple #[.int .i64 (z : Nat), .int .i64 (M : Nat)]) ∧ w' = W := fun W hW => by
      have h := From_any ag cg (mapN zs) t z M n₀ (by omega) (by omega) hct (fun k => by rw [hlm]; exact stepN_lt hmap htop.1 k) W (hzi hW)
      rw [hlm, ← HZ.out] at h
      exact h
    clear hL L n1 n2 i3 i4 hcb hct hmap hI hmo hlm j0 j1
    have hB3 : Below w.heap.size w w3 := hB2.trans (hb3.mono hB2.size)
    have q2 := row_below q1 hb3 lq1
    have lq2 := q2.lt
    have hA : Below w3.heap.size w3 (w3.alloc (.cells #[.slice aj (us.length * us.length) cj, .slice am (us.length * us.length) cm, .int .i64 (b : Nat), .int .i64 (t : Nat)] 30)) := (Below.refl _ _).alloc (Nat.le_refl _) _
    have zL : Row (w3.alloc (.cells #[.slice aj (us.length * us.length) cj, .slice am (us.length * us.length) cm, .int .i64 (b : Nat), .int .i64 (t : Nat)] 30)) w3.heap.size 30 [.slice aj (us.length * us.length) cj, .slice am (us.length * us.length) cm, .int .i64 (b : Nat), .int .i64 (t : Nat)] := Row.new w3 _ _
    have q3 := row_below q2 hA lq2
    have k0 := q3.cell (i := 0) rfl
    have k1 := q3.cell (i := 1) rfl
    have hBV := hB3.trans (hA.mono hB3.size)
    have s4' := s4 _ hBV
    have lzL := zL.lt
    go_wp2_with fail
    with_reducible refine s4'.mono ?_
    rintro e w4 ⟨rfl, hb4⟩
    clear k0 k1
    have zL4 := row_below zL hb4 lzL
    have l2 := zL4.cell (i := 2) rfl
    have l3 := zL4.cell (i := 3) rfl
    have hB4 := hBV.trans (hb4.mono hBV.size)
    have f1' := f1 _ hB4
    have f2' := f2 _ hB4
    have e1 : ((y : Int) == (y : Int)) = true := by simp
    have e2 : ((K : Int) == (K : Int)) = true := by simp
    have e3 : ((z : Int) == (z : Int)) = true := by simp
    have e4 : ((M : Int) == (M : Int)) = true := by simp
    clear f1 f2 s3 s4 s4'
    go_wp2_with fail
    with_reducible refine f1'.mono ?_
    rintro e w5 ⟨rfl, hww⟩
    rw [hww]
    clear hww w5
    go_wp2_with fail
    with_reducible refine f2'.mono ?_
    rintro e w5 ⟨rfl, hww⟩
    rw [hww]
    clear hww w5
    go_wp2_with fail
    go_ret
    exact ⟨rfl, hB4⟩
  · have hh1 := hh1.resolve_right fun h => hm h.1
    obtain ⟨_, rfl⟩ := hh1
    go_wp2_with fail
    with_reducible refine s2'.mono ?_
    rintro e w2 ⟨hb2, hh2⟩
    have hh2 := hh2.resolve_right fun h => hm h.1
    obtain ⟨_, rfl⟩ := hh2
    clear j0 j1 s2'
    have q1 := row_below q0 hb2 lq0
    have lq1 := q1.lt
    have j0 := q1.cell (i := 0) rfl
    have j1 := q1.cell (i := 1) rfl
    have hB2 : Below w.heap.size w w2 := hB1.trans (hb2.mono hB1.size)
    go_wp2_with fail
    with_reducible refine (s3 w2 hB2).mono ?_
    rintro e w3 ⟨aj, cj, am, cm, js, ms, rfl, hb3, i3, i4, n1, n2⟩
    generalize gath (at2 ms us.length) 0 us.length = bt at *
    generalize gath (at2 js us.length) 0 us.length = tp at *
    clear hL n1 n2 i3 i4 j0 j1
    have hB3 : Below w.heap.size w w3 := hB2.trans (hb3.mono hB2.size)
    have q2 := row_below q1 hb3 lq1
    have lq2 := q2.lt
    have hA : Below w3.heap.size w3 (w3.alloc (.cells #[.slice aj (us.length * us.length) cj, .slice am (us.length * us.length) cm, .int .i64 (bt : Nat), .int .i64 (tp : Nat)] 30)) := (Below.refl _ _).alloc (Nat.le_refl _) _
    have q3 := row_below q2 hA lq2
    have k0 := q3.cell (i := 0) rfl
    have k1 := q3.cell (i := 1) rfl
    have hBV := hB3.trans (hA.mono hB3.size)
    have s4' := s4 _ hBV
    have e1 : (mapCode us zs != 0) = true := by rw [bne_iff_ne]; exact hm
    have e3 : (mapCode us zs == mapCode us zs) = true := by simp
    clear s3 s4
    go_wp2_with fail
    with_reducible refine s4'.mono ?_
    rintro e w4 ⟨rfl, hb4⟩
    have hB4 := hBV.trans (hb4.mono hBV.size)
    go_wp2_with fail
    go_ret
    exact ⟨rfl, hB4⟩

/-- **FixedEnds answers true, for every order and any numbers, and writes nothing that was there** -/
theorem fends_any (n : Int) (a : Option Addr) (cap : Nat) (us : List Nat) (ag : Option Addr) (cg : Nat) (zs : List Int) (n₀ : Nat) (hf : Fit us) (h63 : zs.length ≤ 9223372036854775807) (w : World) (hT : TabAt w) (hw : IsWords n₀ w a us) (hz : ZInts n₀ w ag zs) (hg : 0 < n₀) (hn₀ : n₀ ≤ w.heap.size) :
    Calls Tryd.prog 3 #[.agg #[.int .i64 n, .slice a us.length cap], .slice ag zs.length cg] w fun e w' => e = .returned (.bool true) ∧ Below w.heap.size w w' := by
  have hTW : ∀ {W}, Below w.heap.size w W → TabAt W := fun hW => hT.below hW (by omega)
  have hwW : ∀ {W}, Below w.heap.size w W → IsWords n₀ W a us := fun hW => hw.below (hW.mono hn₀)
  have hnW : ∀ {W}, Below w.heap.size w W → n₀ ≤ W.heap.size := fun hW => by have := hW.size; omega
  have hcomp : ∀ {W X}, Below w.heap.size w W → Below W.heap.size W X → Below w.heap.size w X := fun hW hX => hW.trans (hX.mono hW.size)
  by_cases hc : codeOf n us = 0
  · obtain ⟨ds, hD⟩ := tur_ex hf (by have := code_zero hc; omega)
    cases hl : latB us ds with
    | true =>
      have en := (code_zero hc).2.2.1.symm
      subst en
      exact fends_ok a cap us ds ag cg zs n₀ hf h63 w hT hw hz hg hn₀ hc hD hl
    | false =>
      have ht : ∀ W, Below w.heap.size w W → ∀ X, Below W.heap.size W X → _ := fun W hW X hX => TableOf_none n a cap us ds n₀ hf X (hTW (hcomp hW hX)) (hwW (hcomp hW hX)) hg (hnW (hcomp hW hX)) hc hD hl
      exact fends_err n a us.length cap ag zs.length cg 5 (by decide) w (fun W hW => Least_err n a us.length cap ag zs.length cg 5 (by decide) W (ht W hW)) (fun W hW => Great_err n a us.length cap ag zs.length cg 5 (by decide) W (ht W hW)) (fun W hW => RefMake_none n a cap us ds n₀ hf W (hwW hW) (hnW hW) hc hD hl)
  · have ht : ∀ W, Below w.heap.size w W → ∀ X, Below W.heap.size W X → _ := fun W hW X hX => TableOf_bad n a cap us n₀ hf X (hTW (hcomp hW hX)) (hwW (hcomp hW hX)) hg (hnW (hcomp hW hX)) hc
    exact fends_err n a us.length cap ag zs.length cg _ hc w (fun W hW => Least_err n a us.length cap ag zs.length cg _ hc W (ht W hW)) (fun W hW => Great_err n a us.length cap ag zs.length cg _ hc W (ht W hW)) (fun W hW => RefMake_bad n a cap us n₀ hf W (hwW hW) (hnW hW) hc)
end Go.Proofs.YteoikfchmjnlfaaDoor
