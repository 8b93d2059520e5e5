/- The walk of the law LatticeKinds: it answers true, and writes nothing that was there. -/
import Derived.Test.YtobjgfjikmgdeaaDoorRefKind
import Derived.Test.YtobjgfjikmgdeaaDoorRefMakeOk
import Derived.Test.YtobjgfjikmgdeaaDoorKindOk
import Derived.Test.YtobjgfjikmgdeaaDoorTurEx
import Derived.Test.YtobjgfjikmgdeaaDoorDualPlain
namespace Go.Proofs.YtobjgfjikmgdeaaDoor
open Go.RowKit Go.Shelf

theorem kind_fields : (Tryd.prog.fieldsOf 26).toList = [⟨"Distributive", 4, 0, false, "", "", 0⟩, ⟨"Modular", 4, 1, false, "", "", 1⟩, ⟨"Complemented", 4, 2, false, "", "", 2⟩, ⟨"A", 3, 3, false, "", "", 8⟩, ⟨"B", 3, 4, false, "", "", 16⟩, ⟨"C", 3, 5, false, "", "", 24⟩] := by kernel_rfl
theorem kind_guard (op : BinOp) (x y : Operand) (xs ys : Array Value) (w : World) : (eqGuard op 26 x y (.agg xs) (.agg ys)).run Tryd.prog w = .ok () w := run_eqGuard_agg w op _ x y xs ys (by kernel_rfl)
theorem kind_eql (d m c : Bool) (x y z : Int) (w : World) : (binOp .eql 26 (.agg #[.bool d, .bool m, .bool c, .int .i64 x, .int .i64 y, .int .i64 z]) (.agg #[.bool d, .bool m, .bool c, .int .i64 x, .int .i64 y, .int .i64 z])).run Tryd.prog w = .ok (.bool true) w := by
  rw [run_eql_struct, run_equalIn_struct w 9999 _ _ _ (by kernel_rfl) (by kernel_rfl), kind_fields]
  simp [Op.eqFields, go_sem, Tryd.underlying3, Tryd.underlying4]

set_option maxRecDepth 100000 in
set_option maxHeartbeats 1000000 in
theorem kinds_err (n : Int) (a : Option Addr) (len cap : Nat) (c : Int) (hc : c ≠ 0) (w : World) (h1 : ∀ W, Below w.heap.size w W → Calls Tryd.prog 9 #[.agg #[.int .i64 n, .slice a len cap]] W fun e w' => e = kindErr c ∧ Below W.heap.size W w') (h2 : ∀ W, Below w.heap.size w W → Calls Tryd.prog 10 #[.agg #[.int .i64 n, .slice a len cap]] W fun e w' => e = latErr c ∧ Below W.heap.size W w') :
    Calls Tryd.prog 3 #[.agg #[.int .i64 n, .slice a len cap]] w fun e w' => e = .returned (.bool true) ∧ Below w.heap.size w w' := by
  obtain ⟨r0, hb0, hs0⟩ := one_row w 24 (.int .i64 n) (.slice a len cap) rfl
  have s1 := h1 _ hb0
  unfold kindErr at s1
  unfold latErr at h2
  have e1 : (c != 0) = true := by rw [bne_iff_ne]; exact hc
  have e2 : (c == c) = true := by simp
  have lt0 := r0.lt
  have hgd := fun W : World => kind_guard .eql (.tmp 23) (.tmp 24) #[.bool false, .bool false, .bool false, .int .i64 0, .int .i64 0, .int .i64 0] #[.bool false, .bool false, .bool false, .int .i64 0, .int .i64 0, .int .i64 0] W
  have heq := fun W : World => kind_eql false false false 0 0 0 W
  clear h1 hc
  go_enter Tryd.func3, Tryd.ntmps3
  go_wp2_with fail
  refine s1.mono ?_
  rintro e w1 ⟨rfl, hb1⟩
  have q0 := row_below r0 hb1 lt0
  have lq0 := q0.lt
  have j0 := q0.cell (i := 0) rfl
  have j1 := q0.cell (i := 1) rfl
  have hB1 : Below w.heap.size w (w1.alloc (.cells #[.bool false, .bool false, .bool false, .int .i64 0, .int .i64 0, .int .i64 0] 26)) := (hb0.trans (hb1.mono (by omega))).alloc (by have := hb1.size; omega) _
  have s2 := h2 _ hB1
  clear h2 s1
  go_wp2_with fail
  refine s2.mono ?_
  rintro e w2 ⟨rfl, hb2⟩
  have rK := row_below (Row.new w1 26 [.bool false, .bool false, .bool false, .int .i64 0, .int .i64 0, .int .i64 0]) hb2 (by simp)
  have lK := rK.lt
  have k0 := rK.cell (i := 0) rfl
  have k1 := rK.cell (i := 1) rfl
  have k2 := rK.cell (i := 2) rfl
  have k3 := rK.cell (i := 3) rfl
  have k4 := rK.cell (i := 4) rfl
  have k5 := rK.cell (i := 5) rfl
  go_wp2_with fail
  go_ret
  exact ⟨rfl, (hB1.trans (hb2.mono hB1.size)).alloc (by have := hb2.size; have := hB1.size; omega) _⟩

set_option maxRecDepth 100000 in
set_option maxHeartbeats 2000000 in
theorem kinds_ok (a : Option Addr) (cap : Nat) (us ds : List Nat) (n₀ : Nat) (hf : Fit us) (w : World) (hT : TabAt w) (hw : IsWords n₀ w a us) (hg : 0 < n₀) (hn₀ : n₀ ≤ w.heap.size) (hc : codeOf us.length us = 0) (hD : Tur us us.length [] ds) (hl : latB us ds = true) :
    Calls Tryd.prog 3 #[.agg #[.int .i64 us.length, .slice a us.length cap]] w fun e w' => e = .returned (.bool true) ∧ Below w.heap.size w w' := by
  have hord := (code_zero hc).2.2.2.2
  have hl16 : us.length ≤ 16 := by have := code_zero hc; omega
  have hpos : 0 < us.length := Nat.pos_of_ne_zero (latB_parts hl).1
  obtain ⟨r0, hb0, hs0⟩ := one_row w 24 (.int .i64 us.length) (.slice a us.length cap) rfl
  have s1 := Kind_ok a cap us ds n₀ hf _ (hT.below hb0 (by omega)) (hw.below (hb0.mono hn₀)) hg (by omega) hc hD hl
  have hop : ∀ W, Below w.heap.size w W → _ := fun W hW => RefMake_ok us.length a cap us ds n₀ hf W (hw.below (hW.mono hn₀)) (by have := hW.size; omega) hc hD hl
  have hL : ∀ js ms, NearTo us js (us.length * us.length) → NearTo ds ms (us.length * us.length) → Lat us.length (leW us) (at2 js us.length) (at2 ms us.length) (gath (at2 ms us.length) 0 us.length) (gath (at2 js us.length) 0 us.length) := fun js ms h1 h2 => lat_pre hord hD h1 h2 hpos
  have hU1 : ∀ js ks, NearTo us js (us.length * us.length) → NearTo us ks (us.length * us.length) → js = ks := fun js ks h1 h2 => NearTo.unique hord h1 h2
  have hU2 : ∀ js ks, NearTo ds js (us.length * us.length) → NearTo ds ks (us.length * us.length) → js = ks := fun js ks h1 h2 => NearTo.unique (tur_ord hord hD) h1 h2
  have lt0 := r0.lt
  clear hc hl hD
  go_enter Tryd.func3, Tryd.ntmps3
  go_wp2_with fail
  refine s1.mono ?_
  rintro e w1 ⟨js, ms, k1, k2, hb1, rfl⟩
  clear s1
  have q0 := row_below r0 hb1 lt0
  have lq0 := q0.lt
  have j0 := q0.cell (i := 0) rfl
  have j1 := q0.cell (i := 1) rfl
  obtain ⟨st, hst⟩ : ∃ st, kindOf js ms us.length (triA us.length us.length) = st := ⟨_, rfl⟩
  obtain ⟨cb, hcb⟩ : ∃ cb, complTo js ms us.length (gath (at2 ms us.length) 0 us.length) (gath (at2 js us.length) 0 us.length) us.length = cb := ⟨_, rfl⟩
  rw [hst, hcb]
  have HST := hide hst
  have HCB := hide hcb
  clear hst hcb
  obtain ⟨d, m, sa, sb, sc⟩ := st
  simp only
  have hB1 : Below w.heap.size w (w1.alloc (.cells #[.bool d, .bool m, .bool cb, .int .i64 (sa : Nat), .int .i64 (sb : Nat), .int .i64 (sc : Nat)] 26)) := (hb0.trans (hb1.mono (by omega))).alloc (by have := hb1.size; omega) _
  have s2 := hop _ hB1
  clear hop
  go_wp2_with fail
  refine s2.mono ?_
  rintro e w2 ⟨aj, cj, am, cm, js', ms', rfl, hb2, i3, i4, n1, n2⟩
  clear s2 j0 j1
  obtain rfl := hU1 js js' k1 n1
  obtain rfl := hU2 ms ms' k2 n2
  have L := hL js ms n1 n2
  have hlj := n1.len
  have hlm := n2.len
  have hj : ∀ {x y}, x < us.length → y < us.length → at2 js us.length x y < us.length := fun hx hy => L.jlt hx hy
  have hm : ∀ {x y}, x < us.length → y < us.length → at2 ms us.length x y < us.length := fun hx hy => L.mlt hx hy
  have hle : ∀ x z, x < us.length → z < us.length → hasB (wd us x) z = decide (at2 js us.length x z = z) := fun x z hx hz => by
    rw [Bool.eq_iff_iff, decide_eq_true_iff]
    exact L.le_j hx hz
  clear hL L n1 n2 hU1 hU2 k1 k2
  generalize gath (at2 ms us.length) 0 us.length = bt at *
  generalize gath (at2 js us.length) 0 us.length = tp at *
  obtain ⟨V, hV⟩ : ∃ V, V = w2.alloc (.cells #[.slice aj (us.length * us.length) cj, .slice am (us.length * us.length) cm, .int .i64 (bt : Nat), .int .i64 (tp : Nat)] 32) := ⟨_, rfl⟩
  have hA : Below w2.heap.size w2 V := by rw [hV]; exact (Below.refl _ _).alloc (Nat.le_refl _) _
  have zL : Row V w2.heap.size 32 [.slice aj (us.length * us.length) cj, .slice am (us.length * us.length) cm, .int .i64 (bt : Nat), .int .i64 (tp : Nat)] := by rw [hV]; exact Row.new w2 _ _
  have hs2 := hb2.size
  have hA1 : Below w1.heap.size w1 (w1.alloc (.cells #[.bool d, .bool m, .bool cb, .int .i64 (sa : Nat), .int .i64 (sb : Nat), .int .i64 (sc : Nat)] 26)) := (Below.refl _ _).alloc (Nat.le_refl _) _
  have rK := Row.new w1 26 [.bool d, .bool m, .bool cb, .int .i64 (sa : Nat), .int .i64 (sb : Nat), .int .i64 (sc : Nat)]
  have lK := rK.lt
  have zK := row_below (row_below rK hb2 lK) hA (by omega)
  have z0 := row_below (row_below (row_below q0 hA1 lq0) hb2 (by simp; omega)) hA (by simp at hs2; omega)
  have hsV := hA.size
  have hBV : Below w.heap.size w V := (hB1.trans (hb2.mono hB1.size)).trans (hA.mono (by have := hB1.size; omega))
  have hwV : IsWords n₀ V a us := hw.below (hBV.mono hn₀)
  have hnV : n₀ ≤ V.heap.size := by have := hBV.size; omega
  have I3 : IsInts V.heap.size V aj js := (i3.below hA).mono hsV
  have I4 : IsInts V.heap.size V am ms := (i4.below hA).mono hsV
  have c1 : ∀ (dd : Nat) (os : Array Obj), Calls Tryd.prog 11 #[.agg #[.int .i64 us.length, .slice a us.length cap], .agg #[.slice aj (us.length * us.length) cj, .slice am (us.length * us.length) cm, .int .i64 (bt : Nat), .int .i64 (tp : Nat)]] (Go.Sort.grow (redrawn V dd) os) fun e w'' => e = .returned (.agg #[.bool d, .bool m, .bool cb, .int .i64 (sa : Nat), .int .i64 (sb : Nat), .int .i64 (sc : Nat)]) ∧ ∃ p : Regrown, w'' = Go.Sort.grow (redrawn V p.d) p.os := fun dd os => by
    have hbg := below_regrown V dd os
    have h := RefKind_any a cap us aj cj am cm bt tp js ms V.heap.size hf hl16 hlj hlm hj hm hle (Go.Sort.grow (redrawn V dd) os) ((hwV.below (hbg.mono hnV)).mono hnV) (I3.below hbg) (I4.below hbg) hbg.size
    rw [HST.out, HCB.out] at h
    exact Calls.regrown_of h
  have d0 := cell_regrown (z0.cell (i := 0) rfl)
  have d1 := cell_regrown (z0.cell (i := 1) rfl)
  have e0 := cell_regrown (zL.cell (i := 0) rfl)
  have e1 := cell_regrown (zL.cell (i := 1) rfl)
  have e2 := cell_regrown (zL.cell (i := 2) rfl)
  have e3 := cell_regrown (zL.cell (i := 3) rfl)
  have f0 := cell_regrown (zK.cell (i := 0) rfl)
  have f1 := cell_regrown (zK.cell (i := 1) rfl)
  have f2 := cell_regrown (zK.cell (i := 2) rfl)
  have f3 := cell_regrown (zK.cell (i := 3) rfl)
  have f4 := cell_regrown (zK.cell (i := 4) rfl)
  have f5 := cell_regrown (zK.cell (i := 5) rfl)
  have hgd := fun W : World => kind_guard .eql (.tmp 30) (.tmp 33) #[.bool d, .bool m, .bool cb, .int .i64 (sa : Nat), .int .i64 (sb : Nat), .int .i64 (sc : Nat)] #[.bool d, .bool m, .bool cb, .int .i64 (sa : Nat), .int .i64 (sb : Nat), .int .i64 (sc : Nat)] W
  have heq := fun W : World => kind_eql d m cb (sa : Nat) (sb : Nat) (sc : Nat) W
  clear HST HCB hle hj hm hlj hlm I3 I4 i3 i4 hA1 rK lK q0 lq0 r0 hb0 hs0 lt0 hB1 hb1 hb2
  go_wp2_with fail
  rw [← hV]
  clear hV
  refine wp_region_quiet_below (by kernel_rfl) (by kernel_rfl) ?_
  repeat (go_big_quiet_step (with_reducible exact c1 _ _))
  refine wpQuiet_nil ?_
  intro _ hw'
  obtain ⟨⟨dq, osq⟩, hwE⟩ := hw'
  subst hwE
  go_wp2
  go_ret
  exact ⟨rfl, hBV.trans ((below_regrown _ _ _).mono hBV.size)⟩

/-- **LatticeKinds answers true, for every order, and writes nothing that was there** -/
theorem kinds_any (n : Int) (a : Option Addr) (cap : Nat) (us : List Nat) (n₀ : Nat) (hf : Fit us) (w : World) (hT : TabAt w) (hw : IsWords n₀ w a us) (hg : 0 < n₀) (hn₀ : n₀ ≤ w.heap.size) :
    Calls Tryd.prog 3 #[.agg #[.int .i64 n, .slice a us.length cap]] w fun e w' => e = .returned (.bool true) ∧ Below w.heap.size w w' := by
  have hTW : ∀ {W}, Below w.heap.size w W → TabAt W := fun hW => hT.below hW (by omega)
  have hwW : ∀ {W}, Below w.heap.size w W → IsWords n₀ W a us := fun hW => hw.below (hW.mono hn₀)
  have hnW : ∀ {W}, Below w.heap.size w W → n₀ ≤ W.heap.size := fun hW => by have := hW.size; omega
  have hcomp : ∀ {W X}, Below w.heap.size w W → Below W.heap.size W X → Below w.heap.size w X := fun hW hX => hW.trans (hX.mono hW.size)
  by_cases hc : codeOf n us = 0
  · obtain ⟨ds, hD⟩ := tur_ex hf (by have := code_zero hc; omega)
    cases hl : latB us ds with
    | true =>
      have en := (code_zero hc).2.2.1.symm
      subst en
      exact kinds_ok a cap us ds n₀ hf w hT hw hg hn₀ hc hD hl
    | false => exact kinds_err n a us.length cap 5 (by decide) w (fun W hW => Kind_err n a us.length cap 5 (by decide) W fun X hX => TableOf_none n a cap us ds n₀ hf X (hTW (hcomp hW hX)) (hwW (hcomp hW hX)) hg (hnW (hcomp hW hX)) hc hD hl) (fun W hW => RefMake_none n a cap us ds n₀ hf W (hwW hW) (hnW hW) hc hD hl)
  · exact kinds_err n a us.length cap _ hc w (fun W hW => Kind_err n a us.length cap _ hc W fun X hX => TableOf_bad n a cap us n₀ hf X (hTW (hcomp hW hX)) (hwW (hcomp hW hX)) hg (hnW (hcomp hW hX)) hc) (fun W hW => RefMake_bad n a cap us n₀ hf W (hwW hW) (hnW hW) hc)
end Go.Proofs.YtobjgfjikmgdeaaDoor
