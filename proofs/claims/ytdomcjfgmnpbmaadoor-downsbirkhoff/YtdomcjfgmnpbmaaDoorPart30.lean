/- A region that draws its order, whose loads nobody in it writes, within a round of a range over a function. The contract of the program's Kind where there is a lattice. -/
import Derived.Test.YtdomcjfgmnpbmaaDoorPart25
import Derived.Deep.RegionHeld
namespace Go.Proofs.YtdomcjfgmnpbmaaDoor
open Go

section
variable {P : Program}
theorem region_heldR {id : Nat} {Q : Exit → Act → World → Prop} {a : Act} {w : World} {l : List Oper} (S : World → Prop) (r k : Nat) (hnd : noDefer l = true) (hm : P.follows .mixedOrders = true)
    (h : wpAnyH P .any l.toArray (plainQ Q) S l.toArray.size (Array.replicate l.toArray.size false) a w.drew) : (Code.region id l.toArray true).wpIn (Fence.wide.inRound r) k P Q a w :=
  wpIn_region_any hm (any_round r k hnd _ _ _ _ (wpAny_of_held _ _ _ _ h))
theorem plain_no {Q : Exit → Act → World → Prop} {a b : Act} : ∀ c (_ : Act) w, plainQ Q (.panic c) a w → plainQ Q (.panic c) b w := fun _ _ _ h => absurd h.1 (by simp)
theorem plain_no' {Q : Exit → Act → World → Prop} {o : Oper} {v : Value} : ∀ c a w, plainQ Q (.panic c) (Act.put a o.dst v) w → plainQ Q (.panic c) a w := fun _ _ _ h => absurd h.1 (by simp)
end
end Go.Proofs.YtdomcjfgmnpbmaaDoor

namespace Go.Proofs.YtdomcjfgmnpbmaaDoor
open Go.RowKit Go.Shelf
attribute [local go_sem] Oper.semAt_some

set_option maxRecDepth 100000 in
set_option maxHeartbeats 2000000 in
theorem Kind_ok (a : Option Addr) (cap : Nat) (us ds : List Nat) (n₀ : Nat) (hf : Fit us) (w : World) (hT : TabAt w) (hw : IsWords n₀ w a us) (hg : 0 < n₀) (hn₀ : n₀ ≤ w.heap.size) (hc : codeOf us.length us = 0) (hD : Tur us us.length [] ds) (hl : latB us ds = true) :
    Calls Tryd.prog 20 #[.agg #[.int .i64 us.length, .slice a us.length cap]] w fun e w' => ∃ js ms, NearTo us js (us.length * us.length) ∧ NearTo ds ms (us.length * us.length) ∧ Below w.heap.size w w' ∧ e = .returned (.tuple #[.agg #[.bool (kindOf js ms us.length (triA us.length us.length)).d, .bool (kindOf js ms us.length (triA us.length us.length)).m, .bool (complTo js ms us.length (gath (at2 ms us.length) 0 us.length) (gath (at2 js us.length) 0 us.length) us.length), .int .i64 ((kindOf js ms us.length (triA us.length us.length)).a : Nat), .int .i64 ((kindOf js ms us.length (triA us.length us.length)).b : Nat), .int .i64 ((kindOf js ms us.length (triA us.length us.length)).c : Nat)], .int .i64 0]) := by
  obtain ⟨h1, h2, h3⟩ := latB_parts hl
  have hz := n_zero hc
  rw [decide_eq_false h1] at hz
  obtain ⟨r0, r1, hb0, hs0⟩ := rows_two w 24 40 [.int .i64 us.length, .slice a us.length cap] [.bool false, .bool false, .bool false, .int .i64 0, .int .i64 0, .int .i64 0] rfl
  have hta := TableOf_ok us.length a cap us ds n₀ hf _ (hT.below hb0 (by omega)) (hw.below (hb0.mono hn₀)) hg (by omega) hc hD hz h2 h3
  have hl16 : us.length ≤ 16 := by have := code_zero hc; omega
  have hlD := hD.len
  have hfn := wide_fn
  have hdep := wide_depth
  clear hc hl hz h2 h3 hD
  refine (callsIn_wide (n := 6)).1 ?_
  refine callsIn_of_wp_marks Tryd.func20 rfl trivial ?_ rfl
  simp only [Tryd.ntmps20, List.size_toArray, List.length_cons, List.length_nil, Nat.reduceAdd, Nat.reduceSub, Array.replicate_succ, Array.replicate_zero, List.push_toArray, List.append_toArray, List.nil_append, List.cons_append]
  gi_wp2_with (first
    | (gi_at_call 40; refine (callsIn_wide.2 hta).mono ?_; rintro e w1 ⟨ca, cc, aj, cj, am, cm, js, ms, rfl, hb1, _, o1, o2, hN1, hN2⟩; have HN1 := hide hN1; have HN2 := hide hN2; have hlj := hN1.len; have hlm := hN2.len; have hjl : ∀ x y, x < us.length → y < us.length → at2 js us.length x y < us.length := fun x y hx hy => (hN1.at hx hy).1; have hml : ∀ x y, x < us.length → y < us.length → at2 ms us.length x y < us.length := fun x y hx hy => (by { have h2 : NearTo ds ms (ds.length * ds.length) := by { rw [hlD]; exact hN2 }; have := (h2.at (a := x) (b := y) (by omega) (by omega)).1; rw [hlD] at this; exact this }); have i1 := ownsRow_ints o1; have i2 := ownsRow_ints o2; clear hN1 hN2 o1 o2 hta; have hs1 := hb1.size; have q1 := row_below r1 hb1 r1.lt; have lq1 := q1.lt; obtain ⟨bt, hbt⟩ : ∃ r, gath (at2 ms us.length) 0 us.length = r := ⟨_, rfl⟩; obtain ⟨tp, htp⟩ : ∃ r, gath (at2 js us.length) 0 us.length = r := ⟨_, rfl⟩; rw [hbt, htp]; have Hbt := hide hbt; have Htp := hide htp; clear hbt htp; have hA1 : Below w1.heap.size w1 (w1.alloc (.cells #[.int .i64 us.length, .slice ca us.length cc, .slice aj (us.length * us.length) cj, .slice am (us.length * us.length) cm, .int .i64 (bt : Nat), .int .i64 (tp : Nat)] 69)) := (Below.refl _ _).alloc (Nat.le_refl _) _; have s1 := complemented_any us.length ca cc aj cj am cm bt tp js ms w1.heap.size hl16 hlj hlm (w1.alloc (.cells #[.int .i64 us.length, .slice ca us.length cc, .slice aj (us.length * us.length) cj, .slice am (us.length * us.length) cm, .int .i64 (bt : Nat), .int .i64 (tp : Nat)] 69)) (i1.below hA1) (i2.below hA1) (by simp))
    | (gi_at_call 41; refine (callsIn_wide.2 s1).mono ?_; rintro e w2 ⟨rfl, hb2⟩; clear s1; have hs2 := hb2.size; have rT := row_below (Row.new w1 69 [.int .i64 us.length, .slice ca us.length cc, .slice aj (us.length * us.length) cj, .slice am (us.length * us.length) cm, .int .i64 (bt : Nat), .int .i64 (tp : Nat)]) hb2 (by simp); have lT := rT.lt; have t0 := rT.cell (i := 0) rfl; generalize hcb : complTo js ms us.length bt tp us.length = cb at *; have Hcb := hide hcb; clear hcb)
    | (gi_at_call 42; refine (callsIn_wide.2 (threes_any us.length _)).mono ?_; rintro e w3 ⟨rfl, hw3⟩; rw [hw3]; clear hw3 w3))
  obtain ⟨W0, hW0⟩ : ∃ W0, W0 = (w2.alloc (.cells #[.bool true, .bool true, .bool cb, .int .i64 0, .int .i64 0, .int .i64 0] 40)).alloc (.cells #[.int .i64 us.length] 3) := ⟨_, rfl⟩
  rw [← hW0]
  obtain ⟨rK, rN, hbK, hsK⟩ := rows_two w2 40 3 [.bool true, .bool true, .bool cb, .int .i64 0, .int .i64 0, .int .i64 0] [.int .i64 us.length] hW0.symm
  have hBw2 : Below w.heap.size w w2 := ((hb0.trans (hb1.mono (by omega))).trans (hA1.mono (by omega))).trans (hb2.mono (by simp; omega))
  have z1 := row_below (row_below q1 hA1 lq1) hb2 (by simp; omega)
  have lz1 := z1.lt
  have J2 := ((i1.below hA1).below (hb2.mono (by simp))).mono (show w1.heap.size ≤ w2.heap.size by simp at hs2; omega)
  have M2 := ((i2.below hA1).below (hb2.mono (by simp))).mono (show w1.heap.size ≤ w2.heap.size by simp at hs2; omega)
  have hs12 : w1.heap.size < w2.heap.size := lT
  have hsw1 : w.heap.size + 2 ≤ w1.heap.size := by omega
  clear hW0 hb1 hb2 hA1 q1 lq1 i1 i2 r0 r1 hb0 hs0 t0 hs1 hs2
  refine wpIn_rangeFunc_ownH rfl (by omega) (gf := 63) (lb := #[.pointer (some ⟨w2.heap.size + 1, 0, none⟩)]) rfl trivial (enters_of Tryd.func63 (by kernel_rfl) rfl)
    (threes_stops 5 (w2.heap.size + 1) w2.heap.size us.length hl16 W0 (by omega) (rN.cell (i := 0) rfl)) keepN_t (keepN_b (by omega) (by omega)) (Below.refl _ _) (fun _ => rfl)
    (fun pre W' => Row W' w2.heap.size 40 (kvals cb (kindOf js ms us.length (pre.map (·.1)))) ∧ Below w2.heap.size w2 W')
    (fun _ _ _ => False)
    (OwnFrom.and (Own.from (row_own _ _ (fun pre : List (El3 us.length) => kvals cb (kindOf js ms us.length (pre.map (·.1))))) _) (ownFrom_below (Nat.le_refl _) (by omega)))
    (fun _ _ _ _ _ hs _ _ => hs)
    ⟨rK, hbK⟩
    (fun y a' W' => ∃ B, a' = { tmps := #[.agg #[.int .i64 us.length, .slice a us.length cap], .pointer (some ⟨w.heap.size, 0, none⟩), .pointer (some ⟨w.heap.size + 1, 0, none⟩), .int .i64 0, .pointer (some ⟨w1.heap.size, 0, none⟩), .int .i64 0, .pointer (some ⟨w2.heap.size, 0, none⟩), .pointer (some ⟨B, 0, none⟩), .tuple #[.agg #[.int .i64 us.length, .slice ca us.length cc, .slice aj (us.length * us.length) cj, .slice am (us.length * us.length) cm, .int .i64 (bt : Nat), .int .i64 (tp : Nat)], .int .i64 0], .agg #[.int .i64 us.length, .slice a us.length cap], .tuple #[.agg #[.int .i64 us.length, .slice ca us.length cc, .slice aj (us.length * us.length) cj, .slice am (us.length * us.length) cm, .int .i64 (bt : Nat), .int .i64 (tp : Nat)], .int .i64 0], .agg #[.int .i64 us.length, .slice ca us.length cc, .slice aj (us.length * us.length) cj, .slice am (us.length * us.length) cm, .int .i64 (bt : Nat), .int .i64 (tp : Nat)], .int .i64 0, .int .i64 0, .bool false, undef, undef, .agg #[.int .i64 us.length, .slice ca us.length cc, .slice aj (us.length * us.length) cj, .slice am (us.length * us.length) cm, .int .i64 (bt : Nat), .int .i64 (tp : Nat)], .bool cb, .agg #[.bool true, .bool true, .bool cb, .int .i64 0, .int .i64 0, .int .i64 0], .pointer (some ⟨w1.heap.size, 0, none⟩), .pointer (some ⟨w1.heap.size, 0, none⟩), .int .i64 us.length, .func (.func 63) #[] #[.pointer (some ⟨w2.heap.size + 1, 0, none⟩)], (.agg #[.int .i64 (y.1.1 : Nat), .int .i64 (y.1.2.1 : Nat), .int .i64 (y.1.2.2 : Nat)]), undef, undef, undef, undef, undef, undef, undef, undef, undef, undef, undef, undef, undef, undef, undef, undef, undef, undef, undef, undef, undef, undef, undef, undef], defers := [] } ∧ Row W' B 76 [.int .i64 (y.1.1 : Nat), .int .i64 (y.1.2.1 : Nat), .int .i64 (y.1.2.2 : Nat)])
    (fun y a' => ownFrom_ex fun B => OwnFrom.and (ownFrom_pure _ _) (Own.from (row_own B _ (fun _ => [.int .i64 (y.1.1 : Nat), .int .i64 (y.1.2.1 : Nat), .int .i64 (y.1.2.2 : Nat)])) _))
    ?assign ?body ?done ?stop
  case assign =>
    rintro l pre y W' K ⟨rK', hB'⟩ hK
    have hs' := hB'.size
    unfold enc3
    gi_wp2
    exact hK _ _ ((KeepsOthers.alloc _ _).from _) ⟨(Below.refl _ _).alloc hs' _, fun hc => (((Below.refl _ W').alloc (Nat.le_refl _) _).cell (p := ⟨w2.heap.size + 1, 0, none⟩) (by have := rK'.lt; exact cell_ltK hc)).trans hc⟩ ⟨rK'.alloc _, hB'.alloc hs' _⟩ ⟨W'.heap.size, rfl, Row.new W' _ _⟩
  case body =>
    rintro l pre y a' W' hlW ⟨r, hr⟩ ⟨rK', hB'⟩ ⟨B, rfl, rX⟩ _
    have hst : kindOf js ms us.length ((pre ++ [y]).map (·.1)) = (kindOf js ms us.length (pre.map (·.1))).step js ms us.length y.1 := by rw [List.map_append]; exact kindOf_snoc _ _ _ _ _
    have HST := hide hst
    clear hst
    obtain ⟨⟨x1, x2, x3⟩, hx1, hx2, hx3⟩ := y
    simp only at rX hx1 hx2 hx3
    have hne : w2.heap.size + 1 ≠ w2.heap.size := by omega
    have hXne : B ≠ w2.heap.size := fun e => by subst e; have := rX.symm.trans rK'; cases this
    have cdis : ∀ U, Below w2.heap.size w2 U → Calls Tryd.prog 43 #[.agg #[.int .i64 us.length, .slice ca us.length cc, .slice aj (us.length * us.length) cj, .slice am (us.length * us.length) cm, .int .i64 (bt : Nat), .int .i64 (tp : Nat)], .agg #[.int .i64 x1, .int .i64 x2, .int .i64 x3]] U fun e w' => e = .returned (.bool (disB js ms us.length x1 x2 x3)) ∧ Below U.heap.size U w' := fun U hU => distributes_any us.length ca cc aj cj am cm (bt : Nat) (tp : Nat) js ms x1 x2 x3 w2.heap.size hl16 hx1 hx2 hx3 hlj hlm hjl hml U (J2.below hU) (M2.below hU) hU.size
    have cmod : ∀ U, Below w2.heap.size w2 U → Calls Tryd.prog 44 #[.agg #[.int .i64 us.length, .slice ca us.length cc, .slice aj (us.length * us.length) cj, .slice am (us.length * us.length) cm, .int .i64 (bt : Nat), .int .i64 (tp : Nat)], .agg #[.int .i64 x1, .int .i64 x2, .int .i64 x3]] U fun e w' => e = .returned (.bool (modB js ms us.length x1 x2 x3)) ∧ Below U.heap.size U w' := fun U hU => modulates_any us.length ca cc aj cj am cm (bt : Nat) (tp : Nat) js ms x1 x2 x3 w2.heap.size hl16 hx1 hx2 hx3 hlj hlm hjl hml U (J2.below hU) (M2.below hU) hU.size
    have hs' := hB'.size
    have lX := rX.lt
    have yT := row_below rT hB' lT
    have lyT := yT.lt
    generalize kindOf js ms us.length (pre.map (·.1)) = st at *
    obtain ⟨d, m, sa, sb, sc⟩ := st
    simp only [kvals] at rK'
    have lK := rK'.lt
    cases hmv : modB js ms us.length x1 x2 x3 with
    | true =>
      rw [hmv] at cmod
      have HM := hide hmv
      clear hmv
      cases d with
      | false =>
        have sm := cmod W' hB'
        have TT := yT
        have KK := rK'
        have t0 := yT.cell (i := 0) rfl; have t1 := yT.cell (i := 1) rfl; have t2 := yT.cell (i := 2) rfl; have t3 := yT.cell (i := 3) rfl; have t4 := yT.cell (i := 4) rfl; have t5 := yT.cell (i := 5) rfl; have c0 := rX.cell (i := 0) rfl; have c1 := rX.cell (i := 1) rfl; have c2 := rX.cell (i := 2) rfl; have k0 := rK'.cell (i := 0) rfl; have k1 := rK'.cell (i := 1) rfl; have k2 := rK'.cell (i := 2) rfl; have k3 := rK'.cell (i := 3) rfl; have k4 := rK'.cell (i := 4) rfl; have k5 := rK'.cell (i := 5) rfl
        clear cdis cmod
        gi_wp2_with (gi_at_call 44; refine (CallsIn.inRound l (callsIn_wide.2 sm)).mono ?_; rintro e u5 ⟨rfl, hb5⟩; have T5 := row_below TT hb5 TT.lt; have K5 := row_below KK hb5 KK.lt; have k0 := K5.cell (i := 0) rfl; have k1 := K5.cell (i := 1) rfl; have k2 := K5.cell (i := 2) rfl; have k3 := K5.cell (i := 3) rfl; have k4 := K5.cell (i := 4) rfl; have k5 := K5.cell (i := 5) rfl; have f0 := K5.frozen 0; have f1 := K5.frozen 1; have f2 := K5.frozen 2; have f3 := K5.frozen 3; have f4 := K5.frozen 4; have f5 := K5.frozen 5)
        have F5 : Fin (w2.heap.size + 1) us.length w2.heap.size W' u5 := Fin.below hb5 hs'
        exact ⟨F5.1.from _, F5.2.1, by rw [HST.out]; unfold KSt.step; simp only [HM.out]; exact K5, hB'.trans (hb5.mono hs')⟩
      | true =>
        have sd := cdis W' hB'
        have t0 := yT.cell (i := 0) rfl; have t1 := yT.cell (i := 1) rfl; have t2 := yT.cell (i := 2) rfl; have t3 := yT.cell (i := 3) rfl; have t4 := yT.cell (i := 4) rfl; have t5 := yT.cell (i := 5) rfl; have c0 := rX.cell (i := 0) rfl; have c1 := rX.cell (i := 1) rfl; have c2 := rX.cell (i := 2) rfl; have k0 := rK'.cell (i := 0) rfl; have k1 := rK'.cell (i := 1) rfl; have k2 := rK'.cell (i := 2) rfl; have k3 := rK'.cell (i := 3) rfl; have k4 := rK'.cell (i := 4) rfl; have k5 := rK'.cell (i := 5) rfl
        cases hdv : disB js ms us.length x1 x2 x3 with
        | true =>
          rw [hdv] at sd
          have HD := hide hdv
          clear hdv
          gi_wp2_with (first
            | (gi_at_call 43; refine (CallsIn.inRound l (callsIn_wide.2 sd)).mono ?_; rintro e u3 ⟨rfl, hb3⟩; have TT := row_below yT hb3 lyT; have XX := row_below rX hb3 lX; have KK := row_below rK' hb3 lK; have hU3 : Below w2.heap.size w2 u3 := hB'.trans (hb3.mono hs'); have sm := cmod u3 hU3; have t0 := TT.cell (i := 0) rfl; have t1 := TT.cell (i := 1) rfl; have t2 := TT.cell (i := 2) rfl; have t3 := TT.cell (i := 3) rfl; have t4 := TT.cell (i := 4) rfl; have t5 := TT.cell (i := 5) rfl; have c0 := XX.cell (i := 0) rfl; have c1 := XX.cell (i := 1) rfl; have c2 := XX.cell (i := 2) rfl; have k0 := KK.cell (i := 0) rfl; have k1 := KK.cell (i := 1) rfl; have k2 := KK.cell (i := 2) rfl; have k3 := KK.cell (i := 3) rfl; have k4 := KK.cell (i := 4) rfl; have k5 := KK.cell (i := 5) rfl; clear sd)
            | (gi_at_call 44; refine (CallsIn.inRound l (callsIn_wide.2 sm)).mono ?_; rintro e u5 ⟨rfl, hb5⟩; have T5 := row_below TT hb5 TT.lt; have K5 := row_below KK hb5 KK.lt; have k0 := K5.cell (i := 0) rfl; have k1 := K5.cell (i := 1) rfl; have k2 := K5.cell (i := 2) rfl; have k3 := K5.cell (i := 3) rfl; have k4 := K5.cell (i := 4) rfl; have k5 := K5.cell (i := 5) rfl; have f0 := K5.frozen 0; have f1 := K5.frozen 1; have f2 := K5.frozen 2; have f3 := K5.frozen 3; have f4 := K5.frozen 4; have f5 := K5.frozen 5))
          have F5 : Fin (w2.heap.size + 1) us.length w2.heap.size W' u5 := (Fin.below hb3 hs').trans (Fin.below hb5 hU3.size)
          exact ⟨F5.1.from _, F5.2.1, by rw [HST.out]; unfold KSt.step; simp only [HM.out, HD.out]; exact K5, hU3.trans (hb5.mono hU3.size)⟩
        | false =>
          rw [hdv] at sd
          have HD := hide hdv
          clear hdv
          gi_wp2_with (gi_at_call 43; refine (CallsIn.inRound l (callsIn_wide.2 sd)).mono ?_; rintro e u3 ⟨rfl, hb3⟩; have TT := row_below yT hb3 lyT; have XX := row_below rX hb3 lX; have KK := row_below rK' hb3 lK; have hU3 : Below w2.heap.size w2 u3 := hB'.trans (hb3.mono hs'); have k0 := KK.cell (i := 0) rfl; have k1 := KK.cell (i := 1) rfl; have k2 := KK.cell (i := 2) rfl; have k3 := KK.cell (i := 3) rfl; have k4 := KK.cell (i := 4) rfl; have k5 := KK.cell (i := 5) rfl; have f0 := KK.frozen 0; have f1 := KK.frozen 1; have f2 := KK.frozen 2; have f3 := KK.frozen 3; have f4 := KK.frozen 4; have f5 := KK.frozen 5; clear sd)
          obtain ⟨u4, hu4⟩ : ∃ u4, u4 = u3.setCell ⟨w2.heap.size, 0, none⟩ (.bool false) := ⟨_, rfl⟩
          rw [← hu4]
          have T4 : Row u4 w1.heap.size 69 [.int .i64 us.length, .slice ca us.length cc, .slice aj (us.length * us.length) cj, .slice am (us.length * us.length) cm, .int .i64 (bt : Nat), .int .i64 (tp : Nat)] := by rw [hu4]; exact TT.other (by omega) _ _
          have X4 : Row u4 B 76 [.int .i64 x1, .int .i64 x2, .int .i64 x3] := by rw [hu4]; exact XX.other hXne _ _
          have K4 : Row u4 w2.heap.size 40 [.bool false, .bool m, .bool cb, .int .i64 (sa : Nat), .int .i64 (sb : Nat), .int .i64 (sc : Nat)] := by rw [hu4]; exact KK.set 0 _
          have F4 : Fin (w2.heap.size + 1) us.length w2.heap.size W' u4 := by rw [hu4]; exact (Fin.below hb3 hs').trans (Fin.set hne u3 0 (.bool false))
          have hU4 : Below w2.heap.size w2 u4 := by rw [hu4]; exact hU3.setCell (p := ⟨w2.heap.size, 0, none⟩) (Nat.le_refl _) _
          clear hu4 t0 t1 t2 t3 t4 t5 c0 c1 c2 k0 k1 k2 k3 k4 k5 f0 f1 f2 f3 f4 f5
          have c0 := X4.cell (i := 0) rfl
          have c1 := X4.cell (i := 1) rfl
          have c2 := X4.cell (i := 2) rfl
          have k3 := K4.cell (i := 3) rfl
          have k4 := K4.cell (i := 4) rfl
          have k5 := K4.cell (i := 5) rfl
          have f3 := K4.frozen 3
          have f4 := K4.frozen 4
          have f5 := K4.frozen 5
          have hu3' := Tryd.underlying76
          have hmx : Tryd.prog.follows .mixedOrders = true := by kernel_rfl
          have hK4 := K4.lt
          clear k3 k4 k5 f3 f4 f5 c0 c1 c2
          have X4d : Row u4.drew B 76 [.int .i64 x1, .int .i64 x2, .int .i64 x3] := X4
          have K4d : Row u4.drew w2.heap.size 40 [.bool false, .bool m, .bool cb, .int .i64 (sa : Nat), .int .i64 (sb : Nat), .int .i64 (sc : Nat)] := K4
          have hT4 : Row u4.drew w1.heap.size 69 [.int .i64 us.length, .slice ca us.length cc, .slice aj (us.length * us.length) cj, .slice am (us.length * us.length) cm, .int .i64 (bt : Nat), .int .i64 (tp : Nat)] := T4
          have F4d : Fin (w2.heap.size + 1) us.length w2.heap.size W' u4.drew := F4.trans (Fin.drew _ _ _ _)
          have hU4d : Below w2.heap.size w2 u4.drew := hU4.drew
          refine region_heldR (fun W => Row W B 76 [.int .i64 x1, .int .i64 x2, .int .i64 x3]) l _ (by kernel_rfl) hmx ?_
          generalize u4.drew = ud at *
          refine wpAnyH_take (i := 0) (v := .pointer (some ⟨B, 0, none⟩)) rfl (by kernel_rfl) (by kernel_rfl) (by kernel_rfl) plain_no' (Or.inl ⟨by rfl, ?_⟩) X4d ?_
          · intro w' hS'
            go_simp
          simp only [Act.put]
          refine wpAnyH_take (i := 1) (v := .int .i64 x1) rfl (by kernel_rfl) (by kernel_rfl) (by kernel_rfl) plain_no' (Or.inl ⟨by rfl, ?_⟩) X4d ?_
          · intro w' hS'
            have c := hS'.cell (i := 0) rfl; have lb := hS'.lt; go_simp
          simp only [Act.put]
          refine wpAnyH_take (i := 2) (v := .pointer (some ⟨B, 1, none⟩)) rfl (by kernel_rfl) (by kernel_rfl) (by kernel_rfl) plain_no' (Or.inl ⟨by rfl, ?_⟩) X4d ?_
          · intro w' hS'
            go_simp
          simp only [Act.put]
          refine wpAnyH_take (i := 3) (v := .int .i64 x2) rfl (by kernel_rfl) (by kernel_rfl) (by kernel_rfl) plain_no' (Or.inl ⟨by rfl, ?_⟩) X4d ?_
          · intro w' hS'
            have c := hS'.cell (i := 1) rfl; have lb := hS'.lt; go_simp
          simp only [Act.put]
          refine wpAnyH_take (i := 4) (v := .pointer (some ⟨B, 2, none⟩)) rfl (by kernel_rfl) (by kernel_rfl) (by kernel_rfl) plain_no' (Or.inl ⟨by rfl, ?_⟩) X4d ?_
          · intro w' hS'
            go_simp
          simp only [Act.put]
          refine wpAnyH_take (i := 5) (v := .int .i64 x3) rfl (by kernel_rfl) (by kernel_rfl) (by kernel_rfl) plain_no' (Or.inl ⟨by rfl, ?_⟩) X4d ?_
          · intro w' hS'
            have c := hS'.cell (i := 2) rfl; have lb := hS'.lt; go_simp
          simp only [Act.put]
          refine wpAnyH_take (i := 6) (v := .pointer (some ⟨w2.heap.size, 3, none⟩)) rfl (by kernel_rfl) (by kernel_rfl) (by kernel_rfl) plain_no' (Or.inl ⟨by rfl, ?_⟩) X4d ?_
          · intro w' hS'
            go_simp
          simp only [Act.put]
          refine wpAnyH_ready (rs := [7]) (by kernel_rfl) (by simp) (AllReadyH.cons rfl (fun K hK => ?_) AllReadyH.nil)
          have kc0 := K4d.cell (i := 3) rfl
          have kf0 := K4d.frozen 3
          go_simp
          have X50 := X4d.other hXne 3 (.int .i64 (x1 : Nat))
          have K50 := K4d.set 3 (.int .i64 (x1 : Nat))
          refine hK.out _ _ X50 (fun _ => ?_)
          clear hK K kc0 kf0
          refine wpAnyH_take (i := 8) (v := .pointer (some ⟨w2.heap.size, 4, none⟩)) rfl (by kernel_rfl) (by kernel_rfl) (by kernel_rfl) plain_no' (Or.inl ⟨by rfl, ?_⟩) X50 ?_
          · intro w' hS'
            go_simp
          simp only [Act.put]
          refine wpAnyH_ready (rs := [9]) (by kernel_rfl) (by simp) (AllReadyH.cons rfl (fun K hK => ?_) AllReadyH.nil)
          have kc1 := K50.cell (i := 4) rfl
          have kf1 := K50.frozen 4
          go_simp
          have X51 := X50.other hXne 4 (.int .i64 (x2 : Nat))
          have K51 := K50.set 4 (.int .i64 (x2 : Nat))
          refine hK.out _ _ X51 (fun _ => ?_)
          clear hK K kc1 kf1
          refine wpAnyH_take (i := 10) (v := .pointer (some ⟨w2.heap.size, 5, none⟩)) rfl (by kernel_rfl) (by kernel_rfl) (by kernel_rfl) plain_no' (Or.inl ⟨by rfl, ?_⟩) X51 ?_
          · intro w' hS'
            go_simp
          simp only [Act.put]
          refine wpAnyH_ready (rs := [11]) (by kernel_rfl) (by simp) (AllReadyH.cons rfl (fun K hK => ?_) AllReadyH.nil)
          have kc2 := K51.cell (i := 5) rfl
          have kf2 := K51.frozen 5
          go_simp
          have X52 := X51.other hXne 5 (.int .i64 (x3 : Nat))
          have K52 := K51.set 5 (.int .i64 (x3 : Nat))
          refine hK.out _ _ X52 (fun _ => ?_)
          clear hK K kc2 kf2
          refine wpAnyH_done (by kernel_rfl) ⟨rfl, ?_⟩ _
          have hne12 : w1.heap.size ≠ w2.heap.size := by omega
          have T5 := ((hT4.other hne12 3 (.int .i64 (x1 : Nat))).other hne12 4 (.int .i64 (x2 : Nat))).other hne12 5 (.int .i64 (x3 : Nat))
          have F5 := ((F4d.trans (Fin.set hne ud 3 (.int .i64 (x1 : Nat)))).trans (Fin.set hne (ud.setCell ⟨w2.heap.size, 3, none⟩ (.int .i64 (x1 : Nat))) 4 (.int .i64 (x2 : Nat)))).trans (Fin.set hne ((ud.setCell ⟨w2.heap.size, 3, none⟩ (.int .i64 (x1 : Nat))).setCell ⟨w2.heap.size, 4, none⟩ (.int .i64 (x2 : Nat))) 5 (.int .i64 (x3 : Nat)))
          have hU5 := ((hU4d.setCell (p := ⟨w2.heap.size, 3, none⟩) (Nat.le_refl _) (.int .i64 (x1 : Nat))).setCell (p := ⟨w2.heap.size, 4, none⟩) (Nat.le_refl _) (.int .i64 (x2 : Nat))).setCell (p := ⟨w2.heap.size, 5, none⟩) (Nat.le_refl _) (.int .i64 (x3 : Nat))
          have K5 : Row (((ud.setCell ⟨w2.heap.size, 3, none⟩ (.int .i64 (x1 : Nat))).setCell ⟨w2.heap.size, 4, none⟩ (.int .i64 (x2 : Nat))).setCell ⟨w2.heap.size, 5, none⟩ (.int .i64 (x3 : Nat))) w2.heap.size 40 [.bool false, .bool m, .bool cb, .int .i64 (x1 : Nat), .int .i64 (x2 : Nat), .int .i64 (x3 : Nat)] := K52
          clear K50 K51 K52 X50 X51 hT4 F4d hU4d F4 hU4 T4 X4 K4 X4d K4d
          generalize ((ud.setCell ⟨w2.heap.size, 3, none⟩ (.int .i64 (x1 : Nat))).setCell ⟨w2.heap.size, 4, none⟩ (.int .i64 (x2 : Nat))).setCell ⟨w2.heap.size, 5, none⟩ (.int .i64 (x3 : Nat)) = ue at *
          have sm := cmod ue hU5
          have t0 := T5.cell (i := 0) rfl; have t1 := T5.cell (i := 1) rfl; have t2 := T5.cell (i := 2) rfl; have t3 := T5.cell (i := 3) rfl; have t4 := T5.cell (i := 4) rfl; have t5 := T5.cell (i := 5) rfl
          have c0 := X52.cell (i := 0) rfl; have c1 := X52.cell (i := 1) rfl; have c2 := X52.cell (i := 2) rfl
          have lT5 := T5.lt
          have lX5 := X52.lt
          gi_wp2_with (gi_at_call 44; refine (CallsIn.inRound l (callsIn_wide.2 sm)).mono ?_; rintro e u6 ⟨rfl, hb6⟩; have K6 := row_below K5 hb6 K5.lt; have k0 := K6.cell (i := 0) rfl; have k1 := K6.cell (i := 1) rfl; have k2 := K6.cell (i := 2) rfl; have k3 := K6.cell (i := 3) rfl; have k4 := K6.cell (i := 4) rfl; have k5 := K6.cell (i := 5) rfl; have f0 := K6.frozen 0; have f1 := K6.frozen 1; have f2 := K6.frozen 2; have f3 := K6.frozen 3; have f4 := K6.frozen 4; have f5 := K6.frozen 5)
          have F6 : Fin (w2.heap.size + 1) us.length w2.heap.size W' u6 := F5.trans (Fin.below hb6 hU5.size)
          exact ⟨F6.1.from _, F6.2.1, by rw [HST.out]; unfold KSt.step; simp only [HM.out, HD.out]; exact K6, hU5.trans (hb6.mono hU5.size)⟩
    | false =>
      rw [hmv] at cmod
      have HM := hide hmv
      clear hmv
      cases d with
      | false =>
        have sm := cmod W' hB'
        have TT := yT
        have KK := rK'
        have t0 := yT.cell (i := 0) rfl; have t1 := yT.cell (i := 1) rfl; have t2 := yT.cell (i := 2) rfl; have t3 := yT.cell (i := 3) rfl; have t4 := yT.cell (i := 4) rfl; have t5 := yT.cell (i := 5) rfl; have c0 := rX.cell (i := 0) rfl; have c1 := rX.cell (i := 1) rfl; have c2 := rX.cell (i := 2) rfl; have k0 := rK'.cell (i := 0) rfl; have k1 := rK'.cell (i := 1) rfl; have k2 := rK'.cell (i := 2) rfl; have k3 := rK'.cell (i := 3) rfl; have k4 := rK'.cell (i := 4) rfl; have k5 := rK'.cell (i := 5) rfl
        clear cdis cmod
        gi_wp2_with (gi_at_call 44; refine (CallsIn.inRound l (callsIn_wide.2 sm)).mono ?_; rintro e u5 ⟨rfl, hb5⟩; have T5 := row_below TT hb5 TT.lt; have K5 := row_below KK hb5 KK.lt; have k0 := K5.cell (i := 0) rfl; have k1 := K5.cell (i := 1) rfl; have k2 := K5.cell (i := 2) rfl; have k3 := K5.cell (i := 3) rfl; have k4 := K5.cell (i := 4) rfl; have k5 := K5.cell (i := 5) rfl; have f0 := K5.frozen 0; have f1 := K5.frozen 1; have f2 := K5.frozen 2; have f3 := K5.frozen 3; have f4 := K5.frozen 4; have f5 := K5.frozen 5)
        have F5 : Fin (w2.heap.size + 1) us.length w2.heap.size W' u5 := Fin.below hb5 hs'
        have F6 := F5.trans (Fin.set hne u5 1 (.bool false))
        exact ⟨F6.1.from _, F6.2.1, by rw [HST.out]; unfold KSt.step; simp only [HM.out]; exact K5.set 1 (.bool false), (hB'.trans (hb5.mono hs')).setCell (p := ⟨w2.heap.size, 1, none⟩) (Nat.le_refl _) _⟩
      | true =>
        have sd := cdis W' hB'
        have t0 := yT.cell (i := 0) rfl; have t1 := yT.cell (i := 1) rfl; have t2 := yT.cell (i := 2) rfl; have t3 := yT.cell (i := 3) rfl; have t4 := yT.cell (i := 4) rfl; have t5 := yT.cell (i := 5) rfl; have c0 := rX.cell (i := 0) rfl; have c1 := rX.cell (i := 1) rfl; have c2 := rX.cell (i := 2) rfl; have k0 := rK'.cell (i := 0) rfl; have k1 := rK'.cell (i := 1) rfl; have k2 := rK'.cell (i := 2) rfl; have k3 := rK'.cell (i := 3) rfl; have k4 := rK'.cell (i := 4) rfl; have k5 := rK'.cell (i := 5) rfl
        cases hdv : disB js ms us.length x1 x2 x3 with
        | true =>
          rw [hdv] at sd
          have HD := hide hdv
          clear hdv
          gi_wp2_with (first
            | (gi_at_call 43; refine (CallsIn.inRound l (callsIn_wide.2 sd)).mono ?_; rintro e u3 ⟨rfl, hb3⟩; have TT := row_below yT hb3 lyT; have XX := row_below rX hb3 lX; have KK := row_below rK' hb3 lK; have hU3 : Below w2.heap.size w2 u3 := hB'.trans (hb3.mono hs'); have sm := cmod u3 hU3; have t0 := TT.cell (i := 0) rfl; have t1 := TT.cell (i := 1) rfl; have t2 := TT.cell (i := 2) rfl; have t3 := TT.cell (i := 3) rfl; have t4 := TT.cell (i := 4) rfl; have t5 := TT.cell (i := 5) rfl; have c0 := XX.cell (i := 0) rfl; have c1 := XX.cell (i := 1) rfl; have c2 := XX.cell (i := 2) rfl; have k0 := KK.cell (i := 0) rfl; have k1 := KK.cell (i := 1) rfl; have k2 := KK.cell (i := 2) rfl; have k3 := KK.cell (i := 3) rfl; have k4 := KK.cell (i := 4) rfl; have k5 := KK.cell (i := 5) rfl; clear sd)
            | (gi_at_call 44; refine (CallsIn.inRound l (callsIn_wide.2 sm)).mono ?_; rintro e u5 ⟨rfl, hb5⟩; have T5 := row_below TT hb5 TT.lt; have K5 := row_below KK hb5 KK.lt; have k0 := K5.cell (i := 0) rfl; have k1 := K5.cell (i := 1) rfl; have k2 := K5.cell (i := 2) rfl; have k3 := K5.cell (i := 3) rfl; have k4 := K5.cell (i := 4) rfl; have k5 := K5.cell (i := 5) rfl; have f0 := K5.frozen 0; have f1 := K5.frozen 1; have f2 := K5.frozen 2; have f3 := K5.frozen 3; have f4 := K5.frozen 4; have f5 := K5.frozen 5))
          have F5 : Fin (w2.heap.size + 1) us.length w2.heap.size W' u5 := (Fin.below hb3 hs').trans (Fin.below hb5 hU3.size)
          have F6 := F5.trans (Fin.set hne u5 1 (.bool false))
          exact ⟨F6.1.from _, F6.2.1, by rw [HST.out]; unfold KSt.step; simp only [HM.out, HD.out]; exact K5.set 1 (.bool false), (hU3.trans (hb5.mono hU3.size)).setCell (p := ⟨w2.heap.size, 1, none⟩) (Nat.le_refl _) _⟩
        | false =>
          rw [hdv] at sd
          have HD := hide hdv
          clear hdv
          gi_wp2_with (gi_at_call 43; refine (CallsIn.inRound l (callsIn_wide.2 sd)).mono ?_; rintro e u3 ⟨rfl, hb3⟩; have TT := row_below yT hb3 lyT; have XX := row_below rX hb3 lX; have KK := row_below rK' hb3 lK; have hU3 : Below w2.heap.size w2 u3 := hB'.trans (hb3.mono hs'); have k0 := KK.cell (i := 0) rfl; have k1 := KK.cell (i := 1) rfl; have k2 := KK.cell (i := 2) rfl; have k3 := KK.cell (i := 3) rfl; have k4 := KK.cell (i := 4) rfl; have k5 := KK.cell (i := 5) rfl; have f0 := KK.frozen 0; have f1 := KK.frozen 1; have f2 := KK.frozen 2; have f3 := KK.frozen 3; have f4 := KK.frozen 4; have f5 := KK.frozen 5; clear sd)
          obtain ⟨u4, hu4⟩ : ∃ u4, u4 = u3.setCell ⟨w2.heap.size, 0, none⟩ (.bool false) := ⟨_, rfl⟩
          rw [← hu4]
          have T4 : Row u4 w1.heap.size 69 [.int .i64 us.length, .slice ca us.length cc, .slice aj (us.length * us.length) cj, .slice am (us.length * us.length) cm, .int .i64 (bt : Nat), .int .i64 (tp : Nat)] := by rw [hu4]; exact TT.other (by omega) _ _
          have X4 : Row u4 B 76 [.int .i64 x1, .int .i64 x2, .int .i64 x3] := by rw [hu4]; exact XX.other hXne _ _
          have K4 : Row u4 w2.heap.size 40 [.bool false, .bool m, .bool cb, .int .i64 (sa : Nat), .int .i64 (sb : Nat), .int .i64 (sc : Nat)] := by rw [hu4]; exact KK.set 0 _
          have F4 : Fin (w2.heap.size + 1) us.length w2.heap.size W' u4 := by rw [hu4]; exact (Fin.below hb3 hs').trans (Fin.set hne u3 0 (.bool false))
          have hU4 : Below w2.heap.size w2 u4 := by rw [hu4]; exact hU3.setCell (p := ⟨w2.heap.size, 0, none⟩) (Nat.le_refl _) _
          clear hu4 t0 t1 t2 t3 t4 t5 c0 c1 c2 k0 k1 k2 k3 k4 k5 f0 f1 f2 f3 f4 f5
          have c0 := X4.cell (i := 0) rfl
          have c1 := X4.cell (i := 1) rfl
          have c2 := X4.cell (i := 2) rfl
          have k3 := K4.cell (i := 3) rfl
          have k4 := K4.cell (i := 4) rfl
          have k5 := K4.cell (i := 5) rfl
          have f3 := K4.frozen 3
          have f4 := K4.frozen 4
          have f5 := K4.frozen 5
          have hu3' := Tryd.underlying76
          have hmx : Tryd.prog.follows .mixedOrders = true := by kernel_rfl
          have hK4 := K4.lt
          clear k3 k4 k5 f3 f4 f5 c0 c1 c2
          have X4d : Row u4.drew B 76 [.int .i64 x1, .int .i64 x2, .int .i64 x3] := X4
          have K4d : Row u4.drew w2.heap.size 40 [.bool false, .bool m, .bool cb, .int .i64 (sa : Nat), .int .i64 (sb : Nat), .int .i64 (sc : Nat)] := K4
          have hT4 : Row u4.drew w1.heap.size 69 [.int .i64 us.length, .slice ca us.length cc, .slice aj (us.length * us.length) cj, .slice am (us.length * us.length) cm, .int .i64 (bt : Nat), .int .i64 (tp : Nat)] := T4
          have F4d : Fin (w2.heap.size + 1) us.length w2.heap.size W' u4.drew := F4.trans (Fin.drew _ _ _ _)
          have hU4d : Below w2.heap.size w2 u4.drew := hU4.drew
          refine region_heldR (fun W => Row W B 76 [.int .i64 x1, .int .i64 x2, .int .i64 x3]) l _ (by kernel_rfl) hmx ?_
          generalize u4.drew = ud at *
          refine wpAnyH_take (i := 0) (v := .pointer (some ⟨B, 0, none⟩)) rfl (by kernel_rfl) (by kernel_rfl) (by kernel_rfl) plain_no' (Or.inl ⟨by rfl, ?_⟩) X4d ?_
          · intro w' hS'
            go_simp
          simp only [Act.put]
          refine wpAnyH_take (i := 1) (v := .int .i64 x1) rfl (by kernel_rfl) (by kernel_rfl) (by kernel_rfl) plain_no' (Or.inl ⟨by rfl, ?_⟩) X4d ?_
          · intro w' hS'
            have c := hS'.cell (i := 0) rfl; have lb := hS'.lt; go_simp
          simp only [Act.put]
          refine wpAnyH_take (i := 2) (v := .pointer (some ⟨B, 1, none⟩)) rfl (by kernel_rfl) (by kernel_rfl) (by kernel_rfl) plain_no' (Or.inl ⟨by rfl, ?_⟩) X4d ?_
          · intro w' hS'
            go_simp
          simp only [Act.put]
          refine wpAnyH_take (i := 3) (v := .int .i64 x2) rfl (by kernel_rfl) (by kernel_rfl) (by kernel_rfl) plain_no' (Or.inl ⟨by rfl, ?_⟩) X4d ?_
          · intro w' hS'
            have c := hS'.cell (i := 1) rfl; have lb := hS'.lt; go_simp
          simp only [Act.put]
          refine wpAnyH_take (i := 4) (v := .pointer (some ⟨B, 2, none⟩)) rfl (by kernel_rfl) (by kernel_rfl) (by kernel_rfl) plain_no' (Or.inl ⟨by rfl, ?_⟩) X4d ?_
          · intro w' hS'
            go_simp
          simp only [Act.put]
          refine wpAnyH_take (i := 5) (v := .int .i64 x3) rfl (by kernel_rfl) (by kernel_rfl) (by kernel_rfl) plain_no' (Or.inl ⟨by rfl, ?_⟩) X4d ?_
          · intro w' hS'
            have c := hS'.cell (i := 2) rfl; have lb := hS'.lt; go_simp
          simp only [Act.put]
          refine wpAnyH_take (i := 6) (v := .pointer (some ⟨w2.heap.size, 3, none⟩)) rfl (by kernel_rfl) (by kernel_rfl) (by kernel_rfl) plain_no' (Or.inl ⟨by rfl, ?_⟩) X4d ?_
          · intro w' hS'
            go_simp
          simp only [Act.put]
          refine wpAnyH_ready (rs := [7]) (by kernel_rfl) (by simp) (AllReadyH.cons rfl (fun K hK => ?_) AllReadyH.nil)
          have kc0 := K4d.cell (i := 3) rfl
          have kf0 := K4d.frozen 3
          go_simp
          have X50 := X4d.other hXne 3 (.int .i64 (x1 : Nat))
          have K50 := K4d.set 3 (.int .i64 (x1 : Nat))
          refine hK.out _ _ X50 (fun _ => ?_)
          clear hK K kc0 kf0
          refine wpAnyH_take (i := 8) (v := .pointer (some ⟨w2.heap.size, 4, none⟩)) rfl (by kernel_rfl) (by kernel_rfl) (by kernel_rfl) plain_no' (Or.inl ⟨by rfl, ?_⟩) X50 ?_
          · intro w' hS'
            go_simp
          simp only [Act.put]
          refine wpAnyH_ready (rs := [9]) (by kernel_rfl) (by simp) (AllReadyH.cons rfl (fun K hK => ?_) AllReadyH.nil)
          have kc1 := K50.cell (i := 4) rfl
          have kf1 := K50.frozen 4
          go_simp
          have X51 := X50.other hXne 4 (.int .i64 (x2 : Nat))
          have K51 := K50.set 4 (.int .i64 (x2 : Nat))
          refine hK.out _ _ X51 (fun _ => ?_)
          clear hK K kc1 kf1
          refine wpAnyH_take (i := 10) (v := .pointer (some ⟨w2.heap.size, 5, none⟩)) rfl (by kernel_rfl) (by kernel_rfl) (by kernel_rfl) plain_no' (Or.inl ⟨by rfl, ?_⟩) X51 ?_
          · intro w' hS'
            go_simp
          simp only [Act.put]
          refine wpAnyH_ready (rs := [11]) (by kernel_rfl) (by simp) (AllReadyH.cons rfl (fun K hK => ?_) AllReadyH.nil)
          have kc2 := K51.cell (i := 5) rfl
          have kf2 := K51.frozen 5
          go_simp
          have X52 := X51.other hXne 5 (.int .i64 (x3 : Nat))
          have K52 := K51.set 5 (.int .i64 (x3 : Nat))
          refine hK.out _ _ X52 (fun _ => ?_)
          clear hK K kc2 kf2
          refine wpAnyH_done (by kernel_rfl) ⟨rfl, ?_⟩ _
          have hne12 : w1.heap.size ≠ w2.heap.size := by omega
          have T5 := ((hT4.other hne12 3 (.int .i64 (x1 : Nat))).other hne12 4 (.int .i64 (x2 : Nat))).other hne12 5 (.int .i64 (x3 : Nat))
          have F5 := ((F4d.trans (Fin.set hne ud 3 (.int .i64 (x1 : Nat)))).trans (Fin.set hne (ud.setCell ⟨w2.heap.size, 3, none⟩ (.int .i64 (x1 : Nat))) 4 (.int .i64 (x2 : Nat)))).trans (Fin.set hne ((ud.setCell ⟨w2.heap.size, 3, none⟩ (.int .i64 (x1 : Nat))).setCell ⟨w2.heap.size, 4, none⟩ (.int .i64 (x2 : Nat))) 5 (.int .i64 (x3 : Nat)))
          have hU5 := ((hU4d.setCell (p := ⟨w2.heap.size, 3, none⟩) (Nat.le_refl _) (.int .i64 (x1 : Nat))).setCell (p := ⟨w2.heap.size, 4, none⟩) (Nat.le_refl _) (.int .i64 (x2 : Nat))).setCell (p := ⟨w2.heap.size, 5, none⟩) (Nat.le_refl _) (.int .i64 (x3 : Nat))
          have K5 : Row (((ud.setCell ⟨w2.heap.size, 3, none⟩ (.int .i64 (x1 : Nat))).setCell ⟨w2.heap.size, 4, none⟩ (.int .i64 (x2 : Nat))).setCell ⟨w2.heap.size, 5, none⟩ (.int .i64 (x3 : Nat))) w2.heap.size 40 [.bool false, .bool m, .bool cb, .int .i64 (x1 : Nat), .int .i64 (x2 : Nat), .int .i64 (x3 : Nat)] := K52
          clear K50 K51 K52 X50 X51 hT4 F4d hU4d F4 hU4 T4 X4 K4 X4d K4d
          generalize ((ud.setCell ⟨w2.heap.size, 3, none⟩ (.int .i64 (x1 : Nat))).setCell ⟨w2.heap.size, 4, none⟩ (.int .i64 (x2 : Nat))).setCell ⟨w2.heap.size, 5, none⟩ (.int .i64 (x3 : Nat)) = ue at *
          have sm := cmod ue hU5
          have t0 := T5.cell (i := 0) rfl; have t1 := T5.cell (i := 1) rfl; have t2 := T5.cell (i := 2) rfl; have t3 := T5.cell (i := 3) rfl; have t4 := T5.cell (i := 4) rfl; have t5 := T5.cell (i := 5) rfl
          have c0 := X52.cell (i := 0) rfl; have c1 := X52.cell (i := 1) rfl; have c2 := X52.cell (i := 2) rfl
          have lT5 := T5.lt
          have lX5 := X52.lt
          gi_wp2_with (gi_at_call 44; refine (CallsIn.inRound l (callsIn_wide.2 sm)).mono ?_; rintro e u6 ⟨rfl, hb6⟩; have K6 := row_below K5 hb6 K5.lt; have k0 := K6.cell (i := 0) rfl; have k1 := K6.cell (i := 1) rfl; have k2 := K6.cell (i := 2) rfl; have k3 := K6.cell (i := 3) rfl; have k4 := K6.cell (i := 4) rfl; have k5 := K6.cell (i := 5) rfl; have f0 := K6.frozen 0; have f1 := K6.frozen 1; have f2 := K6.frozen 2; have f3 := K6.frozen 3; have f4 := K6.frozen 4; have f5 := K6.frozen 5)
          have F6 : Fin (w2.heap.size + 1) us.length w2.heap.size W' u6 := F5.trans (Fin.below hb6 hU5.size)
          have F7 := F6.trans (Fin.set hne u6 1 (.bool false))
          exact ⟨F7.1.from _, F7.2.1, by rw [HST.out]; unfold KSt.step; simp only [HM.out, HD.out]; exact K6.set 1 (.bool false), (hU5.trans (hb6.mono hU5.size)).setCell (p := ⟨w2.heap.size, 1, none⟩) (Nat.le_refl _) _⟩
  case done =>
    rintro D ys W' hD hys ⟨rK', hB'⟩ hDf
    rw [hys] at rK'
    have hDl : D < W'.heap.size := (Array.getElem?_eq_some_iff.1 hDf).1
    have z2 := row_below z1 hB' lz1
    have lz2 := z2.lt
    obtain ⟨st, hst⟩ : ∃ st, kindOf js ms us.length (triA us.length us.length) = st := ⟨_, rfl⟩
    rw [hst] at rK'
    have Hst := hide hst
    clear hst
    obtain ⟨d, m, sa, sb, sc⟩ := st
    simp only [kvals] at rK'
    have lK := rK'.lt
    have k0 := rK'.cell (i := 0) rfl; have k1 := rK'.cell (i := 1) rfl; have k2 := rK'.cell (i := 2) rfl; have k3 := rK'.cell (i := 3) rfl; have k4 := rK'.cell (i := 4) rfl; have k5 := rK'.cell (i := 5) rfl
    have y0 := z2.cell (i := 0) rfl; have y1 := z2.cell (i := 1) rfl; have y2 := z2.cell (i := 2) rfl; have y3 := z2.cell (i := 3) rfl; have y4 := z2.cell (i := 4) rfl; have y5 := z2.cell (i := 5) rfl
    have g0 := z2.frozen 0; have g1 := z2.frozen 1; have g2 := z2.frozen 2; have g3 := z2.frozen 3; have g4 := z2.frozen 4; have g5 := z2.frozen 5
    have Z := row_set6 z2 (.bool d) (.bool m) (.bool cb) (.int .i64 (sa : Nat)) (.int .i64 (sb : Nat)) (.int .i64 (sc : Nat))
    gi_wp2
    have hBz := below_set6 (hBw2.trans (hB'.mono (by omega))) (show w.heap.size ≤ w.heap.size + 1 by omega) (.bool d) (.bool m) (.bool cb) (.int .i64 (sa : Nat)) (.int .i64 (sb : Nat)) (.int .i64 (sc : Nat))
    have hM : Marks w2.heap.size W' W'.heap.size [mark D] := ⟨D, rfl, by omega, hDl, hDf, trivial⟩
    have hM2 := (((((hM.others (KeepsOthers.setCell W' ⟨w.heap.size + 1, 0, none⟩ (.bool d))).others (KeepsOthers.setCell _ ⟨w.heap.size + 1, 1, none⟩ (.bool m))).others (KeepsOthers.setCell _ ⟨w.heap.size + 1, 2, none⟩ (.bool cb))).others (KeepsOthers.setCell _ ⟨w.heap.size + 1, 3, none⟩ (.int .i64 (sa : Nat)))).others (KeepsOthers.setCell _ ⟨w.heap.size + 1, 4, none⟩ (.int .i64 (sb : Nat)))).others (KeepsOthers.setCell _ ⟨w.heap.size + 1, 5, none⟩ (.int .i64 (sc : Nat)))
    refine leaves_marks (n₀ := w2.heap.size) (G := fun _ W => Row W (w.heap.size + 1) 40 [.bool d, .bool m, .bool cb, .int .i64 (sa : Nat), .int .i64 (sb : Nat), .int .i64 (sc : Nat)] ∧ Below w.heap.size w W) (OwnFrom.and (Own.from (row_own _ _ (fun _ => [.bool d, .bool m, .bool cb, .int .i64 (sa : Nat), .int .i64 (sb : Nat), .int .i64 (sc : Nat)])) _) (ownFrom_below (by omega) (by omega))) (fun W h => ?_) [mark D] _ _ hM2 ⟨Z, hBz⟩
    have e0 := h.1.cell (i := 0) rfl
    have e1 := h.1.cell (i := 1) rfl
    have e2 := h.1.cell (i := 2) rfl
    have e3 := h.1.cell (i := 3) rfl
    have e4 := h.1.cell (i := 4) rfl
    have e5 := h.1.cell (i := 5) rfl
    refine ⟨.tuple #[.agg #[.bool d, .bool m, .bool cb, .int .i64 (sa : Nat), .int .i64 (sb : Nat), .int .i64 (sc : Nat)], .int .i64 0], by simp [results, Tryd.results20, go_sem, e0, e1, e2, e3, e4, e5], js, ms, HN1.out, HN2.out, h.2, ?_⟩
    rw [Hst.out, Hbt.out, Htp.out, Hcb.out]
  case stop =>
    rintro D c pre W' _ _ h _
    exact h.elim
end Go.Proofs.YtdomcjfgmnpbmaaDoor
