/- The walk of the law LatticeDistributes: it answers true, and writes nothing that was there. -/
import Derived.Test.YtobjgfjikmgdeaaDoorKindOk
import Derived.Test.YtobjgfjikmgdeaaDoorAllThree
import Derived.Test.YtobjgfjikmgdeaaDoorKeepRe
import Derived.Test.YtobjgfjikmgdeaaDoorTurEx
import Derived.Test.YtobjgfjikmgdeaaDoorDualPlain
namespace Go.Proofs.YtobjgfjikmgdeaaDoor
open Go.RowKit Go.Shelf

set_option maxRecDepth 100000 in
set_option maxHeartbeats 1000000 in
theorem distrib_err (n : Int) (a : Option Addr) (len cap : Nat) (c : Int) (hc : c ≠ 0) (x y z : Int) (w : World) (h1 : ∀ W, Below w.heap.size w W → Calls Tryd.prog 9 #[.agg #[.int .i64 n, .slice a len cap]] W fun e w' => e = kindErr c ∧ Below W.heap.size W w') (h2 : ∀ W, Below w.heap.size w W → Calls Tryd.prog 12 #[.agg #[.int .i64 n, .slice a len cap]] W fun e w' => e = .returned (.tuple #[.agg #[.int .i64 n, .slice a len cap, .slice none 0 0, .slice none 0 0, .int .i64 0, .int .i64 0, .bool false], .bool false]) ∧ Below W.heap.size W w') :
    Calls Tryd.prog 5 #[.agg #[.int .i64 n, .slice a len cap], .int .i64 x, .int .i64 y, .int .i64 z] w fun e w' => e = .returned (.bool true) ∧ Below w.heap.size w w' := by
  obtain ⟨r0, hb0, hs0⟩ := one_row w 24 (.int .i64 n) (.slice a len cap) rfl
  have s1 := h1 _ hb0
  unfold kindErr at s1
  have e1 : (c != 0) = true := by rw [bne_iff_ne]; exact hc
  have e2 : (c == 0) = false := by rw [beq_eq_false_iff_ne]; exact hc
  have lt0 := r0.lt
  clear h1 hc
  go_enter Tryd.func5, Tryd.ntmps5
  go_wp2_with (first
    | (go_at_call 9; refine s1.mono ?_; rintro e w1 ⟨rfl, hb1⟩; have q0 := row_below r0 hb1 lt0; have lq0 := q0.lt; have j0 := q0.cell (i := 0) rfl; have j1 := q0.cell (i := 1) rfl; have hB1 : Below w.heap.size w (w1.alloc (.cells #[.bool false, .bool false, .bool false, .int .i64 0, .int .i64 0, .int .i64 0] 26)) := (hb0.trans (hb1.mono (by omega))).alloc (by have := hb1.size; omega) _; have s2 := h2 _ hB1; clear h2 s1)
    | (go_at_call 12; refine s2.mono ?_; rintro e w2 ⟨rfl, hb2⟩))
  go_ret
  exact ⟨rfl, (hB1.trans (hb2.mono hB1.size)).alloc (by have := hb2.size; have := hB1.size; omega) _⟩

set_option maxRecDepth 100000 in
set_option maxHeartbeats 4000000 in
theorem distrib_ok (a : Option Addr) (cap : Nat) (us ds : List Nat) (x y z : Int) (n₀ : Nat) (hf : Fit us) (w : World) (hT : TabAt w) (hw : IsWords n₀ w a us) (hg : 0 < n₀) (hn₀ : n₀ ≤ w.heap.size) (hc : codeOf us.length us = 0) (hD : Tur us us.length [] ds) (hl : latB us ds = true) :
    Calls Tryd.prog 5 #[.agg #[.int .i64 us.length, .slice a us.length cap], .int .i64 x, .int .i64 y, .int .i64 z] w fun e w' => e = .returned (.bool true) ∧ Below w.heap.size w w' := by
  have hord := (code_zero hc).2.2.2.2
  have hl16 : us.length ≤ 16 := by have := code_zero hc; omega
  have hpos : 0 < us.length := Nat.pos_of_ne_zero (latB_parts hl).1
  obtain ⟨r0, hb0, hs0⟩ := one_row w 24 (.int .i64 us.length) (.slice a us.length cap) rfl
  have s1 := Kind_ok a cap us ds n₀ hf _ (hT.below hb0 (by omega)) (hw.below (hb0.mono hn₀)) hg (by omega) hc hD hl
  have hop : ∀ W, Below w.heap.size w W → _ := fun W hW => open_ok us.length a cap us ds n₀ hf W (hT.below hW (by omega)) (hw.below (hW.mono hn₀)) hg (by have := hW.size; omega) hc hD hl
  have hL : ∀ js ms, NearTo us js (us.length * us.length) → NearTo ds ms (us.length * us.length) → Lat us.length (leW us) (at2 js us.length) (at2 ms us.length) (gath (at2 ms us.length) 0 us.length) (gath (at2 js us.length) 0 us.length) := fun js ms h1 h2 => lat_pre hord hD h1 h2 hpos
  have hU1 : ∀ js ks, NearTo us js (us.length * us.length) → NearTo us ks (us.length * us.length) → js = ks := fun js ks h1 h2 => NearTo.unique hord h1 h2
  have hU2 : ∀ js ks, NearTo ds js (us.length * us.length) → NearTo ds ks (us.length * us.length) → js = ks := fun js ks h1 h2 => NearTo.unique (tur_ord hord hD) h1 h2
  have lt0 := r0.lt
  clear hc hl hD
  go_enter Tryd.func5, Tryd.ntmps5
  go_wp2_with fail
  refine s1.mono ?_
  rintro e w1 ⟨js, ms, k1, k2, hb1, rfl⟩
  clear s1
  have K1 := hide k1
  have K2 := hide k2
  have kd := kind_distr js ms us.length
  have km := kind_modul (hL js ms k1 k2)
  clear k1 k2
  generalize kindOf js ms us.length (triA us.length us.length) = st at *
  generalize complTo js ms us.length (gath (at2 ms us.length) 0 us.length) (gath (at2 js us.length) 0 us.length) us.length = cb
  obtain ⟨d, m, sa, sb, sc⟩ := st
  simp only at kd km
  have KD := hide kd
  have KM := hide km
  clear kd km
  have q0 := row_below r0 hb1 lt0
  have lq0 := q0.lt
  have j0 := q0.cell (i := 0) rfl
  have j1 := q0.cell (i := 1) rfl
  have hB1 : Below w.heap.size w (w1.alloc (.cells #[.bool d, .bool m, .bool cb, .int .i64 (sa : Nat), .int .i64 (sb : Nat), .int .i64 (sc : Nat)] 26)) := (hb0.trans (hb1.mono (by omega))).alloc (by have := hb1.size; omega) _
  have s2 := hop _ hB1
  clear hop
  go_wp2_with fail
  refine s2.mono ?_
  rintro e w2 ⟨aj, cj, am, cm, js', ms', rfl, hb2, i3, i4, n1, n2⟩
  clear s2
  obtain rfl := hU1 js js' K1.out n1
  obtain rfl := hU2 ms ms' K2.out n2
  have L := hL js ms n1 n2
  have HL := hide L
  have hlj := n1.len
  have hlm := n2.len
  clear hL L n1 n2 hU1 hU2 K1 K2
  generalize gath (at2 ms us.length) 0 us.length = bt at *
  generalize gath (at2 js us.length) 0 us.length = tp at *
  have hs2 := hb2.size
  have hA1 : Below w1.heap.size w1 (w1.alloc (.cells #[.bool d, .bool m, .bool cb, .int .i64 (sa : Nat), .int .i64 (sb : Nat), .int .i64 (sc : Nat)] 26)) := (Below.refl _ _).alloc (Nat.le_refl _) _
  have rK := Row.new w1 26 [.bool d, .bool m, .bool cb, .int .i64 (sa : Nat), .int .i64 (sb : Nat), .int .i64 (sc : Nat)]
  have lK := rK.lt
  have hA : Below w2.heap.size w2 (w2.alloc (.cells #[.int .i64 us.length, .slice a us.length cap, .slice aj (us.length * us.length) cj, .slice am (us.length * us.length) cm, .int .i64 (bt : Nat), .int .i64 (tp : Nat), .bool false] 38)) := (Below.refl _ _).alloc (Nat.le_refl _) _
  have yK := row_below rK hb2 lK
  have lyK := yK.lt
  have y0 := row_below (row_below q0 hA1 lq0) hb2 (by simp; omega)
  have ly0 := y0.lt
  have kc0 := yK.cell (i := 0) rfl
  have kc1 := yK.cell (i := 1) rfl
  have oc0 := y0.cell (i := 0) rfl
  have oc1 := y0.cell (i := 1) rfl
  have hBV : Below w.heap.size w (w2.alloc (.cells #[.int .i64 us.length, .slice a us.length cap, .slice aj (us.length * us.length) cj, .slice am (us.length * us.length) cm, .int .i64 (bt : Nat), .int .i64 (tp : Nat), .bool false] 38)) := (hB1.trans (hb2.mono hB1.size)).trans (hA.mono (by have := hB1.size; omega))
  cases d with
  | false =>
    go_wp2
    go_ret
    exact ⟨rfl, hBV⟩
  | true =>
    have h2 := kwithin_z us.length (some ⟨w2.heap.size + 1, 0, none⟩) 3 [x, y, z] (w2.heap.size + 1 + 1) (by simp) ((w2.alloc (.cells #[.int .i64 us.length, .slice a us.length cap, .slice aj (us.length * us.length) cj, .slice am (us.length * us.length) cm, .int .i64 (bt : Nat), .int .i64 (tp : Nat), .bool false] 38)).alloc (.cells #[.int .i64 x, .int .i64 y, .int .i64 z] 3)) (by have := zints3 (w2.alloc (.cells #[.int .i64 us.length, .slice a us.length cap, .slice aj (us.length * us.length) cj, .slice am (us.length * us.length) cm, .int .i64 (bt : Nat), .int .i64 (tp : Nat), .bool false] 38)) 3 x y z; rw [World.size_alloc] at this; exact this)
    cases hin : allInB us.length [x, y, z] with
    | false =>
      rw [hin] at h2
      go_wp2_with (go_at_call 16; refine h2.mono ?_; rintro e w3 ⟨rfl, hww⟩; rw [hww]; clear hww w3)
      go_ret
      exact ⟨rfl, hBV.alloc hBV.size _⟩
    | true =>
      rw [hin] at h2
      obtain ⟨g1, g2, g3⟩ := allIn3.1 (allInB_true.1 hin)
      clear hin
      obtain ⟨x, rfl⟩ : ∃ x' : Nat, x = (x' : Int) := ⟨x.toNat, by omega⟩
      obtain ⟨y, rfl⟩ : ∃ x' : Nat, y = (x' : Int) := ⟨y.toNat, by omega⟩
      obtain ⟨z, rfl⟩ : ∃ x' : Nat, z = (x' : Int) := ⟨z.toNat, by omega⟩
      have hx : x < us.length := by omega
      have hy : y < us.length := by omega
      have hz : z < us.length := by omega
      clear g1 g2 g3
      go_wp2_with (go_at_call 16; refine h2.mono ?_; rintro e w3 ⟨rfl, hww⟩; rw [hww]; clear hww w3)
      obtain ⟨V, hV⟩ : ∃ V, V = (w2.alloc (.cells #[.int .i64 us.length, .slice a us.length cap, .slice aj (us.length * us.length) cj, .slice am (us.length * us.length) cm, .int .i64 (bt : Nat), .int .i64 (tp : Nat), .bool false] 38)).alloc (.cells #[.int .i64 x, .int .i64 y, .int .i64 z] 3) := ⟨_, rfl⟩
      rw [← hV]
      obtain ⟨zB, rX, hbB, hsB⟩ := rows_two w2 38 3 [.int .i64 us.length, .slice a us.length cap, .slice aj (us.length * us.length) cj, .slice am (us.length * us.length) cm, .int .i64 (bt : Nat), .int .i64 (tp : Nat), .bool false] [.int .i64 x, .int .i64 y, .int .i64 z] hV.symm
      have zK : Row V w1.heap.size 26 [.bool true, .bool m, .bool cb, .int .i64 (sa : Nat), .int .i64 (sb : Nat), .int .i64 (sc : Nat)] := row_below yK hbB lyK
      have lzB := zB.lt
      have lzK := zK.lt
      have hBV2 : Below w.heap.size w V := (hB1.trans (hb2.mono hB1.size)).trans (hbB.mono (by have := hB1.size; omega))
      have I3 : IsInts V.heap.size V aj js := (i3.below hbB).mono (by omega)
      have I4 : IsInts V.heap.size V am ms := (i4.below hbB).mono (by omega)
      have cor := bor_re us.length a cap aj cj am cm (bt : Nat) (tp : Nat) js V hl16 hlj I3
      have cand := band_re us.length a cap aj cj am cm (bt : Nat) (tp : Nat) ms V hl16 hlm I4
      have L := HL.out
      have hdis := KD.out.1 (by simp)
      have hm : m = true := KM.out.2 (L.distr_modul hdis)
      subst hm
      have g1 := L.distr_turn hdis x hx y hy z hz
      have g2 := fun h1 h2 => L.distr_cancel hdis hx hy hz h1 h2
      obtain ⟨R, eR⟩ : ∃ r, at2 ms us.length y z = r := ⟨_, rfl⟩
      obtain ⟨A, eA⟩ : ∃ r, at2 js us.length x R = r := ⟨_, rfl⟩
      obtain ⟨J1, eJ1⟩ : ∃ r, at2 js us.length x y = r := ⟨_, rfl⟩
      obtain ⟨J2, eJ2⟩ : ∃ r, at2 js us.length x z = r := ⟨_, rfl⟩
      obtain ⟨M1, eM1⟩ : ∃ r, at2 ms us.length x y = r := ⟨_, rfl⟩
      obtain ⟨M2, eM2⟩ : ∃ r, at2 ms us.length x z = r := ⟨_, rfl⟩
      have hR : R < us.length := by rw [← eR]; exact L.mlt hy hz
      have hJ1 : J1 < us.length := by rw [← eJ1]; exact L.jlt hx hy
      have hJ2 : J2 < us.length := by rw [← eJ2]; exact L.jlt hx hz
      rw [eR, eA, eJ1, eJ2] at g1
      rw [eJ1, eJ2, eM1, eM2] at g2
      have G2 := hide g2
      have EJ1 := hide eJ1; have EJ2 := hide eJ2; have EM1 := hide eM1; have EM2 := hide eM2
      have zB1 := zB
      have d0 := cell_regrown (zB1.cell (i := 0) rfl)
      have d1 := cell_regrown (zB1.cell (i := 1) rfl)
      have d2 := cell_regrown (zB1.cell (i := 2) rfl)
      have d3 := cell_regrown (zB1.cell (i := 3) rfl)
      have d4 := cell_regrown (zB1.cell (i := 4) rfl)
      have d5 := cell_regrown (zB1.cell (i := 5) rfl)
      have d6 := cell_regrown (zB1.cell (i := 6) rfl)
      have d7 := cell_regrown (zK.cell (i := 1) rfl)
      have c1 := cand V (Below.refl _ _) y z R hy hz eR
      have c2 := cor V (Below.refl _ _) x R A hx hR eA
      have c3 := cor V (Below.refl _ _) x y J1 hx hy eJ1
      have c4 := cor V (Below.refl _ _) x z J2 hx hz eJ2
      have c5 := cand V (Below.refl _ _) J1 J2 A hJ1 hJ2 g1.symm
      have hne : ((A : Int) != (A : Int)) = false := by simp
      clear L HL KD KM hdis g1 g2 eR eA eJ1 eJ2 eM1 eM2 hV hb1 hb2 hA hA1 i3 i4 hB1 q0 lq0 j0 j1 r0 hb0 hs0 lt0 hs2 rK lK yK lyK y0 ly0 kc0 kc1 oc0 oc1 hBV h2 rX
      go_wp2
      refine wp_region_quiet_below (by kernel_rfl) (by kernel_rfl) ?_
      repeat (go_big_quiet_step (first | with_reducible exact c1 _ _ | with_reducible exact c2 _ _ | with_reducible exact c3 _ _ | with_reducible exact c4 _ _ | with_reducible exact c5 _ _))
      refine wpQuiet_nil ?_
      intro _ hw'
      obtain ⟨⟨dq, osq⟩, hwE⟩ := hw'
      subst hwE
      obtain ⟨W1, hEW⟩ : ∃ X, X = Go.Sort.grow (redrawn V dq) osq := ⟨_, rfl⟩
      have hW1 : Below V.heap.size V W1 := by rw [hEW]; exact below_regrown _ _ _
      rw [← hEW]
      clear hEW d0 d1 d2 d3 d4 d5 d6 d7 c1 c2 c3 c4 c5 zB1 hne
      have zB1 := row_below zB hW1 lzB
      have d0 := cell_regrown (zB1.cell (i := 0) rfl)
      have d1 := cell_regrown (zB1.cell (i := 1) rfl)
      have d2 := cell_regrown (zB1.cell (i := 2) rfl)
      have d3 := cell_regrown (zB1.cell (i := 3) rfl)
      have d4 := cell_regrown (zB1.cell (i := 4) rfl)
      have d5 := cell_regrown (zB1.cell (i := 5) rfl)
      have d6 := cell_regrown (zB1.cell (i := 6) rfl)
      have c1 := cor W1 hW1 x y J1 hx hy EJ1.out
      have c2 := cor W1 hW1 x z J2 hx hz EJ2.out
      have c3 := cand W1 hW1 x y M1 hx hy EM1.out
      have c4 := cand W1 hW1 x z M2 hx hz EM2.out
      have hfin : ∀ dq osq, Below w.heap.size w (Go.Sort.grow (redrawn W1 dq) osq) := fun dq osq => (hBV2.trans (hW1.mono hBV2.size)).trans ((below_regrown _ _ _).mono (by have := hW1.size; have := hBV2.size; omega))
      by_cases h1 : J1 = tp
      · have t1 : ((J1 : Int) == (tp : Int)) = true := by rw [beq_iff_eq]; omega
        by_cases h2 : J2 = tp
        · have t2 : ((J2 : Int) == (tp : Int)) = true := by rw [beq_iff_eq]; omega
          by_cases h3 : M1 = bt
          · have t3 : ((M1 : Int) == (bt : Int)) = true := by rw [beq_iff_eq]; omega
            by_cases h4 : M2 = bt
            · have t4 : ((M2 : Int) == (bt : Int)) = true := by rw [beq_iff_eq]; omega
              have hyz : y = z := G2.out (by rw [h1, h2]) (by rw [h3, h4])
              have tyz : ((y : Int) == (z : Int)) = true := by rw [beq_iff_eq]; omega
              clear h1 h2 h3 h4 hyz
              go_wp2
              refine wp_region_quiet_below (by kernel_rfl) (by kernel_rfl) ?_
              repeat (go_big_quiet_step (first | with_reducible exact c1 _ _ | with_reducible exact c2 _ _ | with_reducible exact c3 _ _ | with_reducible exact c4 _ _))
              refine wpQuiet_nil ?_
              intro _ hw'
              obtain ⟨⟨dq, osq⟩, hwE⟩ := hw'
              subst hwE
              go_wp2
              go_ret
              exact ⟨rfl, hfin _ _⟩
            · have t4 : ((M2 : Int) == (bt : Int)) = false := by rw [beq_eq_false_iff_ne]; omega
              clear h1 h2 h3 h4
              go_wp2
              refine wp_region_quiet_below (by kernel_rfl) (by kernel_rfl) ?_
              repeat (go_big_quiet_step (first | with_reducible exact c1 _ _ | with_reducible exact c2 _ _ | with_reducible exact c3 _ _ | with_reducible exact c4 _ _))
              refine wpQuiet_nil ?_
              intro _ hw'
              obtain ⟨⟨dq, osq⟩, hwE⟩ := hw'
              subst hwE
              go_wp2
              go_ret
              exact ⟨rfl, hfin _ _⟩
          · have t3 : ((M1 : Int) == (bt : Int)) = false := by rw [beq_eq_false_iff_ne]; omega
            clear h1 h2 h3
            go_wp2
            refine wp_region_quiet_below (by kernel_rfl) (by kernel_rfl) ?_
            repeat (go_big_quiet_step (first | with_reducible exact c1 _ _ | with_reducible exact c2 _ _ | with_reducible exact c3 _ _ | with_reducible exact c4 _ _))
            refine wpQuiet_nil ?_
            intro _ hw'
            obtain ⟨⟨dq, osq⟩, hwE⟩ := hw'
            subst hwE
            go_wp2
            go_ret
            exact ⟨rfl, hfin _ _⟩
        · have t2 : ((J2 : Int) == (tp : Int)) = false := by rw [beq_eq_false_iff_ne]; omega
          clear h1 h2
          go_wp2
          refine wp_region_quiet_below (by kernel_rfl) (by kernel_rfl) ?_
          repeat (go_big_quiet_step (first | with_reducible exact c1 _ _ | with_reducible exact c2 _ _ | with_reducible exact c3 _ _ | with_reducible exact c4 _ _))
          refine wpQuiet_nil ?_
          intro _ hw'
          obtain ⟨⟨dq, osq⟩, hwE⟩ := hw'
          subst hwE
          go_wp2
          go_ret
          exact ⟨rfl, hfin _ _⟩
      · have t1 : ((J1 : Int) == (tp : Int)) = false := by rw [beq_eq_false_iff_ne]; omega
        clear h1
        go_wp2
        refine wp_region_quiet_below (by kernel_rfl) (by kernel_rfl) ?_
        repeat (go_big_quiet_step (first | with_reducible exact c1 _ _ | with_reducible exact c2 _ _ | with_reducible exact c3 _ _ | with_reducible exact c4 _ _))
        refine wpQuiet_nil ?_
        intro _ hw'
        obtain ⟨⟨dq, osq⟩, hwE⟩ := hw'
        subst hwE
        go_wp2
        go_ret
        exact ⟨rfl, hfin _ _⟩

/-- **LatticeDistributes answers true, for every order and any three numbers, and writes nothing that was there** -/
theorem distrib_any (n : Int) (a : Option Addr) (cap : Nat) (us : List Nat) (x y z : Int) (n₀ : Nat) (hf : Fit us) (w : World) (hT : TabAt w) (hw : IsWords n₀ w a us) (hg : 0 < n₀) (hn₀ : n₀ ≤ w.heap.size) :
    Calls Tryd.prog 5 #[.agg #[.int .i64 n, .slice a us.length cap], .int .i64 x, .int .i64 y, .int .i64 z] w fun e w' => e = .returned (.bool true) ∧ Below w.heap.size w w' := by
  have hTW : ∀ {W}, Below w.heap.size w W → TabAt W := fun hW => hT.below hW (by omega)
  have hwW : ∀ {W}, Below w.heap.size w W → IsWords n₀ W a us := fun hW => hw.below (hW.mono hn₀)
  have hnW : ∀ {W}, Below w.heap.size w W → n₀ ≤ W.heap.size := fun hW => by have := hW.size; omega
  have hcomp : ∀ {W X}, Below w.heap.size w W → Below W.heap.size W X → Below w.heap.size w X := fun hW hX => hW.trans (hX.mono hW.size)
  by_cases hc : codeOf n us = 0
  · obtain ⟨ds, hD⟩ := tur_ex hf (by have := code_zero hc; omega)
    cases hl : latB us ds with
    | true =>
      have en := (code_zero hc).2.2.1.symm
      subst en
      exact distrib_ok a cap us ds x y z n₀ hf w hT hw hg hn₀ hc hD hl
    | false => exact distrib_err n a us.length cap 5 (by decide) x y z w (fun W hW => Kind_err n a us.length cap 5 (by decide) W fun X hX => TableOf_none n a cap us ds n₀ hf X (hTW (hcomp hW hX)) (hwW (hcomp hW hX)) hg (hnW (hcomp hW hX)) hc hD hl) (fun W hW => open_err n a us.length cap 5 (by decide) W fun X hX _ => Make_none n a cap us ds n₀ hf X (hTW (hcomp hW hX)) (hwW (hcomp hW hX)) hg (hnW (hcomp hW hX)) hc hD hl)
  · exact distrib_err n a us.length cap _ hc x y z w (fun W hW => Kind_err n a us.length cap _ hc W fun X hX => TableOf_bad n a cap us n₀ hf X (hTW (hcomp hW hX)) (hwW (hcomp hW hX)) hg (hnW (hcomp hW hX)) hc) (fun W hW => open_err n a us.length cap _ hc W fun X hX _ => Make_bad n a cap us n₀ hf X (hTW (hcomp hW hX)) (hwW (hcomp hW hX)) hg (hnW (hcomp hW hX)) hc)
end Go.Proofs.YtobjgfjikmgdeaaDoor
