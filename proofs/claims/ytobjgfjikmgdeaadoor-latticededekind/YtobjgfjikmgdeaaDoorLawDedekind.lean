/- The walk of the law LatticeDedekind: it answers true, and writes nothing that was there. -/
import Derived.Test.YtobjgfjikmgdeaaDoorKindOk
import Derived.Test.YtobjgfjikmgdeaaDoorAllThree
import Derived.Test.YtobjgfjikmgdeaaDoorKeepRe
import Derived.Test.YtobjgfjikmgdeaaDoorTurEx
import Derived.Test.YtobjgfjikmgdeaaDoorDualPlain
import Derived.Test.YtobjgfjikmgdeaaDoorKeepUnder
namespace Go.Proofs.YtobjgfjikmgdeaaDoor
open Go.RowKit Go.Shelf

set_option maxRecDepth 100000 in
set_option maxHeartbeats 1000000 in
theorem dedekind_err (n : Int) (a : Option Addr) (len cap : Nat) (c : Int) (hc : c ≠ 0) (w : World) (h1 : ∀ W, Below w.heap.size w W → Calls Tryd.prog 9 #[.agg #[.int .i64 n, .slice a len cap]] W fun e w' => e = kindErr c ∧ Below W.heap.size W w') (h2 : ∀ W, Below w.heap.size w W → Calls Tryd.prog 12 #[.agg #[.int .i64 n, .slice a len cap]] W fun e w' => e = .returned (.tuple #[.agg #[.int .i64 n, .slice a len cap, .slice none 0 0, .slice none 0 0, .int .i64 0, .int .i64 0, .bool false], .bool false]) ∧ Below W.heap.size W w') :
    Calls Tryd.prog 7 #[.agg #[.int .i64 n, .slice a len cap]] w fun e w' => e = .returned (.bool true) ∧ Below w.heap.size w w' := by
  obtain ⟨r0, hb0, hs0⟩ := one_row w 24 (.int .i64 n) (.slice a len cap) rfl
  have s1 := h1 _ hb0
  unfold kindErr at s1
  have e1 : (c != 0) = true := by rw [bne_iff_ne]; exact hc
  have e2 : (c == 0) = false := by rw [beq_eq_false_iff_ne]; exact hc
  have lt0 := r0.lt
  clear h1 hc
  go_enter Tryd.func7, Tryd.ntmps7
  go_wp2_with (first
    | (go_at_call 9; refine s1.mono ?_; rintro e w1 ⟨rfl, hb1⟩; have q0 := row_below r0 hb1 lt0; have lq0 := q0.lt; have j0 := q0.cell (i := 0) rfl; have j1 := q0.cell (i := 1) rfl; have hB1 : Below w.heap.size w (w1.alloc (.cells #[.bool false, .bool false, .bool false, .int .i64 0, .int .i64 0, .int .i64 0] 26)) := (hb0.trans (hb1.mono (by omega))).alloc (by have := hb1.size; omega) _; have s2 := h2 _ hB1; clear h2 s1)
    | (go_at_call 12; refine s2.mono ?_; rintro e w2 ⟨rfl, hb2⟩))
  go_ret
  exact ⟨rfl, (hB1.trans (hb2.mono hB1.size)).alloc (by have := hb2.size; have := hB1.size; omega) _⟩

set_option maxRecDepth 100000 in
set_option maxHeartbeats 4000000 in
theorem dedekind_ok (a : Option Addr) (cap : Nat) (us ds : List Nat) (n₀ : Nat) (hf : Fit us) (w : World) (hT : TabAt w) (hw : IsWords n₀ w a us) (hg : 0 < n₀) (hn₀ : n₀ ≤ w.heap.size) (hc : codeOf us.length us = 0) (hD : Tur us us.length [] ds) (hl : latB us ds = true) :
    Calls Tryd.prog 7 #[.agg #[.int .i64 us.length, .slice a us.length cap]] w fun e w' => e = .returned (.bool true) ∧ Below w.heap.size w w' := by
  have hord := (code_zero hc).2.2.2.2
  have hl16 : us.length ≤ 16 := by have := code_zero hc; omega
  have hpos : 0 < us.length := Nat.pos_of_ne_zero (latB_parts hl).1
  obtain ⟨r0, hb0, hs0⟩ := one_row w 24 (.int .i64 us.length) (.slice a us.length cap) rfl
  have s1 := Kind_ok a cap us ds n₀ hf _ (hT.below hb0 (by omega)) (hw.below (hb0.mono hn₀)) hg (by omega) hc hD hl
  have hop : ∀ W, Below w.heap.size w W → _ := fun W hW => open_ok us.length a cap us ds n₀ hf W (hT.below hW (by omega)) (hw.below (hW.mono hn₀)) hg (by have := hW.size; omega) hc hD hl
  have hL : ∀ js ms, NearTo us js (us.length * us.length) → NearTo ds ms (us.length * us.length) → Lat us.length (leW us) (at2 js us.length) (at2 ms us.length) (gath (at2 ms us.length) 0 us.length) (gath (at2 js us.length) 0 us.length) := fun js ms h1 h2 => lat_pre hord hD h1 h2 hpos
  have hU1 : ∀ js ks, NearTo us js (us.length * us.length) → NearTo us ks (us.length * us.length) → js = ks := fun js ks h1 h2 => NearTo.unique hord h1 h2
  have hU2 : ∀ js ks, NearTo ds js (us.length * us.length) → NearTo ds ks (us.length * us.length) → js = ks := fun js ks h1 h2 => NearTo.unique (tur_ord hord hD) h1 h2
  have lt0 := r0.lt
  clear hc hl hD
  go_enter Tryd.func7, Tryd.ntmps7
  go_wp2_with (first
    | (go_at_call 9; refine s1.mono ?_; rintro e w1 ⟨js, ms, k1, k2, hb1, rfl⟩; clear s1; have K1 := hide k1; have K2 := hide k2; clear k1 k2; generalize hst : kindOf js ms us.length (triA us.length us.length) = st; have HST := hide hst; clear hst; generalize complTo js ms us.length (gath (at2 ms us.length) 0 us.length) (gath (at2 js us.length) 0 us.length) us.length = cb; have q0 := row_below r0 hb1 lt0; have lq0 := q0.lt; have j0 := q0.cell (i := 0) rfl; have j1 := q0.cell (i := 1) rfl; have hB1 : Below w.heap.size w (w1.alloc (.cells #[.bool st.d, .bool st.m, .bool cb, .int .i64 (st.a : Nat), .int .i64 (st.b : Nat), .int .i64 (st.c : Nat)] 26)) := (hb0.trans (hb1.mono (by omega))).alloc (by have := hb1.size; omega) _; have s2 := hop _ hB1; clear hop)
    | (go_at_call 12; refine s2.mono ?_; rintro e w2 ⟨aj, cj, am, cm, js', ms', rfl, hb2, i3, i4, n1, n2⟩; clear s2; obtain rfl := hU1 js js' K1.out n1; obtain rfl := hU2 ms ms' K2.out n2; have L := hL js ms n1 n2; have HL := hide L; have hlj := n1.len; have hlm := n2.len; clear hL L n1 n2 hU1 hU2 K1 K2; generalize gath (at2 ms us.length) 0 us.length = bt at *; generalize gath (at2 js us.length) 0 us.length = tp at *))
  obtain ⟨V, hV⟩ : ∃ V, V = w2.alloc (.cells #[.int .i64 us.length, .slice a us.length cap, .slice aj (us.length * us.length) cj, .slice am (us.length * us.length) cm, .int .i64 (bt : Nat), .int .i64 (tp : Nat), .bool false] 38) := ⟨_, rfl⟩
  rw [← hV]
  have hA : Below w2.heap.size w2 V := by rw [hV]; exact (Below.refl _ _).alloc (Nat.le_refl _) _
  have zB : Row V w2.heap.size 38 [.int .i64 us.length, .slice a us.length cap, .slice aj (us.length * us.length) cj, .slice am (us.length * us.length) cm, .int .i64 (bt : Nat), .int .i64 (tp : Nat), .bool false] := by rw [hV]; exact Row.new w2 _ _
  have hs2 := hb2.size
  have hA1 : Below w1.heap.size w1 (w1.alloc (.cells #[.bool st.d, .bool st.m, .bool cb, .int .i64 (st.a : Nat), .int .i64 (st.b : Nat), .int .i64 (st.c : Nat)] 26)) := (Below.refl _ _).alloc (Nat.le_refl _) _
  have rK := Row.new w1 26 [.bool st.d, .bool st.m, .bool cb, .int .i64 (st.a : Nat), .int .i64 (st.b : Nat), .int .i64 (st.c : Nat)]
  have lK := rK.lt
  have zK : Row V w1.heap.size 26 [.bool st.d, .bool st.m, .bool cb, .int .i64 (st.a : Nat), .int .i64 (st.b : Nat), .int .i64 (st.c : Nat)] := row_below (row_below rK hb2 lK) hA (by omega)
  have z0 : Row V w.heap.size 24 [.int .i64 us.length, .slice a us.length cap] := row_below (row_below (row_below q0 hA1 lq0) hb2 (by simp; omega)) hA (by simp at hs2; omega)
  have hsV := hA.size
  have lz0 := z0.lt
  have lzB := zB.lt
  have lzK := zK.lt
  have hBV : Below w.heap.size w V := (hB1.trans (hb2.mono hB1.size)).trans (hA.mono (by have := hB1.size; omega))
  have hwV : IsWords n₀ V a us := hw.below (hBV.mono hn₀)
  have hnV : n₀ ≤ V.heap.size := by have := hBV.size; omega
  have I3 : IsInts V.heap.size V aj js := (i3.below hA).mono hsV
  have I4 : IsInts V.heap.size V am ms := (i4.below hA).mono hsV
  have cor := bor_re us.length a cap aj cj am cm (bt : Nat) (tp : Nat) js V hl16 hlj I3
  have cand := band_re us.length a cap aj cj am cm (bt : Nat) (tp : Nat) ms V hl16 hlm I4
  have L := HL.out
  have hj : ∀ {x y}, x < us.length → y < us.length → at2 js us.length x y < us.length := fun hx hy => L.jlt hx hy
  have hm : ∀ {x y}, x < us.length → y < us.length → at2 ms us.length x y < us.length := fun hx hy => L.mlt hx hy
  have HE := hide (pent_end us js ms us.length L)
  rw [HST.out] at HE
  clear L HL HST hV hb1 hb2 hA hA1 i3 i4 hB1 q0 lq0 j0 j1 r0 hb0 hs0 lt0 hs2 rK lK
  generalize hP : pentB js ms us.length = P at *
  have HP := hide hP
  clear hP
  go_loopw [7, 8] (fun f i wr => ∃ x : Nat, x ≤ us.length ∧ i = .int .i64 x ∧ f = .bool (flag3 P (pentLim us us.length) us.length x 0 0) ∧ Below V.heap.size V wr) (fun _ i _ => us.length - (intOf i).toNat)
  case atStart => exact ⟨0, Nat.zero_le _, rfl, rfl, Below.refl _ _⟩
  case round =>
    obtain ⟨x, hx', rfl, rfl, hbr⟩ := hrel
    have c00 := (row_below z0 hbr lz0).cell (i := 0) rfl
    by_cases hx : x < us.length
    · go_wp2
      go_loopw [7, 9] (fun f i wr => ∃ y : Nat, y ≤ us.length ∧ i = .int .i64 y ∧ f = .bool (flag3 P (pentLim us us.length) us.length x y 0) ∧ Below V.heap.size V wr) (fun _ i _ => us.length - (intOf i).toNat)
      case atStart => exact ⟨0, Nat.zero_le _, rfl, rfl, hbr⟩
      case round =>
        clear hbr c00
        obtain ⟨y, hy', rfl, rfl, hbr⟩ := hrel
        have c00 := (row_below z0 hbr lz0).cell (i := 0) rfl
        by_cases hy : y < us.length
        · go_wp2
          go_loopw [7, 10] (fun f i wr => ∃ z : Nat, z ≤ pentLim us us.length x y ∧ i = .int .i64 z ∧ f = .bool (flag3 P (pentLim us us.length) us.length x y z) ∧ Below V.heap.size V wr) (fun _ i _ => pentLim us us.length x y - (intOf i).toNat)
          case atStart => exact ⟨0, Nat.zero_le _, rfl, rfl, hbr⟩
          case round =>
            clear hbr c00
            obtain ⟨z, hz', rfl, rfl, hbr⟩ := hrel
            have c00 := (row_below z0 hbr lz0).cell (i := 0) rfl
            have c01 := (row_below z0 hbr lz0).cell (i := 1) rfl
            have hun := kunder_any us.length a cap us x y n₀ hf hx (by omega) wr (hwV.below (hbr.mono hnV)) (by have := hbr.size; omega)
            cases hu : underB us x y with
            | false =>
              have hlim : pentLim us us.length x y = 0 := by unfold pentLim; rw [hu]; rfl
              rw [hlim] at hz'
              obtain rfl : z = 0 := by omega
              rw [hu] at hun
              have HY := hide (flag3_y P (pentLim us us.length) us.length x y)
              rw [hlim] at HY
              clear hu hlim hz'
              go_wp2_with (go_at_call 19; refine hun.mono ?_; rintro e w3 ⟨rfl, hb3⟩)
              exact ⟨⟨y + 1, by omega, by go_num, by rw [HY.out], hbr.trans (hb3.mono hbr.size)⟩, by simp [intOf]; omega⟩
            | true =>
              have hlim : pentLim us us.length x y = us.length := by unfold pentLim; rw [hu]; rfl
              rw [hlim] at hz'
              rw [hu] at hun
              have HLim := hide hlim
              clear hu hlim
              by_cases hz : z < us.length
              · obtain ⟨p1, e1⟩ : ∃ r, at2 js us.length x z = r := ⟨_, rfl⟩
                obtain ⟨p2, e2⟩ : ∃ r, at2 js us.length y z = r := ⟨_, rfl⟩
                obtain ⟨q1, f1⟩ : ∃ r, at2 ms us.length x z = r := ⟨_, rfl⟩
                obtain ⟨q2, f2⟩ : ∃ r, at2 ms us.length y z = r := ⟨_, rfl⟩
                have hPx : P x y z = !(decide (p1 = p2) && decide (q1 = q2)) := by rw [← HP.out]; unfold pentB; rw [e1, e2, f1, f2]
                have HPx := hide hPx
                have HZ := hide (flag3_z P (pentLim us us.length) us.length x y z)
                have E1 := hide e1; have E2 := hide e2; have F1 := hide f1; have F2 := hide f2
                clear e1 e2 f1 f2 hPx
                go_wp2_with (go_at_call 19; refine hun.mono ?_; rintro e w3 ⟨rfl, hb3'⟩)
                have hb3 : Below V.heap.size V w3 := hbr.trans (hb3'.mono hbr.size)
                have zB1 := row_below zB hb3 lzB
                have d0 := cell_regrown (zB1.cell (i := 0) rfl)
                have d1 := cell_regrown (zB1.cell (i := 1) rfl)
                have d2 := cell_regrown (zB1.cell (i := 2) rfl)
                have d3 := cell_regrown (zB1.cell (i := 3) rfl)
                have d4 := cell_regrown (zB1.cell (i := 4) rfl)
                have d5 := cell_regrown (zB1.cell (i := 5) rfl)
                have d6 := cell_regrown (zB1.cell (i := 6) rfl)
                have c1 := cor w3 hb3 x z p1 hx hz E1.out
                have c2 := cor w3 hb3 y z p2 hy hz E2.out
                have c3 := cand w3 hb3 x z q1 hx hz F1.out
                have c4 := cand w3 hb3 y z q2 hy hz F2.out
                clear c00 c01 hun
                by_cases hp : p1 = p2
                · have h1 : ((p1 : Int) == (p2 : Int)) = true := by rw [beq_iff_eq]; omega
                  by_cases hq : q1 = q2
                  · have h2 : ((q1 : Int) == (q2 : Int)) = true := by rw [beq_iff_eq]; omega
                    have HT : Hid (P x y z = false) := by rw [HPx.out, decide_eq_true hp, decide_eq_true hq]; rfl
                    clear hp hq
                    refine wp_region_quiet_below (by kernel_rfl) (by kernel_rfl) ?_
                    repeat (go_big_quiet_step (first | with_reducible exact c1 _ _ | with_reducible exact c2 _ _ | with_reducible exact c3 _ _ | with_reducible exact c4 _ _))
                    refine wpQuiet_nil ?_
                    intro _ hw'
                    obtain ⟨⟨dq, osq⟩, hwE⟩ := hw'
                    subst hwE
                    go_wp2
                    exact ⟨⟨z + 1, by rw [HLim.out]; omega, by go_num, by rw [HZ.out, HT.out, Bool.and_false], hb3.trans ((below_regrown _ _ _).mono hb3.size)⟩, by rw [HLim.out]; simp [intOf]; omega⟩
                  · have h2 : ((q1 : Int) == (q2 : Int)) = false := by rw [beq_eq_false_iff_ne]; omega
                    have HT : Hid (P x y z = true) := by rw [HPx.out, decide_eq_true hp, decide_eq_false hq]; rfl
                    clear hp hq
                    refine wp_region_quiet_below (by kernel_rfl) (by kernel_rfl) ?_
                    repeat (go_big_quiet_step (first | with_reducible exact c1 _ _ | with_reducible exact c2 _ _ | with_reducible exact c3 _ _ | with_reducible exact c4 _ _))
                    refine wpQuiet_nil ?_
                    intro _ hw'
                    obtain ⟨⟨dq, osq⟩, hwE⟩ := hw'
                    subst hwE
                    go_wp2
                    exact ⟨⟨z + 1, by rw [HLim.out]; omega, by go_num, by rw [HZ.out, HT.out, Bool.and_true], hb3.trans ((below_regrown _ _ _).mono hb3.size)⟩, by rw [HLim.out]; simp [intOf]; omega⟩
                · have h1 : ((p1 : Int) == (p2 : Int)) = false := by rw [beq_eq_false_iff_ne]; omega
                  have HT : Hid (P x y z = true) := by rw [HPx.out, decide_eq_false hp]; rfl
                  clear hp
                  refine wp_region_quiet_below (by kernel_rfl) (by kernel_rfl) ?_
                  repeat (go_big_quiet_step (first | with_reducible exact c1 _ _ | with_reducible exact c2 _ _))
                  refine wpQuiet_nil ?_
                  intro _ hw'
                  obtain ⟨⟨dq, osq⟩, hwE⟩ := hw'
                  subst hwE
                  go_wp2
                  exact ⟨⟨z + 1, by rw [HLim.out]; omega, by go_num, by rw [HZ.out, HT.out, Bool.and_true], hb3.trans ((below_regrown _ _ _).mono hb3.size)⟩, by rw [HLim.out]; simp [intOf]; omega⟩
              · obtain rfl : z = us.length := by omega
                have HY := hide (flag3_y P (pentLim us us.length) us.length x y)
                rw [HLim.out] at HY
                go_wp2
                exact ⟨⟨y + 1, by omega, by go_num, by rw [HY.out], hbr⟩, by simp [intOf]; omega⟩
        · obtain rfl : y = us.length := by omega
          have HX := hide (flag3_x P (pentLim us us.length) us.length x)
          go_wp2
          exact ⟨⟨x + 1, by omega, by go_num, by rw [HX.out], hbr⟩, by simp [intOf]; omega⟩
    · obtain rfl : x = us.length := by omega
      have k1 := (row_below zK hbr lzK).cell (i := 1) rfl
      have he : (st.m == flag3 P (pentLim us us.length) us.length us.length 0 0) = true := by rw [HE.out]; simp
      have HQ := hide he
      clear he
      go_wp2
      go_ret
      exact ⟨ret_bool (by rw [HQ.out]), hBV.trans (hbr.mono hBV.size)⟩

/-- **LatticeDedekind answers true, for every order, and writes nothing that was there** -/
theorem dedekind_any (n : Int) (a : Option Addr) (cap : Nat) (us : List Nat) (n₀ : Nat) (hf : Fit us) (w : World) (hT : TabAt w) (hw : IsWords n₀ w a us) (hg : 0 < n₀) (hn₀ : n₀ ≤ w.heap.size) :
    Calls Tryd.prog 7 #[.agg #[.int .i64 n, .slice a us.length cap]] w fun e w' => e = .returned (.bool true) ∧ Below w.heap.size w w' := by
  have hTW : ∀ {W}, Below w.heap.size w W → TabAt W := fun hW => hT.below hW (by omega)
  have hwW : ∀ {W}, Below w.heap.size w W → IsWords n₀ W a us := fun hW => hw.below (hW.mono hn₀)
  have hnW : ∀ {W}, Below w.heap.size w W → n₀ ≤ W.heap.size := fun hW => by have := hW.size; omega
  have hcomp : ∀ {W X}, Below w.heap.size w W → Below W.heap.size W X → Below w.heap.size w X := fun hW hX => hW.trans (hX.mono hW.size)
  by_cases hc : codeOf n us = 0
  · obtain ⟨ds, hD⟩ := tur_ex hf (by have := code_zero hc; omega)
    cases hl : latB us ds with
    | true =>
      have en := (code_zero hc).2.2.1.symm
      subst en
      exact dedekind_ok a cap us ds n₀ hf w hT hw hg hn₀ hc hD hl
    | false => exact dedekind_err n a us.length cap 5 (by decide) w (fun W hW => Kind_err n a us.length cap 5 (by decide) W fun X hX => TableOf_none n a cap us ds n₀ hf X (hTW (hcomp hW hX)) (hwW (hcomp hW hX)) hg (hnW (hcomp hW hX)) hc hD hl) (fun W hW => open_err n a us.length cap 5 (by decide) W fun X hX _ => Make_none n a cap us ds n₀ hf X (hTW (hcomp hW hX)) (hwW (hcomp hW hX)) hg (hnW (hcomp hW hX)) hc hD hl)
  · exact dedekind_err n a us.length cap _ hc w (fun W hW => Kind_err n a us.length cap _ hc W fun X hX => TableOf_bad n a cap us n₀ hf X (hTW (hcomp hW hX)) (hwW (hcomp hW hX)) hg (hnW (hcomp hW hX)) hc) (fun W hW => open_err n a us.length cap _ hc W fun X hX _ => Make_bad n a cap us n₀ hf X (hTW (hcomp hW hX)) (hwW (hcomp hW hX)) hg (hnW (hcomp hW hX)) hc)
end Go.Proofs.YtobjgfjikmgdeaaDoor
