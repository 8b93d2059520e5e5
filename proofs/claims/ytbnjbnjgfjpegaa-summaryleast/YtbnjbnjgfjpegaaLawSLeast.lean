/- The walk of the law SummaryLeast: it answers true, and writes nothing that was there. -/
import Derived.Test.YtbnjbnjgfjpegaaFrontMore
import Derived.Test.YtbnjbnjgfjpegaaSumMany
namespace Go.Proofs.Ytbnjbnjgfjpegaa
open Go.RowKit Go.Shelf

/-- what the walks are told of a list of summaries that came in -/
structure UArg (n₀ : Nat) (W : World) (a : Option Addr) (L : List Su) : Prop where
  lies : OuterU n₀ W a L
  inner : InnerU n₀ W L
  len : L.length ≤ 9223372036854775807
theorem sleq_of (u v : Su) (n₀ : Nat) (h1 : u.z.length ≤ 17592186044416) (h2 : v.z.length ≤ 17592186044416) (b : Bool) (hb : leqM u.sm v.sm = b) (W : World) (hz1 : ZInts n₀ W u.a u.z) (hz2 : ZInts n₀ W v.a v.z) (hn₀ : n₀ ≤ W.heap.size) :
    Calls Try.prog 9 #[u.val, v.val] W fun e w' => e = .returned (.bool b) ∧ Below W.heap.size W w' := by
  subst hb
  exact sleq_any u.k u.d u.a u.cap u.z v.k v.d v.a v.cap v.z n₀ h1 h2 W hz1 hz2 hn₀
theorem sleq_re (u v : Su) (n₀ : Nat) (h1 : u.z.length ≤ 17592186044416) (h2 : v.z.length ≤ 17592186044416) (b : Bool) (hb : leqM u.sm v.sm = b) (W : World) (hz1 : ZInts n₀ W u.a u.z) (hz2 : ZInts n₀ W v.a v.z) (hn₀ : n₀ ≤ W.heap.size) (d : Nat) (os : Array Obj) :
    Calls Try.prog 9 #[u.val, v.val] (Go.Sort.grow (redrawn W d) os) fun e w'' => e = .returned (.bool b) ∧ ∃ p : Regrown, w'' = Go.Sort.grow (redrawn W p.d) p.os := by
  have hB := below_regrown W d os
  exact Calls.regrown_of (sleq_of u v n₀ h1 h2 b hb _ (hz1.below (hB.mono hn₀)) (hz2.below (hB.mono hn₀)) (by have := hB.size; omega))
theorem anyTo_succ {p : Nat → Bool} {k : Nat} : AnyTo p (k + 1) ↔ AnyTo p k ∨ p k = true := by
  constructor
  · rintro ⟨i, hi, h⟩
    by_cases e : i = k
    · subst e; exact .inr h
    · exact .inl ⟨i, by omega, h⟩
  · rintro (⟨i, hi, h⟩ | h)
    · exact ⟨i, by omega, h⟩
    · exact ⟨k, by omega, h⟩
set_option maxRecDepth 100000 in
set_option maxHeartbeats 8000000 in
theorem lsleast_any (a : Option Addr) (cap : Nat) (L : List Su) (n₀ : Nat) (w : World) (hu : UArg n₀ w a L) (hn₀ : n₀ ≤ w.heap.size) :
    Calls Try.prog 4 #[.slice a L.length cap] w fun e w' => e = .returned (.bool true) ∧ Below w.heap.size w w' := by
  have s1 := sFront_any a cap L n₀ hu.len w hu.lies hu.inner hn₀
  obtain ⟨hO, hI, hlen⟩ := hu
  by_cases hc : codeM (sl L) = 0
  · have HC := hide hc
    have hL64 := (codeM_zero hc).1
    rw [sl_len] at hL64
    go_enter Try.func4, Try.ntmps4
    go_wp2_with fail
    with_reducible refine s1.mono ?_
    rintro e w1 ⟨hb1, ⟨hne, -⟩ | ⟨-, av, cv, S, rfl, hOS, hFS, hF⟩⟩
    · exact absurd hc hne
    have hcS := frontM_code hc hF
    have hS64 := (codeM_zero hcS).1
    rw [sl_len] at hS64
    have HF := hide hF
    have s2 := sFront_any av cv S w1.heap.size (by omega) w1 hOS hFS.inner (Nat.le_refl _)
    clear s1 hF hc
    go_wp2_with fail
    with_reducible refine s2.mono ?_
    rintro e w2 ⟨hb2, ⟨hne, -⟩ | ⟨-, ag, cg, G, rfl, hOG, hFG, hG⟩⟩
    · exact absurd hcS hne
    have hs1 := hb1.size
    have hs2 := hb2.size
    have hB2 := hb1.trans (hb2.mono hs1)
    have hOS2 : OuterU w1.heap.size w2 av S := hOS.below hb2
    have hIS2 : InnerU w1.heap.size w2 S := (hFS.inner).below hb2
    have hsame := frontM_same HC.out HF.out hG
    have s3 := rsames_any av cv S ag cg G w2.heap.size (by omega) w2 (hOS2.mono hs2) hOG (fun i hi => ⟨(hIS2 i hi).1.mono hs2, (hIS2 i hi).2⟩) hFG.inner (Nat.le_refl _)
    have HS := hide hsame
    clear s2 hcS hsame hG
    go_wp2_with fail
    with_reducible refine s3.mono ?_
    rintro e w3 ⟨⟨r, rfl, hr⟩, hb3⟩
    obtain rfl : r = true := hr.2 HS.out
    have hB3 := hB2.trans (hb3.mono hB2.size)
    have hs3 := hB3.size
    have hOS3 : OuterU w1.heap.size w3 av S := hOS2.below (hb3.mono hs2)
    have hIS3 : InnerU w1.heap.size w3 S := hIS2.below (hb3.mono hs2)
    have hs13 : w1.heap.size ≤ w3.heap.size := by have := hb3.size; omega
    have hO3 := hO.below (hB3.mono hn₀)
    have hI3 := hI.below (hB3.mono hn₀)
    clear s3 hr hOG hFG hOS2 hIS2 hOS hFS hb1 hb2 hb3 hO hI
    go_wp2_with fail
    go_loopw [38] (fun i wr => ∃ k : Nat, k ≤ L.length ∧ i = .int .i64 k ∧ Below w3.heap.size w3 wr) (fun i _ => L.length - (intOf i).toNat)
    case atStart => exact ⟨0, Nat.zero_le _, rfl, Below.refl _ _⟩
    case round =>
      obtain ⟨k, hk, rfl, hB⟩ := hrel
      have hsB := hB.size
      by_cases hlt : k < L.length
      · obtain ⟨bo, off, rfl, hb, hcc⟩ := (hO3.below (hB.mono (by omega))).at hlt
        obtain ⟨ck, dk, fk⟩ := hcc k hlt
        obtain ⟨iz, il, _⟩ := hI3 k hlt
        have HV := hide (frontM_cov HC.out HF.out hlt)
        obtain ⟨sk, ek⟩ : ∃ sk, nthU L k = sk := ⟨_, rfl⟩
        rw [ek] at ck dk fk iz il HV
        clear hcc ek
        have hbo : bo < wr.heap.size := by omega
        obtain ⟨w4, hw4⟩ : ∃ V, wr.alloc (.cells #[.int .i64 sk.k, .int .i64 sk.d, .slice sk.a sk.z.length sk.cap] 32) = V := ⟨_, rfl⟩
        have hb4 : Below wr.heap.size wr w4 := hw4 ▸ (Below.refl _ _).alloc (Nat.le_refl _) _
        have r4 : Row w4 wr.heap.size 32 [.int .i64 sk.k, .int .i64 sk.d, .slice sk.a sk.z.length sk.cap] := by subst hw4; exact Row.new wr _ [.int .i64 sk.k, .int .i64 sk.d, .slice sk.a sk.z.length sk.cap]
        have lt4 := r4.lt
        have hs4 := hb4.size
        have HW4 := hide hw4
        go_wp2_with fail
        go_loopw [44, 8] (fun i b V => ∃ (q : Nat) (x : Bool), q ≤ S.length ∧ i = .int .i64 q ∧ b = .bool x ∧ Below w4.heap.size w4 V ∧ Hid (x = true ↔ AnyTo (fun j => leqM (nthU S j).sm sk.sm) q)) (fun i _ _ => S.length - (intOf i).toNat)
        case atStart => exact ⟨0, false, Nat.zero_le _, rfl, rfl, Below.refl _ _, hide ⟨(fun h => nomatch h), fun ⟨i, hi, _⟩ => by omega⟩⟩
        case round =>
          obtain ⟨q, x, hq, rfl, rfl, hV, HX⟩ := hrel
          have hsV := hV.size
          by_cases hqs : q < S.length
          · have hW : Below w3.heap.size w3 wr := (hB.trans (hb4.mono hsB)).trans (hV.mono (by omega))
            obtain ⟨bS, oS, rfl, hbS, hcS⟩ := (hOS3.below (hW.mono hs13)).at hqs
            obtain ⟨cS, dS, fS⟩ := hcS q hqs
            obtain ⟨zS, lS, _⟩ := hIS3 q hqs
            have HA := hide (anyTo_succ (p := fun j => leqM (nthU S j).sm sk.sm) (k := q))
            have hleq := sleq_of (nthU S q) sk w3.heap.size lS il (leqM (nthU S q).sm sk.sm) rfl
            obtain ⟨u, eu⟩ : ∃ u, nthU S q = u := ⟨_, rfl⟩
            obtain ⟨y, ey⟩ : ∃ y, leqM (nthU S q).sm sk.sm = y := ⟨_, rfl⟩
            have HY := hide ey
            rw [ey] at hleq
            rw [eu] at cS dS fS zS hleq
            clear hcS eu ey lS
            have hbS2 : bS < wr.heap.size := by have := hW.size; omega
            obtain ⟨w5, hw5⟩ : ∃ V', wr.alloc (.cells #[.int .i64 u.k, .int .i64 u.d, .slice u.a u.z.length u.cap] 32) = V' := ⟨_, rfl⟩
            have hb5 : Below wr.heap.size wr w5 := hw5 ▸ (Below.refl _ _).alloc (Nat.le_refl _) _
            have r5 : Row w5 wr.heap.size 32 [.int .i64 u.k, .int .i64 u.d, .slice u.a u.z.length u.cap] := by subst hw5; exact Row.new wr _ [.int .i64 u.k, .int .i64 u.d, .slice u.a u.z.length u.cap]
            have hs5 := hb5.size
            have hW5 := hW.trans (hb5.mono (by omega))
            have r45 := row_below (row_below r4 hV lt4) hb5 (by omega)
            have m0 := r5.cell (i := 0) rfl
            have m1 := r5.cell (i := 1) rfl
            have m2 := r5.cell (i := 2) rfl
            have n0 := r45.cell (i := 0) rfl
            have n1 := r45.cell (i := 1) rfl
            have n2 := r45.cell (i := 2) rfl
            have lm := r5.lt
            have ln := r45.lt
            have hcall := hleq w5 ((zS.mono hs13).below hW5) ((iz.mono (by omega)).below hW5) hW5.size
            unfold Su.val at hcall
            have HW5 := hide hw5
            clear hleq r45 r5
            cases x with
            | true =>
              have hX2 : Hid (true = true ↔ AnyTo (fun j => leqM (nthU S j).sm sk.sm) (q + 1)) := hide ⟨fun _ => HA.out.2 (.inl (HX.out.1 rfl)), fun _ => rfl⟩
              clear hcall
              go_wp2_with fail
              exact ⟨⟨q + 1, true, by omega, by go_num, rfl, hV.trans (hb5.mono (by omega)), hX2⟩, by simp [intOf]; omega⟩
            | false =>
              have hX2 : Hid (y = true ↔ AnyTo (fun j => leqM (nthU S j).sm sk.sm) (q + 1)) := hide (by
                rw [HA.out, ← HY.out]
                exact ⟨.inr, fun h => h.elim (fun h => absurd (HX.out.2 h) (by simp)) id⟩)
              go_wp2_with fail
              with_reducible refine hcall.mono ?_
              rintro e w6 ⟨rfl, hb6⟩
              go_wp2_with fail
              exact ⟨⟨q + 1, y, by omega, by go_num, rfl, (hV.trans (hb5.mono (by omega))).trans (hb6.mono (by omega)), hX2⟩, by simp [intOf]; omega⟩
          · obtain rfl : q = S.length := by omega
            have hx : x = true := HX.out.2 HV.out
            subst hx
            go_wp2_with fail
            exact ⟨⟨k + 1, by omega, by go_num, (hB.trans (hb4.mono hsB)).trans (hV.mono (by omega))⟩, by simp [intOf]; omega⟩
      · clear hO3 hI3
        go_wp2_with fail
        go_loopw [11] (fun i V => ∃ k : Nat, k ≤ S.length ∧ i = .int .i64 k ∧ Below w3.heap.size w3 V) (fun i _ => S.length - (intOf i).toNat)
        case atStart => exact ⟨0, Nat.zero_le _, rfl, hB⟩
        case round =>
          clear hB hsB
          obtain ⟨i, hi, rfl, hB⟩ := hrel
          by_cases hlt : i < S.length
          · go_wp2_with fail
            go_loopw [12] (fun j V => ∃ k : Nat, k ≤ S.length ∧ j = .int .i64 k ∧ Below w3.heap.size w3 V) (fun j _ => S.length - (intOf j).toNat)
            case atStart => exact ⟨0, Nat.zero_le _, rfl, hB⟩
            case round =>
              clear hB
              obtain ⟨j, hj, rfl, hB⟩ := hrel
              have hsB := hB.size
              by_cases hjl : j < S.length
              · by_cases hij : i = j
                · have g0 : ((i : Int) != (j : Int)) = false := by rw [bne_eq_false_iff_eq]; omega
                  clear hij
                  go_wp2_with fail
                  refine wp_region_quiet_below (by kernel_rfl) (by kernel_rfl) ?_
                  repeat (go_big_quiet_step (fail))
                  refine wpQuiet_nil ?_
                  intro _ hw'
                  obtain ⟨⟨dq, osq⟩, hw''⟩ := hw'
                  subst hw''
                  have hbk := hB.trans ((below_regrown _ dq osq).mono hB.size)
                  go_wp2_with fail
                  exact ⟨⟨j + 1, by omega, by go_num, hbk⟩, by simp [intOf]; omega⟩
                · have g0 : ((i : Int) != (j : Int)) = true := by rw [bne_iff_ne]; omega
                  have hap := frontM_apart HC.out HF.out hlt hjl hij
                  obtain ⟨bS, oS, rfl, hbS, hcS⟩ := (hOS3.below (hB.mono hs13)).at hlt
                  obtain ⟨x0, x1, x2⟩ := hcS i hlt
                  obtain ⟨y0, y1, y2⟩ := hcS j hjl
                  obtain ⟨zA, lA, _⟩ := hIS3 i hlt
                  obtain ⟨zB, lB, _⟩ := hIS3 j hjl
                  have hcall := fun d os => sleq_re (nthU S i) (nthU S j) w3.heap.size lA lB false hap wr ((zA.mono hs13).below hB) ((zB.mono hs13).below hB) hB.size d os
                  unfold Su.val at hcall
                  obtain ⟨u, eu⟩ : ∃ u, nthU S i = u := ⟨_, rfl⟩
                  obtain ⟨v, ev⟩ : ∃ u, nthU S j = u := ⟨_, rfl⟩
                  rw [eu] at x0 x1 x2
                  rw [ev] at y0 y1 y2
                  rw [eu, ev] at hcall
                  have X0 := cell_regrown x0
                  have X1 := cell_regrown x1
                  have X2 := cell_regrown x2
                  have Y0 := cell_regrown y0
                  have Y1 := cell_regrown y1
                  have Y2 := cell_regrown y2
                  clear hij hap hcS eu ev zA zB x0 x1 x2 y0 y1 y2
                  go_wp2_with fail
                  refine wp_region_quiet_below (by kernel_rfl) (by kernel_rfl) ?_
                  repeat (go_big_quiet_step (with_reducible exact hcall _ _))
                  refine wpQuiet_nil ?_
                  intro _ hw'
                  obtain ⟨⟨dq, osq⟩, hw''⟩ := hw'
                  subst hw''
                  have hbk := hB.trans ((below_regrown _ dq osq).mono hB.size)
                  clear hcall X0 X1 X2 Y0 Y1 Y2
                  go_wp2_with fail
                  exact ⟨⟨j + 1, by omega, by go_num, hbk⟩, by simp [intOf]; omega⟩
              · obtain rfl : j = S.length := by omega
                go_wp2_with fail
                exact ⟨⟨i + 1, by omega, by go_num, hB⟩, by simp [intOf]; omega⟩
          · obtain rfl : i = S.length := by omega
            have hBe := hB3.trans (hB.mono hs3)
            go_wp2_with fail
            go_ret
            exact ⟨rfl, hBe⟩
  · have HC := hide hc
    have e1 : (codeM (sl L) != 0) = true := by rw [bne_iff_ne]; exact hc
    clear hc
    go_enter Try.func4, Try.ntmps4
    go_wp2_with fail
    with_reducible refine s1.mono ?_
    rintro e w1 ⟨hb1, ⟨_, rfl⟩ | ⟨h0, _⟩⟩
    · generalize codeM (sl L) = c at *
      go_wp2_with fail
      go_ret
      exact ⟨rfl, hb1⟩
    · exact absurd h0 HC.out
end Go.Proofs.Ytbnjbnjgfjpegaa
