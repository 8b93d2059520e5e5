/- The walk of the law DownsBirkhoff: it answers true, and writes nothing that was there. -/
import Derived.Test.YtdomcjfgmnpbmaaDoorPart14
import Derived.Test.YtdomcjfgmnpbmaaDoorPart18
import Derived.Test.YtdomcjfgmnpbmaaDoorPart26
import Derived.Test.YtdomcjfgmnpbmaaDoorPart29
import Derived.Test.YtdomcjfgmnpbmaaDoorPart30
import Derived.Test.YtdomcjfgmnpbmaaDoorPart34
import Derived.Test.YtdomcjfgmnpbmaaDoorPart32
import Derived.Test.YtdomcjfgmnpbmaaDoorPart24
import Derived.Test.YtdomcjfgmnpbmaaDoorPart31
import Derived.Test.YtdomcjfgmnpbmaaDoorPart31
import Derived.Test.YtdomcjfgmnpbmaaDoorPart34
namespace Go.Proofs.YtdomcjfgmnpbmaaDoor
open Go.RowKit Go.Shelf

theorem mem_belowOf (us l : List Nat) (x i : Nat) : ∀ k, k ≤ l.length → (hasB (belowOf us l x k) i = true ↔ (∃ t, t < k ∧ wd l t = i) ∧ hasB (wd us i) x = true)
  | 0, _ => by unfold belowOf; rw [hasB_zero]; simp
  | k + 1, hk => by
    have ih := mem_belowOf us l x i k (by omega)
    unfold belowOf
    cases h : hasB (wd us (wd l k)) x with
    | true =>
      rw [if_pos rfl, hasB_or, Bool.or_eq_true, ih, hasB_bitW, decide_eq_true_iff]
      constructor
      · rintro (⟨⟨t, ht, e⟩, h2⟩ | e)
        · exact ⟨⟨t, by omega, e⟩, h2⟩
        · exact ⟨⟨k, by omega, e⟩, by rw [← e]; exact h⟩
      · rintro ⟨⟨t, ht, e⟩, h2⟩
        by_cases q : t = k
        · subst q; exact .inr e
        · exact .inl ⟨⟨t, by omega, e⟩, h2⟩
    | false =>
      rw [if_neg (by simp), ih]
      constructor
      · rintro ⟨⟨t, ht, e⟩, h2⟩; exact ⟨⟨t, by omega, e⟩, h2⟩
      · rintro ⟨⟨t, ht, e⟩, h2⟩
        by_cases q : t = k
        · subst q; rw [e] at h; rw [h] at h2; cases h2
        · exact ⟨⟨t, by omega, e⟩, h2⟩
theorem birk_irr {us : List Nat} {x : Nat} (hx : x < us.length) : wd (birkL us (lowIrr us) us.length) x = irrW us x := by
  rw [wd_birkL us _ hx]
  refine word_ext' fun i => ?_
  rw [mem_belowOf us _ x i _ (Nat.le_refl _), mem_irrW]
  constructor
  · rintro ⟨⟨t, ht, rfl⟩, h⟩; exact ⟨wd_mem ht, h⟩
  · rintro ⟨h1, h2⟩; exact ⟨mem_wd h1, h2⟩
theorem irrW_lt {us : List Nat} (hl : us.length ≤ 16) (x : Nat) : irrW us x < 4294967296 := wordOf_lt _ (by omega)
/-- all pairs so far have joins with just what either has -/
def JTo (us : List Nat) (j : Nat → Nat → Nat) (a b : Nat) (J : Bool) : Prop := J = true ↔ ∀ x y, y < us.length → (x < a ∨ x = a ∧ y < b) → irrW us (j x y) = orW (irrW us x) (irrW us y)
theorem JTo.start (us : List Nat) (j : Nat → Nat → Nat) : JTo us j 0 0 true := ⟨fun _ x y _ h => by omega, fun _ => rfl⟩
theorem JTo.yes {us : List Nat} {j : Nat → Nat → Nat} {a b : Nat} {J : Bool} (h : JTo us j a b J) (e : irrW us (j a b) = orW (irrW us a) (irrW us b)) : JTo us j a (b + 1) J := by
  refine ⟨fun hJ x y hy hxy => ?_, fun hall => h.2 fun x y hy hxy => hall x y hy (by omega)⟩
  by_cases q : x = a ∧ y = b
  · rw [q.1, q.2]; exact e
  · exact h.1 hJ x y hy (by omega)
theorem JTo.no {us : List Nat} {j : Nat → Nat → Nat} {a b : Nat} (hb : b < us.length) (e : irrW us (j a b) ≠ orW (irrW us a) (irrW us b)) : JTo us j a (b + 1) false :=
  ⟨fun h => (by cases h), fun hall => absurd (hall a b hb (by omega)) e⟩
theorem JTo.next {us : List Nat} {j : Nat → Nat → Nat} {a : Nat} {J : Bool} (h : JTo us j a us.length J) : JTo us j (a + 1) 0 J :=
  ⟨fun hJ x y hy hxy => h.1 hJ x y hy (by omega), fun hall => h.2 fun x y hy hxy => hall x y hy (by omega)⟩
theorem JTo.done {us : List Nat} {j : Nat → Nat → Nat} {J : Bool} (h : JTo us j us.length 0 J) : J = true ↔ Joins us j :=
  ⟨fun hJ x hx y hy => h.1 hJ x y hy (.inl hx), fun hall => h.2 fun x y hy hxy => hall x (by omega) y hy⟩

set_option maxRecDepth 100000 in
set_option maxHeartbeats 1000000 in
theorem dbirk_bad (n : Int) (a : Option Addr) (cap : Nat) (us : List Nat) (n₀ : Nat) (w : World) (hR : Ready a us n₀ w) (hc : codeOf n us ≠ 0) :
    Calls Tryd.prog 5 #[.agg #[.int .i64 n, .slice a us.length cap]] w fun e w' => e = .returned (.bool true) ∧ Below w.heap.size w w' := by
  obtain ⟨r0, hb0, hs0⟩ := one_row w 24 (.int .i64 n) (.slice a us.length cap) rfl
  have R1 := hR.step hb0
  have hso := sound_any n a cap us n₀ R1.fit _ R1.wds R1.le
  have h1 : (codeOf n us == 0) = false := by rw [beq_eq_false_iff_ne]; exact hc
  have h2 : (codeOf n us != 0) = true := by rw [bne_iff_ne]; exact hc
  rw [h1] at hso
  have c00 := r0.cell (i := 0) rfl
  have c01 := r0.cell (i := 1) rfl
  go_enter Tryd.func5, Tryd.ntmps5
  go_wp2_with fail
  refine hso.mono ?_
  rintro e w1 ⟨rfl, hb1⟩
  have q0 := row_below r0 hb1 r0.lt
  have hs1 := hb1.size
  have R2 := R1.step hb1
  have hre := refused_any n a cap us n₀ R2.fit w1 R2.tab R2.wds R2.glo R2.le
  rw [h2] at hre
  have d00 := q0.cell (i := 0) rfl
  have d01 := q0.cell (i := 1) rfl
  have HB := hide (hb0.trans (hb1.mono (by omega)))
  clear hso c00 c01 hb0 hb1 h1 h2 hc
  go_wp2_with (go_at_call 18; refine hre.mono ?_; rintro e w2 ⟨rfl, hb2⟩)
  go_ret
  exact ⟨rfl, HB.out.trans (hb2.mono (by have := HB.out.size; omega))⟩

set_option maxRecDepth 100000 in
set_option maxHeartbeats 2000000 in
theorem dbirk_none (a : Option Addr) (cap : Nat) (us ds : List Nat) (n₀ : Nat) (w : World) (hR : Ready a us n₀ w) (hc : codeOf us.length us = 0) (hD : Tur us us.length [] ds) (hl : latB us ds = false) :
    Calls Tryd.prog 5 #[.agg #[.int .i64 us.length, .slice a us.length cap]] w fun e w' => e = .returned (.bool true) ∧ Below w.heap.size w w' := by
  obtain ⟨r0, hb0, hs0⟩ := one_row w 24 (.int .i64 us.length) (.slice a us.length cap) rfl
  have R1 := hR.step hb0
  have hso := sound_any us.length a cap us n₀ R1.fit _ R1.wds R1.le
  rw [show (codeOf us.length us == 0) = true by rw [hc]; rfl] at hso
  have t0 := fun W (hW : Ready a us n₀ W) => TableOf_none us.length a cap us ds n₀ hW.fit W hW.tab hW.wds hW.glo hW.le hc hD hl
  have d1 := fun W (hW : Ready a us n₀ W) => Birk_err us.length a us.length cap 5 (by decide) W fun Y hY => Irr_err us.length a us.length cap 5 (by decide) Y fun X hX => t0 X ((hW.step hY).step hX)
  have d2 := fun W (hW : Ready a us n₀ W) => Kind_err us.length a us.length cap 5 (by decide) W fun X hX => t0 X (hW.step hX)
  have d3 := fun W (hW : Ready a us n₀ W) => Irr_err us.length a us.length cap 5 (by decide) W fun X hX => t0 X (hW.step hX)
  have d4 := fun W (hW : Ready a us n₀ W) => open_err us.length a us.length cap 5 (by decide) W fun X hX _ => Make_none us.length a cap us ds n₀ hW.fit X (hW.step hX).tab (hW.step hX).wds hW.glo (hW.step hX).le hc hD hl
  unfold birkErr at d1
  unfold kindErr at d2
  unfold irrErr at d3
  have Hb := hide hb0
  clear hb0 hc hl hD t0
  go_enter Tryd.func5, Tryd.ntmps5
  go_wp2_with fail
  refine hso.mono ?_
  rintro e w1 ⟨rfl, hb1⟩
  have hs1 := hb1.size
  have R2 := R1.step hb1
  have q1 := row_below r0 hb1 r0.lt
  have j0 := q1.cell (i := 0) rfl
  have j1 := q1.cell (i := 1) rfl
  clear hso
  go_wp2_with fail
  refine (d1 _ R2).mono ?_
  rintro e w2 ⟨rfl, hb2⟩
  have hs2 := hb2.size
  have R3 := R2.step hb2
  have q2 := row_below q1 hb2 q1.lt
  have k0 := q2.cell (i := 0) rfl
  have k1 := q2.cell (i := 1) rfl
  clear j0 j1 d1
  go_wp2_with fail
  refine (d2 _ R3).mono ?_
  rintro e w3 ⟨rfl, hb3⟩
  have hs3 := hb3.size
  have hb4 : Below w3.heap.size w3 (w3.alloc (.cells #[.bool false, .bool false, .bool false, .int .i64 0, .int .i64 0, .int .i64 0] 40)) := (Below.refl _ _).alloc (Nat.le_refl _) _
  have hs4 := hb4.size
  have R4 := (R3.step hb3).step hb4
  have q4 := row_below (row_below q2 hb3 q2.lt) hb4 (row_below q2 hb3 q2.lt).lt
  have l0 := q4.cell (i := 0) rfl
  have l1 := q4.cell (i := 1) rfl
  clear k0 k1 d2
  go_wp2_with fail
  refine (d3 _ R4).mono ?_
  rintro e w5 ⟨rfl, hb5⟩
  have hs5 := hb5.size
  have R5 := R4.step hb5
  have q5 := row_below q4 hb5 q4.lt
  have m0 := q5.cell (i := 0) rfl
  have m1 := q5.cell (i := 1) rfl
  clear l0 l1 d3
  go_wp2_with fail
  refine (d4 _ R5).mono ?_
  rintro e w6 ⟨rfl, hb6⟩
  have hs6 := hb6.size
  have rb := Row.new w6 49 [.int .i64 us.length, .slice a us.length cap, .slice none 0 0, .slice none 0 0, .int .i64 0, .int .i64 0, .bool false]
  have n6 := rb.cell (i := 6) rfl
  clear d4
  go_wp2_with fail
  go_ret
  exact ⟨rfl, ((((((Hb.out.trans (hb1.mono (by omega))).trans (hb2.mono (by omega))).trans (hb3.mono (by omega))).trans (hb4.mono (by omega))).trans (hb5.mono (by omega))).trans (hb6.mono (by omega))).alloc (by omega) _⟩

set_option maxRecDepth 100000 in
set_option maxHeartbeats 4000000 in
theorem dbirk_ok (a : Option Addr) (cap : Nat) (us ds : List Nat) (n₀ : Nat) (w : World) (hR : Ready a us n₀ w) (hc : codeOf us.length us = 0) (hD : Tur us us.length [] ds) (hl : latB us ds = true) :
    Calls Tryd.prog 5 #[.agg #[.int .i64 us.length, .slice a us.length cap]] w fun e w' => e = .returned (.bool true) ∧ Below w.heap.size w w' := by
  obtain ⟨r0, hb0, hs0⟩ := one_row w 24 (.int .i64 us.length) (.slice a us.length cap) rfl
  obtain ⟨_, h16, _, hin, hord⟩ := code_zero hc
  have hl16 : us.length ≤ 16 := by omega
  have hpos : 0 < us.length := Nat.pos_of_ne_zero (latB_parts hl).1
  have hf := hR.fit
  have R1 := hR.step hb0
  have hso := sound_any us.length a cap us n₀ R1.fit _ R1.wds R1.le
  rw [show (codeOf us.length us == 0) = true by rw [hc]; rfl] at hso
  have d1 := fun W (hW : Ready a us n₀ W) => Birk_ok a cap us ds n₀ hW.fit W hW.tab hW.wds hW.glo hW.le hc hD hl
  have d2 := fun W (hW : Ready a us n₀ W) => Kind_ok a cap us ds n₀ hW.fit W hW.tab hW.wds hW.glo hW.le hc hD hl
  have d3 := fun W (hW : Ready a us n₀ W) => Irr_ok us.length a cap us ds n₀ hW.fit W hW.tab hW.wds hW.glo hW.le hc hD hl
  have d4 := fun W (hW : Ready a us n₀ W) => open_ok us.length a cap us ds n₀ hW.fit W hW.tab hW.wds hW.glo hW.le hc hD hl
  have HL : Hid (∀ js ms, NearTo us js (us.length * us.length) → NearTo ds ms (us.length * us.length) → Lat us.length (leW us) (at2 js us.length) (at2 ms us.length) (gath (at2 ms us.length) 0 us.length) (gath (at2 js us.length) 0 us.length)) := fun js ms h1 h2 => lat_pre hord hD h1 h2 hpos
  have HU1 : Hid (∀ js ks, NearTo us js (us.length * us.length) → NearTo us ks (us.length * us.length) → js = ks) := fun js ks h1 h2 => NearTo.unique hord h1 h2
  have HU2 : Hid (∀ js ks, NearTo ds js (us.length * us.length) → NearTo ds ks (us.length * us.length) → js = ks) := fun js ks h1 h2 => NearTo.unique (tur_ord hord hD) h1 h2
  have hbl : (birkL us (lowIrr us) us.length).length = us.length := birkL_len us _ _
  have HBI : Hid (∀ x, x < us.length → wd (birkL us (lowIrr us) us.length) x = irrW us x) := fun x hx => birk_irr hx
  have hlowl : (lowIrr us).length ≤ 16 := by
    refine Nat.le_trans (List.length_filter_le _ _) ?_
    rw [List.length_range]; exact hl16
  have HI := hide hin
  have HO := hide hord
  have Hb := hide hb0
  clear hb0 hc hl hD hin hord
  generalize birkL us (lowIrr us) us.length = bl at *
  go_enter Tryd.func5, Tryd.ntmps5
  go_wp2_with fail
  refine hso.mono ?_
  rintro e w1 ⟨rfl, hb1⟩
  have hs1 := hb1.size
  have R2 := R1.step hb1
  have q1 := row_below r0 hb1 r0.lt
  have j0 := q1.cell (i := 0) rfl
  have j1 := q1.cell (i := 1) rfl
  clear hso
  go_wp2_with fail
  refine (d1 _ R2).mono ?_
  rintro e w2 ⟨g, rfl, hb2, hg2, rB⟩
  have hs2 := hb2.size
  have R3 := R2.step hb2
  have q2 := row_below q1 hb2 q1.lt
  have k0 := q2.cell (i := 0) rfl
  have k1 := q2.cell (i := 1) rfl
  clear j0 j1 d1
  go_wp2_with fail
  refine (d2 _ R3).mono ?_
  rintro e w3 ⟨js, ms, nj, nm, hb3, rfl⟩
  have kd := kind_distr js ms us.length
  have HL1 := hide (HL.out js ms nj nm)
  have HJ := hide nj
  have HM := hide nm
  have hjl := nj.len
  have hml := nm.len
  clear nj nm
  generalize complTo js ms us.length (gath (at2 ms us.length) 0 us.length) (gath (at2 js us.length) 0 us.length) us.length = cb
  generalize kindOf js ms us.length (triA us.length us.length) = st at *
  obtain ⟨d, m, sa, sb, sc⟩ := st
  simp only at kd ⊢
  have KD := hide kd
  clear kd
  have hs3 := hb3.size
  have hkr := Row.new w3 40 [.bool d, .bool m, .bool cb, .int .i64 (sa : Nat), .int .i64 (sb : Nat), .int .i64 (sc : Nat)]
  have hb4 : Below w3.heap.size w3 (w3.alloc (.cells #[.bool d, .bool m, .bool cb, .int .i64 (sa : Nat), .int .i64 (sb : Nat), .int .i64 (sc : Nat)] 40)) := (Below.refl _ _).alloc (Nat.le_refl _) _
  have hs4 := hb4.size
  have R4 := (R3.step hb3).step hb4
  have q3 := row_below q2 hb3 q2.lt
  have q4 := row_below q3 hb4 q3.lt
  have l0 := q4.cell (i := 0) rfl
  have l1 := q4.cell (i := 1) rfl
  have rB4 := row_below (row_below rB hb3 rB.lt) hb4 (row_below rB hb3 rB.lt).lt
  clear k0 k1 d2
  go_wp2_with fail
  refine (d3 _ R4).mono ?_
  rintro e w5 ⟨a1, c1, a2, c2, rfl, hb5, i1, _⟩
  have hs5 := hb5.size
  have R5 := R4.step hb5
  have q5 := row_below q4 hb5 q4.lt
  have m0 := q5.cell (i := 0) rfl
  have m1 := q5.cell (i := 1) rfl
  have kr5 := row_below hkr hb5 hkr.lt
  have rB5 := row_below rB4 hb5 rB4.lt
  clear l0 l1 d3
  go_wp2_with fail
  refine (d4 _ R5).mono ?_
  rintro e w6 ⟨aj, cj, am, cm, js2, ms2, rfl, hb6, ij, im, nj2, nm2⟩
  obtain rfl : js = js2 := HU1.out _ _ HJ.out nj2
  obtain rfl : ms = ms2 := HU2.out _ _ HM.out nm2
  have hs6 := hb6.size
  generalize gath (at2 ms us.length) 0 us.length = bt at *
  generalize gath (at2 js us.length) 0 us.length = tp at *
  have q6 := row_below q5 hb6 q5.lt
  have lt6 := q6.lt
  have o0 := q6.cell (i := 0) rfl
  clear m0 m1 d4 HL HU1 HU2 HJ HM
  go_wp2_with fail
  obtain ⟨V, hV⟩ : ∃ V, w6.alloc (.cells #[.int .i64 us.length, .slice a us.length cap, .slice aj (us.length * us.length) cj, .slice am (us.length * us.length) cm, .int .i64 (bt : Nat), .int .i64 (tp : Nat), .bool false] 49) = V := ⟨_, rfl⟩
  have rb : Row V w6.heap.size 49 [.int .i64 us.length, .slice a us.length cap, .slice aj (us.length * us.length) cj, .slice am (us.length * us.length) cm, .int .i64 (bt : Nat), .int .i64 (tp : Nat), .bool false] := by rw [← hV]; exact Row.new w6 _ _
  have hb7 : Below w6.heap.size w6 V := by rw [← hV]; exact (Below.refl _ _).alloc (Nat.le_refl _) _
  have hs7 := hb7.size
  rw [hV]
  clear hV o0 nj2 nm2
  have RV := (R5.step hb6).step hb7
  have qV := row_below q6 hb7 q6.lt
  have krV := row_below (row_below kr5 hb6 kr5.lt) hb7 (row_below kr5 hb6 kr5.lt).lt
  have rBV := row_below (row_below rB5 hb6 rB5.lt) hb7 (row_below rB5 hb6 rB5.lt).lt
  have ijV : IsInts V.heap.size V aj js := (ij.below hb7).mono hs7
  have imV : IsInts V.heap.size V am ms := (im.below hb7).mono hs7
  have i1V : IsInts V.heap.size V a1 (lowIrr us) := ((((i1.below hb6).mono hs6).below hb7).mono hs7)
  have hwi := kwithin_true us.length a1 c1 (lowIrr us) V.heap.size (by omega) (fun i hi => low_lt _ (wd_mem hi)) V i1V
  have p0 := qV.cell (i := 0) rfl
  have ltb := rb.lt
  have ltq := qV.lt
  have ltk := krV.lt
  have ltB := rBV.lt
  have HBV := hide (((((((Hb.out.trans (hb1.mono (by omega))).trans (hb2.mono (by omega))).trans (hb3.mono (by omega))).trans (hb4.mono (by omega))).trans (hb5.mono (by omega))).trans (hb6.mono (by omega))).trans (hb7.mono (by omega)))
  refine hwi.mono ?_
  rintro e w8 ⟨rfl, hw8⟩
  rw [hw8]
  clear hw8 w8
  go_wp2_with fail
  clear hwi p0 i1 ij im
  go_loopw [12, 13] (fun jn i wr => ∃ (k : Nat) (J : Bool), k ≤ us.length ∧ i = .int .i64 k ∧ jn = .bool J ∧ Hid (JTo us (at2 js us.length) k 0 J) ∧ Below V.heap.size V wr) (fun _ i _ => us.length - (intOf i).toNat)
  case atStart => exact ⟨0, true, Nat.zero_le _, rfl, rfl, JTo.start us _, Below.refl _ _⟩
  case round =>
    obtain ⟨k, J, hk, rfl, rfl, HJ, hB⟩ := hrel
    have hsz := hB.size
    have p0 := (row_below qV hB ltq).cell (i := 0) rfl
    by_cases hlt : k < us.length
    · go_wp2_with fail
      go_loopw [12, 14] (fun jn i wr => ∃ (q : Nat) (J : Bool), q ≤ us.length ∧ i = .int .i64 q ∧ jn = .bool J ∧ Hid (JTo us (at2 js us.length) k q J) ∧ Below V.heap.size V wr) (fun _ i _ => us.length - (intOf i).toNat)
      case atStart => exact ⟨0, J, Nat.zero_le _, rfl, rfl, HJ, hB⟩
      case round =>
        clear HJ hB hsz p0
        obtain ⟨q, J, hq, rfl, rfl, HJ, hB⟩ := hrel
        have hsz := hB.size
        have p0 := (row_below qV hB ltq).cell (i := 0) rfl
        by_cases hlq : q < us.length
        · have hmr := HL1.out.mlt hlt hlq
          have hjr := HL1.out.jlt hlt hlq
          have hme := irr_meet HL1.out hlt hlq
          have cA := fun d os => band_re us.length a cap aj cj am cm (bt : Nat) (tp : Nat) ms V hl16 hml imV wr hB k q (at2 ms us.length k q) hlt hlq rfl d os
          have cOr := fun W (hW : Below V.heap.size V W) d os => bor_re us.length a cap aj cj am cm (bt : Nat) (tp : Nat) js V hl16 hjl ijV W hW k q (at2 js us.length k q) hlt hlq rfl d os
          have HJy := fun (e : irrW us (at2 js us.length k q) = orW (irrW us k) (irrW us q)) => HJ.out.yes e
          have HJn := fun (e : irrW us (at2 js us.length k q) ≠ orW (irrW us k) (irrW us q)) => JTo.no (us := us) (j := at2 js us.length) (a := k) hlq e
          have wK := HBI.out k hlt
          have wQ := HBI.out q hlq
          have wM := HBI.out _ hmr
          have wJ := HBI.out _ hjr
          have lX := irrW_lt hl16 k
          have lY := irrW_lt hl16 q
          generalize at2 ms us.length k q = r at *
          generalize at2 js us.length k q = r2 at *
          generalize irrW us k = X at *
          generalize irrW us q = Y at *
          generalize irrW us r = M at *
          generalize irrW us r2 = Z at *
          have hand := bits_and32 X Y lX lY
          have hor := bits_or32 X Y lX lY
          have hnm : (((M : Nat) : Int) != ((andW X Y : Nat) : Int)) = false := by rw [hme]; simp
          clear hme
          have tr := row_below rb hB ltb
          have t0 := cell_regrown (tr.cell (i := 0) rfl)
          have t1 := cell_regrown (tr.cell (i := 1) rfl)
          have t2 := cell_regrown (tr.cell (i := 2) rfl)
          have t3 := cell_regrown (tr.cell (i := 3) rfl)
          have t4 := cell_regrown (tr.cell (i := 4) rfl)
          have t5 := cell_regrown (tr.cell (i := 5) rfl)
          have t6 := cell_regrown (tr.cell (i := 6) rfl)
          have tB := row_below rBV hB ltB
          have cK := cell_regrown (tB.cell (wvals_at (show k < bl.length by omega)))
          have cQ := cell_regrown (tB.cell (wvals_at (show q < bl.length by omega)))
          have cM := cell_regrown (tB.cell (wvals_at (show r < bl.length by omega)))
          rw [wK] at cK
          rw [wQ] at cQ
          rw [wM] at cM
          clear tB tr
          go_wp2_with fail
          refine wp_region_quiet_below (by kernel_rfl) (by kernel_rfl) ?_
          repeat (go_big_quiet_step (exact cA _ _))
          refine wpQuiet_nil ?_
          intro _ hw'
          obtain ⟨⟨dq1, osq1⟩, hw''⟩ := hw'
          subst hw''
          have hg1 := below_regrown wr dq1 osq1
          obtain ⟨V1, hV1⟩ : ∃ V, Go.Sort.grow (redrawn wr dq1) osq1 = V := ⟨_, rfl⟩
          rw [hV1] at hg1 ⊢
          clear hV1 cA t0 t1 t2 t3 t4 t5 t6 cK cQ cM
          have hB1 : Below V.heap.size V V1 := hB.trans (hg1.mono (by omega))
          have hz1 := hg1.size
          have cO := cOr V1 hB1
          clear cOr p0
          have sr := row_below rb hB1 ltb
          have s0 := cell_regrown (sr.cell (i := 0) rfl)
          have s1 := cell_regrown (sr.cell (i := 1) rfl)
          have s2 := cell_regrown (sr.cell (i := 2) rfl)
          have s3 := cell_regrown (sr.cell (i := 3) rfl)
          have s4 := cell_regrown (sr.cell (i := 4) rfl)
          have s5 := cell_regrown (sr.cell (i := 5) rfl)
          have s6 := cell_regrown (sr.cell (i := 6) rfl)
          have sB := row_below rBV hB1 ltB
          have dK := cell_regrown (sB.cell (wvals_at (show k < bl.length by omega)))
          have dQ := cell_regrown (sB.cell (wvals_at (show q < bl.length by omega)))
          have dJ := cell_regrown (sB.cell (wvals_at (show r2 < bl.length by omega)))
          rw [wK] at dK
          rw [wQ] at dQ
          rw [wJ] at dJ
          clear sB sr
          by_cases he : Z = orW X Y
          · have hnj : (((Z : Nat) : Int) != ((orW X Y : Nat) : Int)) = false := by rw [he]; simp
            have HN := hide (HJy he)
            clear HJy HJn he
            go_wp2_with fail
            refine wp_region_quiet_below (by kernel_rfl) (by kernel_rfl) ?_
            repeat (go_big_quiet_step (exact cO _ _))
            refine wpQuiet_nil ?_
            intro _ hw'
            obtain ⟨⟨dq2, osq2⟩, hw''⟩ := hw'
            subst hw''
            have hg2 := below_regrown V1 dq2 osq2
            obtain ⟨V2, hV2⟩ : ∃ V, Go.Sort.grow (redrawn V1 dq2) osq2 = V := ⟨_, rfl⟩
            rw [hV2] at hg2 ⊢
            clear hV2 cO s0 s1 s2 s3 s4 s5 s6 dK dQ dJ
            have hB2 : Below V.heap.size V V2 := hB1.trans (hg2.mono (by omega))
            have hz2 := hg2.size
            go_wp2_with fail
            exact ⟨⟨q + 1, J, by omega, by go_num, rfl, HN, hB2⟩, by simp [intOf]; omega⟩
          · have hnj : (((Z : Nat) : Int) != ((orW X Y : Nat) : Int)) = true := by rw [bne_iff_ne]; omega
            have HN := hide (HJn he)
            clear HJy HJn he
            go_wp2_with fail
            refine wp_region_quiet_below (by kernel_rfl) (by kernel_rfl) ?_
            repeat (go_big_quiet_step (exact cO _ _))
            refine wpQuiet_nil ?_
            intro _ hw'
            obtain ⟨⟨dq2, osq2⟩, hw''⟩ := hw'
            subst hw''
            have hg2 := below_regrown V1 dq2 osq2
            obtain ⟨V2, hV2⟩ : ∃ V, Go.Sort.grow (redrawn V1 dq2) osq2 = V := ⟨_, rfl⟩
            rw [hV2] at hg2 ⊢
            clear hV2 cO s0 s1 s2 s3 s4 s5 s6 dK dQ dJ
            have hB2 : Below V.heap.size V V2 := hB1.trans (hg2.mono (by omega))
            have hz2 := hg2.size
            go_wp2_with fail
            exact ⟨⟨q + 1, false, by omega, by go_num, rfl, HN, hB2⟩, by simp [intOf]; omega⟩
        · obtain rfl : q = us.length := by omega
          have HN := hide HJ.out.next
          clear HJ
          go_wp2_with fail
          exact ⟨⟨k + 1, J, by omega, by go_num, rfl, HN, hB⟩, by simp [intOf]; omega⟩
    · obtain rfl : k = us.length := by omega
      have hdJ : d = J := by
        rw [Bool.eq_iff_iff, KD.out, HJ.out.done]
        exact distr_joins HO.out HL1.out
      have hJJ := HJ.out.done
      have HC := hide (fun es (he : Dn (partL us (lowIrr us)) es) => birk_count HI.out HO.out hf HL1.out he)
      have HJJ := hide hJJ
      subst hdJ
      have hpc := part_code HI.out HO.out hf (nodup_low us) low_lt hlowl
      have hpl := partL_len us (lowIrr us)
      have i1r : IsInts wr.heap.size wr a1 (lowIrr us) := (i1V.below hB).mono hsz
      have hRr := RV.step hB
      have hpa := part_any us.length a cap us a1 c1 (lowIrr us) n₀ hf low_lt hl16 hlowl wr hRr.wds i1r hRr.le
      have p1 := (row_below qV hB ltq).cell (i := 1) rfl
      clear HJ hJJ KD HL1 HBI HI HO ijV imV i1V
      go_wp2_with fail
      refine hpa.mono ?_
      rintro e w9 ⟨vp, rfl, hb9, op⟩
      obtain ⟨ap, cp, rfl, wp⟩ := ownsRow_words op
      have hs9 := hb9.size
      have R9 := hRr.step hb9
      have RP : Ready ap (partL us (lowIrr us)) w9.heap.size w9 := ⟨fit_partL hlowl, R9.tab, wp, by have := R9.glo; have := hRr.le; omega, Nat.le_refl _⟩
      have hcn := Count_ok ap cp (partL us (lowIrr us)) w9.heap.size w9 RP hpc
      rw [hpl] at hcn ⊢
      dsimp only
      clear hpa hpc
      go_wp2_with fail
      refine hcn.mono ?_
      rintro e w10 ⟨es, rfl, hTe, hb10⟩
      have hs10 := hb10.size
      have hde : Dn (partL us (lowIrr us)) es := Dn.of_tur (by rw [hpl]; exact hTe)
      have hEL : (allD es).length ≤ 65536 := allD_len (by rw [hde.1, hpl]; exact hlowl)
      obtain ⟨hge, hiff⟩ := HC.out es hde
      have hB10 : Below V.heap.size V w10 := (hB.trans (hb9.mono hsz)).trans (hb10.mono (by omega))
      have u0 := (row_below qV hB10 ltq).cell (i := 0) rfl
      have v0 := (row_below krV hB10 ltk).cell (i := 0) rfl
      have hcnt : ((((allD es).length : Nat) : Int) == ((us.length : Nat) : Int)) = d := by
        rw [Bool.eq_iff_iff, beq_iff_eq, HJJ.out, hiff]; omega
      have hge' : decide (us.length ≤ (allD es).length) = true := decide_eq_true hge
      have hfin : Below w.heap.size w w10 := HBV.out.trans (hB10.mono (by have := HBV.out.size; omega))
      have HF := hide hfin
      clear hde hTe hiff HJJ HC hcn p0 p1 hfin
      generalize (allD es).length = cnt at *
      dsimp only
      cases d
      all_goals
        go_wp2_with fail
        go_ret
        exact ⟨ret_bool (by simp), HF.out⟩

/-- **DownsBirkhoff answers true, for every order, and writes nothing that was there** -/
theorem dbirk_any (n : Int) (a : Option Addr) (cap : Nat) (us : List Nat) (n₀ : Nat) (hf : Fit us) (w : World) (hT : TabAt w) (hw : IsWords n₀ w a us) (hg : 0 < n₀) (hn₀ : n₀ ≤ w.heap.size) :
    Calls Tryd.prog 5 #[.agg #[.int .i64 n, .slice a us.length cap]] w fun e w' => e = .returned (.bool true) ∧ Below w.heap.size w w' := by
  have hR : Ready a us n₀ w := ⟨hf, hT, hw, hg, hn₀⟩
  by_cases hc : codeOf n us = 0
  · have hle := (code_zero hc).2.2.1
    subst hle
    obtain ⟨ds, hD⟩ := tur_ex hf (by have := code_zero hc; omega)
    cases hl : latB us ds with
    | true => exact dbirk_ok a cap us ds n₀ w hR hc hD hl
    | false => exact dbirk_none a cap us ds n₀ w hR hc hD hl
  · exact dbirk_bad n a cap us n₀ w hR hc
end Go.Proofs.YtdomcjfgmnpbmaaDoor
