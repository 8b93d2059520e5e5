/- The walk of the law FixedTarski: it answers true, and writes nothing that was there. -/
import Derived.Test.YtemabboecmkoaaaDoorFixMore
namespace Go.Proofs.YtemabboecmkoaaaDoor
open Go.RowKit Go.Shelf

set_option maxRecDepth 100000 in
set_option maxHeartbeats 2000000 in
theorem ftar_no (n : Int) (a : Option Addr) (cap : Nat) (us : List Nat) (ag : Option Addr) (cg : Nat) (zs : List Int) (x : Int) (n₀ : Nat) (hf : Fit us) (h63 : zs.length ≤ 9223372036854775807) (w : World) (hT : TabAt w) (hw : IsWords n₀ w a us) (hz : ZInts n₀ w ag zs) (hg : 0 < n₀) (hn₀ : n₀ ≤ w.heap.size) (hc : fixCode n us zs ≠ 0) :
    Calls Tryd.prog 4 #[.agg #[.int .i64 n, .slice a us.length cap], .slice ag zs.length cg, .int .i64 x] w fun e w' => e = .returned (.bool true) ∧ Below w.heap.size w w' := by
  have hTW : ∀ {W}, Below w.heap.size w W → TabAt W := fun hW => hT.below hW (by omega)
  have hwW : ∀ {W}, Below w.heap.size w W → IsWords n₀ W a us := fun hW => hw.below (hW.mono hn₀)
  have hzW : ∀ {W}, Below w.heap.size w W → ZInts n₀ W ag zs := fun hW => hz.below (hW.mono hn₀)
  have hnW : ∀ {W}, Below w.heap.size w W → n₀ ≤ W.heap.size := fun hW => by have := hW.size; omega
  obtain ⟨r0, hb0, hs0⟩ := one_row w 24 (.int .i64 n) (.slice a us.length cap) rfl
  have s1 := mapped_any n a cap us ag cg zs n₀ hf h63 _ (hwW hb0) (hzW hb0) (hnW hb0)
  have s2 : ∀ W, Below w.heap.size w W → _ := fun W hW => FCheck_any n a cap us ag cg zs n₀ hf h63 W (hTW hW) (hwW hW) (hzW hW) hg (hnW hW)
  have e1 : (fixCode n us zs == 0) = false := by rw [beq_eq_false_iff_ne]; exact hc
  have e2 : (fixCode n us zs != 0) = true := by rw [bne_iff_ne]; exact hc
  rw [e1] at s1
  have lt0 := r0.lt
  clear hc e1
  generalize fixCode n us zs = c at *
  go_enter Tryd.func4, Tryd.ntmps4
  go_wp2_with fail
  with_reducible refine s1.mono ?_
  rintro e w1 ⟨rfl, hb1⟩
  have q0 := row_below r0 hb1 lt0
  have j0 := q0.cell (i := 0) rfl
  have j1 := q0.cell (i := 1) rfl
  have hB1 : Below w.heap.size w w1 := hb0.trans (hb1.mono (by omega))
  go_wp2_with fail
  with_reducible refine (s2 w1 hB1).mono ?_
  rintro e w2 ⟨rfl, hb2⟩
  go_wp2_with fail
  go_ret
  exact ⟨rfl, hB1.trans (hb2.mono hB1.size)⟩

set_option maxRecDepth 100000 in
set_option maxHeartbeats 4000000 in
theorem ftar_yes (a : Option Addr) (cap : Nat) (us : List Nat) (ag : Option Addr) (cg : Nat) (zs : List Int) (x : Int) (n₀ : Nat) (hf : Fit us) (h63 : zs.length ≤ 9223372036854775807) (w : World) (hT : TabAt w) (hw : IsWords n₀ w a us) (hz : ZInts n₀ w ag zs) (hg : 0 < n₀) (hn₀ : n₀ ≤ w.heap.size) (hc : codeOf us.length us = 0) (hm : mapCode us zs = 0) :
    Calls Tryd.prog 4 #[.agg #[.int .i64 us.length, .slice a us.length cap], .slice ag zs.length cg, .int .i64 x] w fun e w' => e = .returned (.bool true) ∧ Below w.heap.size w w' := by
  have hTW : ∀ {W}, Below w.heap.size w W → TabAt W := fun hW => hT.below hW (by omega)
  have hwW : ∀ {W}, Below w.heap.size w W → IsWords n₀ W a us := fun hW => hw.below (hW.mono hn₀)
  have hzW : ∀ {W}, Below w.heap.size w W → ZInts n₀ W ag zs := fun hW => hz.below (hW.mono hn₀)
  have hnW : ∀ {W}, Below w.heap.size w W → n₀ ≤ W.heap.size := fun hW => by have := hW.size; omega
  have hord := (code_zero hc).2.2.2.2
  have hl16 : us.length ≤ 16 := by have := code_zero hc; omega
  obtain ⟨hI, hmo⟩ := mapCode_zero hm
  have hmap := into_map hI
  have HZ := hide (intoB_true.1 hI).1
  have hzi : ∀ {W}, Below w.heap.size w W → IsInts n₀ W ag (mapN zs) := fun hW => mapN_ints (intoB_true.1 hI).2 (hzW hW)
  obtain ⟨r0, hb0, hs0⟩ := one_row w 24 (.int .i64 us.length) (.slice a us.length cap) rfl
  have s1 := mapped_any us.length a cap us ag cg zs n₀ hf h63 _ (hwW hb0) (hzW hb0) (hnW hb0)
  have s2 : ∀ W, Below w.heap.size w W → _ := fun W hW => Least_all us.length a cap us ag cg zs n₀ hf h63 W (hTW hW) (hwW hW) (hzW hW) hg (hnW hW)
  have s3 : ∀ W, Below w.heap.size w W → _ := fun W hW => Great_all us.length a cap us ag cg zs n₀ hf h63 W (hTW hW) (hwW hW) (hzW hW) hg (hnW hW)
  rw [fixCode_map hc, hm] at s1
  unfold endErr at s2 s3
  have lt0 := r0.lt
  clear hc hm hI
  generalize endCode us.length us zs = c at *
  go_enter Tryd.func4, Tryd.ntmps4
  go_wp2_with fail
  with_reducible refine s1.mono ?_
  rintro e w1 ⟨rfl, hb1⟩
  have q0 := row_below r0 hb1 lt0
  have lq0 := q0.lt
  have j0 := q0.cell (i := 0) rfl
  have j1 := q0.cell (i := 1) rfl
  have hB1 : Below w.heap.size w w1 := hb0.trans (hb1.mono (by omega))
  have s2' := s2 w1 hB1
  clear s1 s2
  go_wp2_with fail
  with_reducible refine s2'.mono ?_
  rintro e w2 ⟨hb2, hh2⟩
  clear j0 j1 s2'
  have hB2 : Below w.heap.size w w2 := hB1.trans (hb2.mono hB1.size)
  have q1 := row_below q0 hb2 lq0
  have lq1 := q1.lt
  have j0 := q1.cell (i := 0) rfl
  have j1 := q1.cell (i := 1) rfl
  have s3' := s3 w2 hB2
  clear s3
  by_cases h0 : c = 0
  · rcases hh2 with ⟨hx, _⟩ | ⟨_, b, y, K, hbot, hcy, hK, hy, rfl⟩
    · exact absurd h0 hx
    subst h0
    go_wp2_with fail
    with_reducible refine s3'.mono ?_
    rintro e w3 ⟨hb3, hh3⟩
    clear j0 j1 s3'
    rcases hh3 with ⟨hx, _⟩ | ⟨_, t, z, M, htop, hcz, hM, hz', rfl⟩
    · exact absurd rfl hx
    have hB3 : Below w.heap.size w w3 := hB2.trans (hb3.mono hB2.size)
    have q2 := row_below q1 hb3 lq1
    have lq2 := q2.lt
    have hmo := monoB_true.1 hmo
    have fdn : ∀ k, k < us.length → leW us (wd (mapN zs) k) k → leW us y k := fun k hk h => ends_down hord hmap hmo hbot hcy hk h
    have fup : ∀ k, k < us.length → leW us k (wd (mapN zs) k) → leW us k z := fun k hk h => ends_up hord hmap hmo htop hcz hk h
    have hyzB : hasB (wd us y) z = true := fdn z hz' (by rw [hcz.stay]; exact leW_refl hord hz')
    have ey := hcy.stay
    have ez := hcz.stay
    have hyl : y < zs.length := by rw [HZ.out]; exact hy
    have hzl : z < zs.length := by rw [HZ.out]; exact hz'
    obtain ⟨bf, off, hag, hbf, hcf⟩ := (hzi hB3).at (i := y) (by rw [hmap.len]; exact hy)
    subst hag
    have cy := hcf y (by rw [hmap.len]; exact hy)
    have cz := hcf z (by rw [hmap.len]; exact hz')
    rw [ey] at cy
    rw [ez] at cz
    have hbf3 : bf < w3.heap.size := by have := hnW hB3; omega
    have wi := kwithin2 us.length (y : Int) (z : Int) w3
    rw [allInB_true.2 (allIn2.2 ⟨⟨by omega, by omega⟩, ⟨by omega, by omega⟩⟩)] at wi
    have sb := kbelow_any us.length a cap us y z n₀ hf hy (by omega)
    rw [hyzB] at sb
    have k0 := q2.cell (i := 0) rfl
    have k1 := q2.cell (i := 1) rfl
    have e1 : ((y : Int) != (y : Int)) = false := by simp
    have e2 : ((z : Int) != (z : Int)) = false := by simp
    have HC := hide hcf
    have HM := hide hmap
    clear hcf hmap hmo hcy hcz hbot htop hyzB ey ez q1 q0 hord
    go_wp2_with fail
    with_reducible refine wi.mono ?_
    rintro e w5 ⟨rfl, hww⟩
    have hb5 : Below w3.heap.size w3 w5 := by rw [hww]; exact (Below.refl _ _).alloc (Nat.le_refl _) _
    clear hww wi k0 k1
    have hB5 := hB3.trans (hb5.mono hB3.size)
    have q3 := row_below q2 hb5 lq2
    have lq3 := q3.lt
    have k0 := q3.cell (i := 0) rfl
    have k1 := q3.cell (i := 1) rfl
    have cy5 := (hb5.cell (p := ⟨bf, off + y, none⟩) hbf3).trans cy
    have cz5 := (hb5.cell (p := ⟨bf, off + z, none⟩) hbf3).trans cz
    clear cy cz
    have sb5 := sb w5 (hwW hB5) (hnW hB5)
    clear sb
    go_wp2_with fail
    with_reducible refine sb5.mono ?_
    rintro e w6 ⟨rfl, hb6⟩
    have hB6 := hB5.trans (hb6.mono hB5.size)
    have q4 := row_below q3 hb6 lq3
    have lq4 := q4.lt
    clear k0 k1 cy5 cz5 sb5
    have k0 := q4.cell (i := 0) rfl
    have k1 := q4.cell (i := 1) rfl
    have wi := kwithin1 us.length x w6
    cases hin : allInB us.length [x] with
    | false =>
      rw [hin] at wi
      clear hin
      go_wp2_with fail
      with_reducible refine wi.mono ?_
      rintro e w7 ⟨rfl, hww⟩
      have hb7 : Below w6.heap.size w6 w7 := by rw [hww]; exact (Below.refl _ _).alloc (Nat.le_refl _) _
      clear hww wi
      go_wp2_with fail
      go_ret
      exact ⟨rfl, hB6.trans (hb7.mono hB6.size)⟩
    | true =>
      rw [hin] at wi
      obtain ⟨hx0, hx1⟩ := allIn1.1 (allInB_true.1 hin)
      obtain ⟨k, rfl⟩ : ∃ k : Nat, x = (k : Int) := ⟨x.toNat, by omega⟩
      have hk : k < us.length := by omega
      have hkl : k < zs.length := by rw [HZ.out]; exact hk
      clear hin hx0 hx1
      go_wp2_with fail
      with_reducible refine wi.mono ?_
      rintro e w7 ⟨rfl, hww⟩
      have hb7 : Below w6.heap.size w6 w7 := by rw [hww]; exact (Below.refl _ _).alloc (Nat.le_refl _) _
      clear hww wi k0 k1
      have hB7 := hB6.trans (hb7.mono hB6.size)
      have hs7 := hB7.size
      have q5 := row_below q4 hb7 lq4
      have ck : w7.cell? ⟨bf, off + k, none⟩ = some (.int .i64 (wd (mapN zs) k : Nat)) := by
        rw [((hb5.trans (hb6.mono hb5.size)).trans (hb7.mono (hb5.trans (hb6.mono hb5.size)).size)).cell (p := ⟨bf, off + k, none⟩) hbf3]
        exact HC.out k (by rw [HM.out.len]; exact hk)
      have hfk := HM.out.lt k hk
      have h1 := fdn k hk
      have h2 := fup k hk
      clear fdn fup HC HM hzi
      generalize wd (mapN zs) k = v at *
      have k0 := cell_regrown (q5.cell (i := 0) rfl)
      have k1 := cell_regrown (q5.cell (i := 1) rfl)
      have k2 := cell_regrown ck
      clear ck
      have c1 : ∀ r, hasB (wd us v) k = r → ∀ d os, _ := fun r hr d os => kbelow_q us.length a cap us n₀ hf hl16 w7 (hwW hB7) (hnW hB7) v k r hfk hk hr d os
      have c2 : ∀ r, hasB (wd us y) k = r → ∀ d os, _ := fun r hr d os => kbelow_q us.length a cap us n₀ hf hl16 w7 (hwW hB7) (hnW hB7) y k r hy hk hr d os
      have c3 : ∀ r, hasB (wd us k) v = r → ∀ d os, _ := fun r hr d os => kbelow_q us.length a cap us n₀ hf hl16 w7 (hwW hB7) (hnW hB7) k v r hk hfk hr d os
      have c4 : ∀ r, hasB (wd us k) z = r → ∀ d os, _ := fun r hr d os => kbelow_q us.length a cap us n₀ hf hl16 w7 (hwW hB7) (hnW hB7) k z r hk hz' hr d os
      unfold leW at h1 h2
      cases g1 : hasB (wd us v) k <;> cases g3 : hasB (wd us k) v
      all_goals
        have c1 := c1 _ g1
        have c3 := c3 _ g3
        first
        | have c2 := c2 _ (h1 g1)
        | clear c2
        first
        | have c4 := c4 _ (h2 g3)
        | clear c4
        clear h1 h2 g1 g3
        go_wp2_with fail
        refine wp_region_quiet_below (by kernel_rfl) (by kernel_rfl) ?_
        repeat (go_big_quiet_step (first | with_reducible exact c1 _ _ | with_reducible exact c2 _ _ | with_reducible exact c3 _ _ | with_reducible exact c4 _ _))
        refine wpQuiet_nil ?_
        intro _ hw'
        obtain ⟨⟨dq, osq⟩, hw''⟩ := hw'
        subst hw''
        go_wp2_with fail
        go_ret
        exact ⟨rfl, hB7.trans ((below_regrown _ dq osq).mono hs7)⟩
  · have hh2 := hh2.resolve_right fun h => h0 h.1
    obtain ⟨_, rfl⟩ := hh2
    have e1 : (c != 0) = true := by rw [bne_iff_ne]; exact h0
    have e0 : (c == c) = true := by simp
    have s5 := s3'.mono (R' := fun e w' => e = Ending.returned (.tuple #[.int .i64 0, .int .i64 0, .int .i64 c]) ∧ Below w2.heap.size w2 w') (fun e w' h => ⟨(h.2.resolve_right fun h' => h0 h'.1).2, h.1⟩)
    clear h0 s3' hmap hmo hord
    go_wp2_with fail
    with_reducible refine s5.mono ?_
    rintro e w4 ⟨rfl, hb4⟩
    go_wp2_with fail
    go_ret
    exact ⟨rfl, hB2.trans (hb4.mono hB2.size)⟩

/-- **FixedTarski answers true, for every order, any numbers and any element, and writes nothing that was there** -/
theorem ftar_any (n : Int) (a : Option Addr) (cap : Nat) (us : List Nat) (ag : Option Addr) (cg : Nat) (zs : List Int) (x : Int) (n₀ : Nat) (hf : Fit us) (h63 : zs.length ≤ 9223372036854775807) (w : World) (hT : TabAt w) (hw : IsWords n₀ w a us) (hz : ZInts n₀ w ag zs) (hg : 0 < n₀) (hn₀ : n₀ ≤ w.heap.size) :
    Calls Tryd.prog 4 #[.agg #[.int .i64 n, .slice a us.length cap], .slice ag zs.length cg, .int .i64 x] w fun e w' => e = .returned (.bool true) ∧ Below w.heap.size w w' := by
  by_cases hc : fixCode n us zs = 0
  · by_cases h0 : codeOf n us = 0
    · have en := (code_zero h0).2.2.1.symm
      subst en
      rw [fixCode_map h0] at hc
      exact ftar_yes a cap us ag cg zs x n₀ hf h63 w hT hw hz hg hn₀ h0 hc
    · rw [fixCode_bad h0] at hc; exact absurd hc h0
  · exact ftar_no n a cap us ag cg zs x n₀ hf h63 w hT hw hz hg hn₀ hc
end Go.Proofs.YtemabboecmkoaaaDoor
