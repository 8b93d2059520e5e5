/- The walk of the law FixedDual: it answers true, and writes nothing that was there. -/
import Derived.Test.YtemabboecmkoaaaDoorFixMore
import Derived.Test.YtemabboecmkoaaaDoorDual
namespace Go.Proofs.YtemabboecmkoaaaDoor
open Go.RowKit Go.Shelf

set_option maxRecDepth 100000 in
set_option maxHeartbeats 2000000 in
theorem fdual_no (n : Int) (a : Option Addr) (cap : Nat) (us : List Nat) (ag : Option Addr) (cg : Nat) (zs : List Int) (n₀ : Nat) (hf : Fit us) (h63 : zs.length ≤ 9223372036854775807) (w : World) (hT : TabAt w) (hw : IsWords n₀ w a us) (hz : ZInts n₀ w ag zs) (hg : 0 < n₀) (hn₀ : n₀ ≤ w.heap.size) (hc : fixCode n us zs ≠ 0) :
    Calls Tryd.prog 3 #[.agg #[.int .i64 n, .slice a us.length cap], .slice ag zs.length cg] w fun e w' => e = .returned (.bool true) ∧ Below w.heap.size w w' := by
  have hTW : ∀ {W}, Below w.heap.size w W → TabAt W := fun hW => hT.below hW (by omega)
  have hwW : ∀ {W}, Below w.heap.size w W → IsWords n₀ W a us := fun hW => hw.below (hW.mono hn₀)
  have hzW : ∀ {W}, Below w.heap.size w W → ZInts n₀ W ag zs := fun hW => hz.below (hW.mono hn₀)
  have hnW : ∀ {W}, Below w.heap.size w W → n₀ ≤ W.heap.size := fun hW => by have := hW.size; omega
  obtain ⟨r0, hb0, hs0⟩ := one_row w 24 (.int .i64 n) (.slice a us.length cap) rfl
  have s1 := mapped_any n a cap us ag cg zs n₀ hf h63 _ (hwW hb0) (hzW hb0) (hnW hb0)
  have s2 : ∀ W, Below w.heap.size w W → _ := fun W hW => FCheck_any n a cap us ag cg zs n₀ hf h63 W (hTW hW) (hwW hW) (hzW hW) hg (hnW hW)
  have e1 : (fixCode n us zs == 0) = false := by rw [beq_eq_false_iff_ne]; exact hc
  have e2 : (fixCode n us zs != 0) = true := by rw [bne_iff_ne]; exact hc
  rw [e1] at s1
  have lt0 := r0.lt
  clear hc e1
  generalize fixCode n us zs = c at *
  go_enter Tryd.func3, Tryd.ntmps3
  go_wp2_with fail
  with_reducible refine s1.mono ?_
  rintro e w1 ⟨rfl, hb1⟩
  have q0 := row_below r0 hb1 lt0
  have j0 := q0.cell (i := 0) rfl
  have j1 := q0.cell (i := 1) rfl
  have hB1 : Below w.heap.size w w1 := hb0.trans (hb1.mono (by omega))
  go_wp2_with fail
  with_reducible refine (s2 w1 hB1).mono ?_
  rintro e w2 ⟨rfl, hb2⟩
  go_wp2_with fail
  go_ret
  exact ⟨rfl, hB1.trans (hb2.mono hB1.size)⟩

set_option maxRecDepth 100000 in
set_option maxHeartbeats 4000000 in
theorem fdual_yes (a : Option Addr) (cap : Nat) (us : List Nat) (ag : Option Addr) (cg : Nat) (zs : List Int) (n₀ : Nat) (hf : Fit us) (h63 : zs.length ≤ 9223372036854775807) (w : World) (hT : TabAt w) (hw : IsWords n₀ w a us) (hz : ZInts n₀ w ag zs) (hg : 0 < n₀) (hn₀ : n₀ ≤ w.heap.size) (hc : codeOf us.length us = 0) (hm : mapCode us zs = 0) :
    Calls Tryd.prog 3 #[.agg #[.int .i64 us.length, .slice a us.length cap], .slice ag zs.length cg] w fun e w' => e = .returned (.bool true) ∧ Below w.heap.size w w' := by
  have hTW : ∀ {W}, Below w.heap.size w W → TabAt W := fun hW => hT.below hW (by omega)
  have hwW : ∀ {W}, Below w.heap.size w W → IsWords n₀ W a us := fun hW => hw.below (hW.mono hn₀)
  have hzW : ∀ {W}, Below w.heap.size w W → ZInts n₀ W ag zs := fun hW => hz.below (hW.mono hn₀)
  have hnW : ∀ {W}, Below w.heap.size w W → n₀ ≤ W.heap.size := fun hW => by have := hW.size; omega
  have hord := (code_zero hc).2.2.2.2
  obtain ⟨hI, hmo⟩ := mapCode_zero hm
  have hmap := into_map hI
  have HZ := hide (intoB_true.1 hI).1
  have hzi : ∀ {W}, Below w.heap.size w W → IsInts n₀ W ag (mapN zs) := fun hW => mapN_ints (intoB_true.1 hI).2 (hzW hW)
  obtain ⟨r0, hb0, hs0⟩ := one_row w 24 (.int .i64 us.length) (.slice a us.length cap) rfl
  have s1 := mapped_any us.length a cap us ag cg zs n₀ hf h63 _ (hwW hb0) (hzW hb0) (hnW hb0)
  have s2 : ∀ W, Below w.heap.size w W → _ := fun W hW => Dual_ok us.length a cap us n₀ hf W (hTW hW) (hwW hW) hg (hnW hW) hc
  have s3 : ∀ W, Below w.heap.size w W → _ := fun W hW => Great_all us.length a cap us ag cg zs n₀ hf h63 W (hTW hW) (hwW hW) (hzW hW) hg (hnW hW)
  have s4 : ∀ W g ds, Below w.heap.size w W → Row W g 55 (wvals ds) → Tur us us.length [] ds → Calls Tryd.prog 13 #[.agg #[.int .i64 us.length, .slice (some ⟨g, 0, none⟩) us.length us.length], .slice ag zs.length cg] W fun e w' => Below W.heap.size W w' ∧ ((endCode us.length us zs ≠ 0 ∧ e = endErr (endCode us.length us zs)) ∨ (endCode us.length us zs = 0 ∧ ∃ b y K, IsTop us b ∧ ComesTo (mapN zs) b y K ∧ e = .returned (.tuple #[.int .i64 (y : Nat), .int .i64 (K : Nat), .int .i64 0]))) := fun W g ds hW hr hD => by
    have h := Least_all us.length (some ⟨g, 0, none⟩) us.length ds ag cg zs W.heap.size hD.fit h63 W (hTW hW) (hr.words hr.lt) ((hzW hW).mono (hnW hW)) (by have := hnW hW; omega) (Nat.le_refl _)
    rw [hD.len, tur_end hf hc hm hD] at h
    refine h.mono ?_
    rintro e w' ⟨hb, hh⟩
    refine ⟨hb, hh.imp id ?_⟩
    rintro ⟨h0, b, y, K, hbot, hcb, _, _, he⟩
    exact ⟨h0, b, y, K, tur_bot hD hbot, hcb, he⟩
  rw [fixCode_map hc, hm] at s1
  unfold endErr at s3 s4
  have lt0 := r0.lt
  clear hc hm hI
  generalize endCode us.length us zs = c at *
  go_enter Tryd.func3, Tryd.ntmps3
  go_wp2_with fail
  with_reducible refine s1.mono ?_
  rintro e w1 ⟨rfl, hb1⟩
  have q0 := row_below r0 hb1 lt0
  have lq0 := q0.lt
  have j0 := q0.cell (i := 0) rfl
  have j1 := q0.cell (i := 1) rfl
  have hB1 : Below w.heap.size w w1 := hb0.trans (hb1.mono (by omega))
  have s2' := s2 w1 hB1
  clear s1 s2
  go_wp2_with fail
  with_reducible refine s2'.mono ?_
  rintro e w2 ⟨g, ds, rfl, hb2, hge, rD, hD⟩
  clear j0 j1 s2'
  have q1 := row_below q0 hb2 lq0
  have lq1 := q1.lt
  have hB2 : Below w.heap.size w w2 := hB1.trans (hb2.mono hB1.size)
  obtain ⟨V, hV⟩ : ∃ V, V = w2.alloc (.cells #[.int .i64 us.length, .slice (some ⟨g, 0, none⟩) us.length us.length] 24) := ⟨_, rfl⟩
  have hA : Below w2.heap.size w2 V := by rw [hV]; exact (Below.refl _ _).alloc (Nat.le_refl _) _
  have hBV := hB2.trans (hA.mono hB2.size)
  have q2 := row_below q1 hA lq1
  have lq2 := q2.lt
  have rD2 := row_below rD hA rD.lt
  have zd : Row V w2.heap.size 24 [.int .i64 us.length, .slice (some ⟨g, 0, none⟩) us.length us.length] := by rw [hV]; exact Row.new w2 _ _
  have lzd := zd.lt
  have s3' := s3 V hBV
  have j0 := q1.cell (i := 0) rfl
  have j1 := q1.cell (i := 1) rfl
  rw [hV] at s3'
  clear s3
  go_wp2_with fail
  with_reducible refine s3'.mono ?_
  rw [← hV]
  rintro e w3 ⟨hb3, hh3⟩
  clear hV s3' j0 j1
  have hB3 := hBV.trans (hb3.mono hBV.size)
  have zd3 := row_below zd hb3 lzd
  have rD3 := row_below rD2 hb3 rD2.lt
  have q3 := row_below q2 hb3 lq2
  have s4' := s4 w3 g ds hB3 rD3 hD
  have k0 := zd3.cell (i := 0) rfl
  have k1 := zd3.cell (i := 1) rfl
  have lzd3 := zd3.lt
  have lq3 := q3.lt
  have e0 : (c == c) = true := by simp
  clear s4 zd rD2 rD3 q2 q1 q0 lq0 lq1 lq2 lzd
  by_cases h0 : c = 0
  · rcases hh3 with ⟨hx, _⟩ | ⟨_, t, y, K, htop, hct, hK, hy, rfl⟩
    · exact absurd h0 hx
    obtain ⟨bf, off, hag, hbf, hcf⟩ := (hzi hB3).at (i := y) (by rw [hmap.len]; exact hy)
    subst hag
    subst h0
    clear e0
    go_wp2_with fail
    with_reducible refine s4'.mono ?_
    rintro e w4 ⟨hb4, hh4⟩
    rcases hh4 with ⟨hx, _⟩ | ⟨_, t', y', K', htop', hct', rfl⟩
    · exact absurd rfl hx
    obtain rfl := top_one hord htop htop'
    obtain ⟨rfl, rfl⟩ := hct.unique hct'
    have hB4 := hB3.trans (hb4.mono hB3.size)
    have hcy : w4.cell? ⟨bf, off + y, none⟩ = some (.int .i64 (y : Nat)) := by
      have h1 := hcf y (by rw [hmap.len]; exact hy)
      rw [hct.stay] at h1
      rw [hb4.cell (p := ⟨bf, off + y, none⟩) (by have := hnW hB3; show bf < _; omega)]
      exact h1
    have hbf4 : bf < w4.heap.size := by have := hnW hB4; omega
    have hyz : y < zs.length := by rw [HZ.out]; exact hy
    have q4 := row_below q3 hb4 lq3
    have lq4 := q4.lt
    have m0 := q4.cell (i := 0) rfl
    have wi := kwithin1 us.length (y : Int) w4
    rw [allInB_true.2 (allIn1.2 ⟨by omega, by omega⟩)] at wi
    have e1 : ((y : Int) == (y : Int)) = true := by simp
    have e2 : ((K : Int) == (K : Int)) = true := by simp
    clear hcf hct hct' htop htop' hmap hmo hord hy s4' k0 k1
    go_wp2_with fail
    with_reducible refine wi.mono ?_
    rintro e w5 ⟨rfl, hww⟩
    rw [hww]
    clear hww w5
    go_wp2_with fail
    go_ret
    exact ⟨rfl, hB4.alloc (by have := hB4.size; omega) _⟩
  · have hh3 := hh3.resolve_right fun h => h0 h.1
    obtain ⟨_, rfl⟩ := hh3
    have e1 : (c != 0) = true := by rw [bne_iff_ne]; exact h0
    have s5 := s4'.mono (R' := fun e w' => e = Ending.returned (.tuple #[.int .i64 0, .int .i64 0, .int .i64 c]) ∧ Below w3.heap.size w3 w') (fun e w' h => ⟨(h.2.resolve_right fun h' => h0 h'.1).2, h.1⟩)
    clear h0 s4' hmap hmo hord
    go_wp2_with fail
    with_reducible refine s5.mono ?_
    rintro e w4 ⟨rfl, hb4⟩
    go_wp2_with fail
    go_ret
    exact ⟨rfl, hB3.trans (hb4.mono hB3.size)⟩

/-- **FixedDual answers true, for every order and any numbers, and writes nothing that was there** -/
theorem fdual_any (n : Int) (a : Option Addr) (cap : Nat) (us : List Nat) (ag : Option Addr) (cg : Nat) (zs : List Int) (n₀ : Nat) (hf : Fit us) (h63 : zs.length ≤ 9223372036854775807) (w : World) (hT : TabAt w) (hw : IsWords n₀ w a us) (hz : ZInts n₀ w ag zs) (hg : 0 < n₀) (hn₀ : n₀ ≤ w.heap.size) :
    Calls Tryd.prog 3 #[.agg #[.int .i64 n, .slice a us.length cap], .slice ag zs.length cg] w fun e w' => e = .returned (.bool true) ∧ Below w.heap.size w w' := by
  by_cases hc : fixCode n us zs = 0
  · by_cases h0 : codeOf n us = 0
    · have en := (code_zero h0).2.2.1.symm
      subst en
      rw [fixCode_map h0] at hc
      exact fdual_yes a cap us ag cg zs n₀ hf h63 w hT hw hz hg hn₀ h0 hc
    · rw [fixCode_bad h0] at hc; exact absurd hc h0
  · exact fdual_no n a cap us ag cg zs n₀ hf h63 w hT hw hz hg hn₀ hc
end Go.Proofs.YtemabboecmkoaaaDoor
