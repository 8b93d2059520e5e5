/- The walk of the law TimesLattice: it answers true, and writes nothing that was there. -/
import Derived.Test.YtgoipkjledmnjaaTimAlike
namespace Go.Proofs.Ytgoipkjledmnjaa
open Go.RowKit Go.Shelf

theorem jlen {up : Bool} {a b : List Int} {L : Nat} (h : a.length = L) : (joinT up a b).length = L := by rw [joinT_len]; exact h
theorem jcode {up : Bool} {a b : List Int} {L : Nat} (h1 : a.length = L) (h2 : b.length = L) (g1 : codeT a = 0) (g2 : codeT b = 0) : codeT (joinT up a b) = 0 := joinT_code (codeP_ok g1 g2 (h1.trans h2.symm))
theorem jt_comm {up : Bool} {a b : List Int} (h : a.length = b.length) : joinT up a b = joinT up b a :=
  zd_ext (by rw [joinT_len, joinT_len, h]) fun i hi => by
    rw [joinT_len] at hi
    rw [zd_joinP hi, zd_joinP (by omega)]
    unfold pickZ; cases up <;> simp <;> omega
theorem jt_assoc {up : Bool} {a b c : List Int} {L : Nat} (h1 : a.length = L) (h2 : b.length = L) (h3 : c.length = L) : joinT up (joinT up a b) c = joinT up a (joinT up b c) :=
  zd_ext (by rw [joinT_len, joinT_len, joinT_len]) fun i hi => by
    rw [joinT_len, joinT_len] at hi
    rw [zd_joinP (by rw [joinT_len]; exact hi), zd_joinP hi, zd_joinP hi, zd_joinP (by omega)]
    unfold pickZ; cases up <;> simp <;> omega
theorem jt_absorbT {a b : List Int} : joinT false a (joinT true a b) = a :=
  zd_ext (by rw [joinT_len]) fun i hi => by
    rw [joinT_len] at hi
    rw [zd_joinP hi, zd_joinP hi]
    unfold pickZ; simp; omega
theorem jt_absorbF {a b : List Int} : joinT true a (joinT false a b) = a :=
  zd_ext (by rw [joinT_len]) fun i hi => by
    rw [joinT_len] at hi
    rw [zd_joinP hi, zd_joinP hi]
    unfold pickZ; simp; omega
theorem jt_distrT {a b c : List Int} {L : Nat} (h1 : a.length = L) (h2 : b.length = L) (h3 : c.length = L) : joinT false a (joinT true b c) = joinT true (joinT false a b) (joinT false a c) :=
  zd_ext (by rw [joinT_len, joinT_len, joinT_len]) fun i hi => by
    rw [joinT_len] at hi
    rw [zd_joinP hi, zd_joinP (by omega), zd_joinP (by rw [joinT_len]; exact hi), zd_joinP hi, zd_joinP hi]
    unfold pickZ; simp; omega
theorem jt_distrF {a b c : List Int} {L : Nat} (h1 : a.length = L) (h2 : b.length = L) (h3 : c.length = L) : joinT true a (joinT false b c) = joinT false (joinT true a b) (joinT true a c) :=
  zd_ext (by rw [joinT_len, joinT_len, joinT_len]) fun i hi => by
    rw [joinT_len] at hi
    rw [zd_joinP hi, zd_joinP (by omega), zd_joinP (by rw [joinT_len]; exact hi), zd_joinP hi, zd_joinP hi]
    unfold pickZ; simp; omega
theorem leq_join {a b : List Int} {L : Nat} (h1 : a.length = L) (h2 : b.length = L) (g1 : codeT a = 0) (g2 : codeT b = 0) : sameB (joinT true a b) b = leqT a b := by
  rw [Bool.eq_iff_iff, sameB_true, leqT_true]
  constructor
  · intro h
    refine ⟨codeP_ok g1 g2 (h1.trans h2.symm), fun i hi => ?_⟩
    have e := zd_joinP (up := true) (b := b) hi
    rw [h] at e
    rw [e]; unfold pickZ; simp; omega
  · rintro ⟨_, h⟩
    refine zd_ext (by rw [joinT_len, h1, h2]) fun i hi => ?_
    rw [joinT_len] at hi
    have := h i hi
    rw [zd_joinP hi]; unfold pickZ; simp; omega
theorem leq_meet {a b : List Int} {L : Nat} (h1 : a.length = L) (h2 : b.length = L) (g1 : codeT a = 0) (g2 : codeT b = 0) : sameB (joinT false a b) a = leqT a b := by
  rw [Bool.eq_iff_iff, sameB_true, leqT_true]
  constructor
  · intro h
    refine ⟨codeP_ok g1 g2 (h1.trans h2.symm), fun i hi => ?_⟩
    have e := zd_joinP (up := false) (b := b) hi
    rw [h] at e
    rw [e]; unfold pickZ; simp; omega
  · rintro ⟨_, h⟩
    refine zd_ext (by rw [joinT_len]) fun i hi => ?_
    rw [joinT_len] at hi
    have := h i hi
    rw [zd_joinP hi]; unfold pickZ; simp; omega

theorem kjoinedL (up : Bool) (L : Nat) (a : Option Addr) (ca : Nat) (zs : List Int) (b : Option Addr) (cb : Nat) (ys : List Int) (h1 : zs.length = L) (h2 : ys.length = L) (h4 : L ≤ 4) (n₀ : Nat) (g1 : codeT zs = 0) (g2 : codeT ys = 0) (w : World) (hz : ZInts n₀ w a zs) (hy : ZInts n₀ w b ys) (hn₀ : n₀ ≤ w.heap.size) :
    Calls Try.prog 34 #[.slice a L ca, .slice b L cb, .bool up] w fun e w' => ∃ B, e = .returned (.slice (some ⟨B, 0, none⟩) L L) ∧ Below w.heap.size w w' ∧ w.heap.size ≤ B ∧ Row w' B 3 (zvals (joinT up zs ys)) := by
  have h := kjoined_any up a ca zs b cb ys n₀ (by omega) (by omega) (codeP_ok g1 g2 (h1.trans h2.symm)) w hz hy hn₀
  rw [h1, h2] at h
  exact h
theorem rtsameQ (L : Nat) (a : Option Addr) (ca : Nat) (zs : List Int) (b : Option Addr) (cb : Nat) (ys : List Int) (h1 : zs.length = L) (h2 : ys.length = L) (h4 : L ≤ 4) (n₀ : Nat) (q : Bool) (hq : sameB zs ys = q) (w : World) (hz : ZInts n₀ w a zs) (hy : ZInts n₀ w b ys) (hn₀ : n₀ ≤ w.heap.size) :
    Calls Try.prog 18 #[.slice a L ca, .slice b L cb] w fun e w' => e = .returned (.bool q) ∧ Below w.heap.size w w' := by
  have h := rtsame_any a ca zs b cb ys n₀ (by omega) w hz hy hn₀
  rw [h1, h2, hq] at h
  exact h
theorem rtsameL (L : Nat) (a : Option Addr) (ca : Nat) (zs : List Int) (b : Option Addr) (cb : Nat) (ys : List Int) (h1 : zs.length = L) (h2 : ys.length = L) (h4 : L ≤ 4) (n₀ : Nat) (he : zs = ys) (w : World) (hz : ZInts n₀ w a zs) (hy : ZInts n₀ w b ys) (hn₀ : n₀ ≤ w.heap.size) :
    Calls Try.prog 18 #[.slice a L ca, .slice b L cb] w fun e w' => e = .returned (.bool true) ∧ Below w.heap.size w w' :=
  rtsameQ L a ca zs b cb ys h1 h2 h4 n₀ true (sameB_true.2 he) w hz hy hn₀
theorem tleqL (L : Nat) (a : Option Addr) (ca : Nat) (zs : List Int) (b : Option Addr) (cb : Nat) (ys : List Int) (h1 : zs.length = L) (h2 : ys.length = L) (h4 : L ≤ 4) (n₀ : Nat) (w : World) (hz : ZInts n₀ w a zs) (hy : ZInts n₀ w b ys) (hn₀ : n₀ ≤ w.heap.size) :
    Calls Try.prog 14 #[.slice a L ca, .slice b L cb] w fun e w' => e = .returned (.bool (leqT zs ys)) ∧ Below w.heap.size w w' := by
  have h := tleq_any a ca zs b cb ys n₀ (by omega) (by omega) w hz hy hn₀
  rw [h1, h2] at h
  exact h

set_option maxRecDepth 100000 in
set_option maxHeartbeats 16000000 in
theorem tlat_yes (L : Nat) (a : Option Addr) (ca : Nat) (zs : List Int) (b : Option Addr) (cb : Nat) (ys : List Int) (c : Option Addr) (cc : Nat) (xs : List Int) (hl1 : zs.length = L) (hl2 : ys.length = L) (hl3 : xs.length = L) (h4 : L ≤ 4) (w : World) (hz : ZInts w.heap.size w a zs) (hy : ZInts w.heap.size w b ys) (hx : ZInts w.heap.size w c xs) (g1 : codeT zs = 0) (g2 : codeT ys = 0) (g3 : codeT xs = 0)
    (sA : Calls Try.prog 33 #[.slice (some ⟨w.heap.size, 0, none⟩) 3 3] (w.alloc (.cells #[.slice a L ca, .slice b L cb, .slice c L cc] 22)) fun e w' => e = .returned (.bool true) ∧ Below w.heap.size w w') :
    Calls Try.prog 6 #[.slice a L ca, .slice b L cb, .slice c L cc] w fun e w' => e = .returned (.bool true) ∧ Below w.heap.size w w' := by
  have HH := hide (show (zs.length = L ∧ ys.length = L ∧ xs.length = L) ∧ codeT zs = 0 ∧ codeT ys = 0 ∧ codeT xs = 0 from ⟨⟨hl1, hl2, hl3⟩, g1, g2, g3⟩)
  clear hl1 hl2 hl3 g1 g2 g3
  go_enter Try.func6, Try.ntmps6
  go_wp2_with fail
  with_reducible refine sA.mono ?_
  rintro e wa ⟨rfl, hBa⟩
  clear sA
  go_wp2_with fail
  go_loopw [7] (fun i wr => ∃ k : Nat, k ≤ 2 ∧ i = .int .i64 k ∧ Below w.heap.size w wr) (fun i _ => 2 - (intOf i).toNat)
  case atStart => exact ⟨0, by omega, rfl, hBa⟩
  case round =>
    clear hBa
    obtain ⟨k, hk, rfl, hB0⟩ := hrel
    obtain ⟨⟨hl1, hl2, hl3⟩, g1, g2, g3⟩ := HH.out
    have HL1 := hide hl1
    have HL2 := hide hl2
    have HL3 := hide hl3
    match k, hk with
    | 0, _ =>
      go_wp2_with fail
      with_reducible refine (kjoinedL true L a ca zs b cb ys hl1 hl2 h4 wr.heap.size g1 g2 wr ((hz.below hB0).mono hB0.size) ((hy.below hB0).mono hB0.size) (Nat.le_refl _)).mono ?_
      rintro e v1 ⟨B1, rfl, hbn, hge, rB⟩
      have hJ1 := rB.z (n₀ := v1.heap.size) rB.lt
      have hB0 := hB0.trans (hbn.mono hB0.size)
      clear hbn
      have hD1 := Below.refl v1.heap.size v1
      clear hge rB
      go_wp2_with fail
      with_reducible refine (kjoinedL true L b cb ys c cc xs hl2 hl3 h4 v1.heap.size g2 g3 v1 ((hy.below hB0).mono hB0.size) ((hx.below hB0).mono hB0.size) (Nat.le_refl _)).mono ?_
      rintro e v2 ⟨B2, rfl, hbn, hge, rB⟩
      have hJ2 := rB.z (n₀ := v2.heap.size) rB.lt
      have hB0 := hB0.trans (hbn.mono hB0.size)
      have hD1 := hD1.trans (hbn.mono hD1.size)
      clear hbn
      have hD2 := Below.refl v2.heap.size v2
      clear hge rB
      go_wp2_with fail
      with_reducible refine (kjoinedL true L b cb ys a ca zs hl2 hl1 h4 v2.heap.size g2 g1 v2 ((hy.below hB0).mono hB0.size) ((hz.below hB0).mono hB0.size) (Nat.le_refl _)).mono ?_
      rintro e v3 ⟨B3, rfl, hbn, hge, rB⟩
      have hJ3 := rB.z (n₀ := v3.heap.size) rB.lt
      have hB0 := hB0.trans (hbn.mono hB0.size)
      have hD1 := hD1.trans (hbn.mono hD1.size)
      have hD2 := hD2.trans (hbn.mono hD2.size)
      clear hbn
      have hD3 := Below.refl v3.heap.size v3
      clear hge rB
      go_wp2_with fail
      with_reducible refine (rtsameL L (some ⟨B1, 0, none⟩) L (joinT true zs ys) (some ⟨B3, 0, none⟩) L (joinT true ys zs) (jlen hl1) (jlen hl2) h4 v3.heap.size (jt_comm (hl1.trans hl2.symm)) v3 ((hJ1.below hD1).mono hD1.size) ((hJ3.below hD3).mono hD3.size) (Nat.le_refl _)).mono ?_
      rintro e v4 ⟨rfl, hbn⟩
      have hB0 := hB0.trans (hbn.mono hB0.size)
      have hD1 := hD1.trans (hbn.mono hD1.size)
      have hD2 := hD2.trans (hbn.mono hD2.size)
      have hD3 := hD3.trans (hbn.mono hD3.size)
      clear hbn
      clear hJ3 hD3
      go_wp2_with fail
      with_reducible refine (kjoinedL true L (some ⟨B1, 0, none⟩) L (joinT true zs ys) c cc xs (jlen hl1) hl3 h4 v4.heap.size (jcode (up := true) hl1 hl2 g1 g2) g3 v4 ((hJ1.below hD1).mono hD1.size) ((hx.below hB0).mono hB0.size) (Nat.le_refl _)).mono ?_
      rintro e v5 ⟨B5, rfl, hbn, hge, rB⟩
      have hJ5 := rB.z (n₀ := v5.heap.size) rB.lt
      have hB0 := hB0.trans (hbn.mono hB0.size)
      have hD1 := hD1.trans (hbn.mono hD1.size)
      have hD2 := hD2.trans (hbn.mono hD2.size)
      clear hbn
      have hD5 := Below.refl v5.heap.size v5
      clear hge rB
      go_wp2_with fail
      with_reducible refine (kjoinedL true L a ca zs (some ⟨B2, 0, none⟩) L (joinT true ys xs) hl1 (jlen hl2) h4 v5.heap.size g1 (jcode (up := true) hl2 hl3 g2 g3) v5 ((hz.below hB0).mono hB0.size) ((hJ2.below hD2).mono hD2.size) (Nat.le_refl _)).mono ?_
      rintro e v6 ⟨B6, rfl, hbn, hge, rB⟩
      have hJ6 := rB.z (n₀ := v6.heap.size) rB.lt
      have hB0 := hB0.trans (hbn.mono hB0.size)
      have hD1 := hD1.trans (hbn.mono hD1.size)
      have hD2 := hD2.trans (hbn.mono hD2.size)
      have hD5 := hD5.trans (hbn.mono hD5.size)
      clear hbn
      have hD6 := Below.refl v6.heap.size v6
      clear hge rB
      go_wp2_with fail
      with_reducible refine (rtsameL L (some ⟨B5, 0, none⟩) L (joinT true (joinT true zs ys) xs) (some ⟨B6, 0, none⟩) L (joinT true zs (joinT true ys xs)) (jlen (jlen hl1)) (jlen hl1) h4 v6.heap.size (jt_assoc hl1 hl2 hl3) v6 ((hJ5.below hD5).mono hD5.size) ((hJ6.below hD6).mono hD6.size) (Nat.le_refl _)).mono ?_
      rintro e v7 ⟨rfl, hbn⟩
      have hB0 := hB0.trans (hbn.mono hB0.size)
      have hD1 := hD1.trans (hbn.mono hD1.size)
      have hD2 := hD2.trans (hbn.mono hD2.size)
      have hD5 := hD5.trans (hbn.mono hD5.size)
      have hD6 := hD6.trans (hbn.mono hD6.size)
      clear hbn
      clear hJ5 hD5
      clear hJ6 hD6
      go_wp2_with fail
      with_reducible refine (kjoinedL false L a ca zs (some ⟨B1, 0, none⟩) L (joinT true zs ys) hl1 (jlen hl1) h4 v7.heap.size g1 (jcode (up := true) hl1 hl2 g1 g2) v7 ((hz.below hB0).mono hB0.size) ((hJ1.below hD1).mono hD1.size) (Nat.le_refl _)).mono ?_
      rintro e v8 ⟨B8, rfl, hbn, hge, rB⟩
      have hJ8 := rB.z (n₀ := v8.heap.size) rB.lt
      have hB0 := hB0.trans (hbn.mono hB0.size)
      have hD1 := hD1.trans (hbn.mono hD1.size)
      have hD2 := hD2.trans (hbn.mono hD2.size)
      clear hbn
      have hD8 := Below.refl v8.heap.size v8
      clear hge rB
      go_wp2_with fail
      with_reducible refine (rtsameL L (some ⟨B8, 0, none⟩) L (joinT false zs (joinT true zs ys)) a ca zs (jlen hl1) hl1 h4 v8.heap.size jt_absorbT v8 ((hJ8.below hD8).mono hD8.size) ((hz.below hB0).mono hB0.size) (Nat.le_refl _)).mono ?_
      rintro e v9 ⟨rfl, hbn⟩
      have hB0 := hB0.trans (hbn.mono hB0.size)
      have hD1 := hD1.trans (hbn.mono hD1.size)
      have hD2 := hD2.trans (hbn.mono hD2.size)
      have hD8 := hD8.trans (hbn.mono hD8.size)
      clear hbn
      clear hJ8 hD8
      go_wp2_with fail
      with_reducible refine (kjoinedL false L a ca zs (some ⟨B2, 0, none⟩) L (joinT true ys xs) hl1 (jlen hl2) h4 v9.heap.size g1 (jcode (up := true) hl2 hl3 g2 g3) v9 ((hz.below hB0).mono hB0.size) ((hJ2.below hD2).mono hD2.size) (Nat.le_refl _)).mono ?_
      rintro e v10 ⟨B10, rfl, hbn, hge, rB⟩
      have hJ10 := rB.z (n₀ := v10.heap.size) rB.lt
      have hB0 := hB0.trans (hbn.mono hB0.size)
      have hD1 := hD1.trans (hbn.mono hD1.size)
      have hD2 := hD2.trans (hbn.mono hD2.size)
      clear hbn
      have hD10 := Below.refl v10.heap.size v10
      clear hge rB
      go_wp2_with fail
      with_reducible refine (kjoinedL false L a ca zs b cb ys hl1 hl2 h4 v10.heap.size g1 g2 v10 ((hz.below hB0).mono hB0.size) ((hy.below hB0).mono hB0.size) (Nat.le_refl _)).mono ?_
      rintro e v11 ⟨B11, rfl, hbn, hge, rB⟩
      have hJ11 := rB.z (n₀ := v11.heap.size) rB.lt
      have hB0 := hB0.trans (hbn.mono hB0.size)
      have hD1 := hD1.trans (hbn.mono hD1.size)
      have hD2 := hD2.trans (hbn.mono hD2.size)
      have hD10 := hD10.trans (hbn.mono hD10.size)
      clear hbn
      have hD11 := Below.refl v11.heap.size v11
      clear hge rB
      go_wp2_with fail
      with_reducible refine (kjoinedL false L a ca zs c cc xs hl1 hl3 h4 v11.heap.size g1 g3 v11 ((hz.below hB0).mono hB0.size) ((hx.below hB0).mono hB0.size) (Nat.le_refl _)).mono ?_
      rintro e v12 ⟨B12, rfl, hbn, hge, rB⟩
      have hJ12 := rB.z (n₀ := v12.heap.size) rB.lt
      have hB0 := hB0.trans (hbn.mono hB0.size)
      have hD1 := hD1.trans (hbn.mono hD1.size)
      have hD2 := hD2.trans (hbn.mono hD2.size)
      have hD10 := hD10.trans (hbn.mono hD10.size)
      have hD11 := hD11.trans (hbn.mono hD11.size)
      clear hbn
      have hD12 := Below.refl v12.heap.size v12
      clear hge rB
      go_wp2_with fail
      with_reducible refine (kjoinedL true L (some ⟨B11, 0, none⟩) L (joinT false zs ys) (some ⟨B12, 0, none⟩) L (joinT false zs xs) (jlen hl1) (jlen hl1) h4 v12.heap.size (jcode (up := false) hl1 hl2 g1 g2) (jcode (up := false) hl1 hl3 g1 g3) v12 ((hJ11.below hD11).mono hD11.size) ((hJ12.below hD12).mono hD12.size) (Nat.le_refl _)).mono ?_
      rintro e v13 ⟨B13, rfl, hbn, hge, rB⟩
      have hJ13 := rB.z (n₀ := v13.heap.size) rB.lt
      have hB0 := hB0.trans (hbn.mono hB0.size)
      have hD1 := hD1.trans (hbn.mono hD1.size)
      have hD2 := hD2.trans (hbn.mono hD2.size)
      have hD10 := hD10.trans (hbn.mono hD10.size)
      have hD11 := hD11.trans (hbn.mono hD11.size)
      have hD12 := hD12.trans (hbn.mono hD12.size)
      clear hbn
      have hD13 := Below.refl v13.heap.size v13
      clear hge rB
      go_wp2_with fail
      with_reducible refine (rtsameL L (some ⟨B10, 0, none⟩) L (joinT false zs (joinT true ys xs)) (some ⟨B13, 0, none⟩) L (joinT true (joinT false zs ys) (joinT false zs xs)) (jlen hl1) (jlen (jlen hl1)) h4 v13.heap.size (jt_distrT hl1 hl2 hl3) v13 ((hJ10.below hD10).mono hD10.size) ((hJ13.below hD13).mono hD13.size) (Nat.le_refl _)).mono ?_
      rintro e v14 ⟨rfl, hbn⟩
      have hB0 := hB0.trans (hbn.mono hB0.size)
      have hD1 := hD1.trans (hbn.mono hD1.size)
      have hD2 := hD2.trans (hbn.mono hD2.size)
      have hD10 := hD10.trans (hbn.mono hD10.size)
      have hD11 := hD11.trans (hbn.mono hD11.size)
      have hD12 := hD12.trans (hbn.mono hD12.size)
      have hD13 := hD13.trans (hbn.mono hD13.size)
      clear hbn
      go_wp2_with fail
      go_roundw
      case rel => exact ⟨1, by omega, by go_num, hB0⟩
      case measure => simp [intOf]
    | 1, _ =>
      go_wp2_with fail
      with_reducible refine (kjoinedL false L a ca zs b cb ys hl1 hl2 h4 wr.heap.size g1 g2 wr ((hz.below hB0).mono hB0.size) ((hy.below hB0).mono hB0.size) (Nat.le_refl _)).mono ?_
      rintro e v1 ⟨B1, rfl, hbn, hge, rB⟩
      have hJ1 := rB.z (n₀ := v1.heap.size) rB.lt
      have hB0 := hB0.trans (hbn.mono hB0.size)
      clear hbn
      have hD1 := Below.refl v1.heap.size v1
      clear hge rB
      go_wp2_with fail
      with_reducible refine (kjoinedL false L b cb ys c cc xs hl2 hl3 h4 v1.heap.size g2 g3 v1 ((hy.below hB0).mono hB0.size) ((hx.below hB0).mono hB0.size) (Nat.le_refl _)).mono ?_
      rintro e v2 ⟨B2, rfl, hbn, hge, rB⟩
      have hJ2 := rB.z (n₀ := v2.heap.size) rB.lt
      have hB0 := hB0.trans (hbn.mono hB0.size)
      have hD1 := hD1.trans (hbn.mono hD1.size)
      clear hbn
      have hD2 := Below.refl v2.heap.size v2
      clear hge rB
      go_wp2_with fail
      with_reducible refine (kjoinedL false L b cb ys a ca zs hl2 hl1 h4 v2.heap.size g2 g1 v2 ((hy.below hB0).mono hB0.size) ((hz.below hB0).mono hB0.size) (Nat.le_refl _)).mono ?_
      rintro e v3 ⟨B3, rfl, hbn, hge, rB⟩
      have hJ3 := rB.z (n₀ := v3.heap.size) rB.lt
      have hB0 := hB0.trans (hbn.mono hB0.size)
      have hD1 := hD1.trans (hbn.mono hD1.size)
      have hD2 := hD2.trans (hbn.mono hD2.size)
      clear hbn
      have hD3 := Below.refl v3.heap.size v3
      clear hge rB
      go_wp2_with fail
      with_reducible refine (rtsameL L (some ⟨B1, 0, none⟩) L (joinT false zs ys) (some ⟨B3, 0, none⟩) L (joinT false ys zs) (jlen hl1) (jlen hl2) h4 v3.heap.size (jt_comm (hl1.trans hl2.symm)) v3 ((hJ1.below hD1).mono hD1.size) ((hJ3.below hD3).mono hD3.size) (Nat.le_refl _)).mono ?_
      rintro e v4 ⟨rfl, hbn⟩
      have hB0 := hB0.trans (hbn.mono hB0.size)
      have hD1 := hD1.trans (hbn.mono hD1.size)
      have hD2 := hD2.trans (hbn.mono hD2.size)
      have hD3 := hD3.trans (hbn.mono hD3.size)
      clear hbn
      clear hJ3 hD3
      go_wp2_with fail
      with_reducible refine (kjoinedL false L (some ⟨B1, 0, none⟩) L (joinT false zs ys) c cc xs (jlen hl1) hl3 h4 v4.heap.size (jcode (up := false) hl1 hl2 g1 g2) g3 v4 ((hJ1.below hD1).mono hD1.size) ((hx.below hB0).mono hB0.size) (Nat.le_refl _)).mono ?_
      rintro e v5 ⟨B5, rfl, hbn, hge, rB⟩
      have hJ5 := rB.z (n₀ := v5.heap.size) rB.lt
      have hB0 := hB0.trans (hbn.mono hB0.size)
      have hD1 := hD1.trans (hbn.mono hD1.size)
      have hD2 := hD2.trans (hbn.mono hD2.size)
      clear hbn
      have hD5 := Below.refl v5.heap.size v5
      clear hge rB
      go_wp2_with fail
      with_reducible refine (kjoinedL false L a ca zs (some ⟨B2, 0, none⟩) L (joinT false ys xs) hl1 (jlen hl2) h4 v5.heap.size g1 (jcode (up := false) hl2 hl3 g2 g3) v5 ((hz.below hB0).mono hB0.size) ((hJ2.below hD2).mono hD2.size) (Nat.le_refl _)).mono ?_
      rintro e v6 ⟨B6, rfl, hbn, hge, rB⟩
      have hJ6 := rB.z (n₀ := v6.heap.size) rB.lt
      have hB0 := hB0.trans (hbn.mono hB0.size)
      have hD1 := hD1.trans (hbn.mono hD1.size)
      have hD2 := hD2.trans (hbn.mono hD2.size)
      have hD5 := hD5.trans (hbn.mono hD5.size)
      clear hbn
      have hD6 := Below.refl v6.heap.size v6
      clear hge rB
      go_wp2_with fail
      with_reducible refine (rtsameL L (some ⟨B5, 0, none⟩) L (joinT false (joinT false zs ys) xs) (some ⟨B6, 0, none⟩) L (joinT false zs (joinT false ys xs)) (jlen (jlen hl1)) (jlen hl1) h4 v6.heap.size (jt_assoc hl1 hl2 hl3) v6 ((hJ5.below hD5).mono hD5.size) ((hJ6.below hD6).mono hD6.size) (Nat.le_refl _)).mono ?_
      rintro e v7 ⟨rfl, hbn⟩
      have hB0 := hB0.trans (hbn.mono hB0.size)
      have hD1 := hD1.trans (hbn.mono hD1.size)
      have hD2 := hD2.trans (hbn.mono hD2.size)
      have hD5 := hD5.trans (hbn.mono hD5.size)
      have hD6 := hD6.trans (hbn.mono hD6.size)
      clear hbn
      clear hJ5 hD5
      clear hJ6 hD6
      go_wp2_with fail
      with_reducible refine (kjoinedL true L a ca zs (some ⟨B1, 0, none⟩) L (joinT false zs ys) hl1 (jlen hl1) h4 v7.heap.size g1 (jcode (up := false) hl1 hl2 g1 g2) v7 ((hz.below hB0).mono hB0.size) ((hJ1.below hD1).mono hD1.size) (Nat.le_refl _)).mono ?_
      rintro e v8 ⟨B8, rfl, hbn, hge, rB⟩
      have hJ8 := rB.z (n₀ := v8.heap.size) rB.lt
      have hB0 := hB0.trans (hbn.mono hB0.size)
      have hD1 := hD1.trans (hbn.mono hD1.size)
      have hD2 := hD2.trans (hbn.mono hD2.size)
      clear hbn
      have hD8 := Below.refl v8.heap.size v8
      clear hge rB
      go_wp2_with fail
      with_reducible refine (rtsameL L (some ⟨B8, 0, none⟩) L (joinT true zs (joinT false zs ys)) a ca zs (jlen hl1) hl1 h4 v8.heap.size jt_absorbF v8 ((hJ8.below hD8).mono hD8.size) ((hz.below hB0).mono hB0.size) (Nat.le_refl _)).mono ?_
      rintro e v9 ⟨rfl, hbn⟩
      have hB0 := hB0.trans (hbn.mono hB0.size)
      have hD1 := hD1.trans (hbn.mono hD1.size)
      have hD2 := hD2.trans (hbn.mono hD2.size)
      have hD8 := hD8.trans (hbn.mono hD8.size)
      clear hbn
      clear hJ8 hD8
      go_wp2_with fail
      with_reducible refine (kjoinedL true L a ca zs (some ⟨B2, 0, none⟩) L (joinT false ys xs) hl1 (jlen hl2) h4 v9.heap.size g1 (jcode (up := false) hl2 hl3 g2 g3) v9 ((hz.below hB0).mono hB0.size) ((hJ2.below hD2).mono hD2.size) (Nat.le_refl _)).mono ?_
      rintro e v10 ⟨B10, rfl, hbn, hge, rB⟩
      have hJ10 := rB.z (n₀ := v10.heap.size) rB.lt
      have hB0 := hB0.trans (hbn.mono hB0.size)
      have hD1 := hD1.trans (hbn.mono hD1.size)
      have hD2 := hD2.trans (hbn.mono hD2.size)
      clear hbn
      have hD10 := Below.refl v10.heap.size v10
      clear hge rB
      go_wp2_with fail
      with_reducible refine (kjoinedL true L a ca zs b cb ys hl1 hl2 h4 v10.heap.size g1 g2 v10 ((hz.below hB0).mono hB0.size) ((hy.below hB0).mono hB0.size) (Nat.le_refl _)).mono ?_
      rintro e v11 ⟨B11, rfl, hbn, hge, rB⟩
      have hJ11 := rB.z (n₀ := v11.heap.size) rB.lt
      have hB0 := hB0.trans (hbn.mono hB0.size)
      have hD1 := hD1.trans (hbn.mono hD1.size)
      have hD2 := hD2.trans (hbn.mono hD2.size)
      have hD10 := hD10.trans (hbn.mono hD10.size)
      clear hbn
      have hD11 := Below.refl v11.heap.size v11
      clear hge rB
      go_wp2_with fail
      with_reducible refine (kjoinedL true L a ca zs c cc xs hl1 hl3 h4 v11.heap.size g1 g3 v11 ((hz.below hB0).mono hB0.size) ((hx.below hB0).mono hB0.size) (Nat.le_refl _)).mono ?_
      rintro e v12 ⟨B12, rfl, hbn, hge, rB⟩
      have hJ12 := rB.z (n₀ := v12.heap.size) rB.lt
      have hB0 := hB0.trans (hbn.mono hB0.size)
      have hD1 := hD1.trans (hbn.mono hD1.size)
      have hD2 := hD2.trans (hbn.mono hD2.size)
      have hD10 := hD10.trans (hbn.mono hD10.size)
      have hD11 := hD11.trans (hbn.mono hD11.size)
      clear hbn
      have hD12 := Below.refl v12.heap.size v12
      clear hge rB
      go_wp2_with fail
      with_reducible refine (kjoinedL false L (some ⟨B11, 0, none⟩) L (joinT true zs ys) (some ⟨B12, 0, none⟩) L (joinT true zs xs) (jlen hl1) (jlen hl1) h4 v12.heap.size (jcode (up := true) hl1 hl2 g1 g2) (jcode (up := true) hl1 hl3 g1 g3) v12 ((hJ11.below hD11).mono hD11.size) ((hJ12.below hD12).mono hD12.size) (Nat.le_refl _)).mono ?_
      rintro e v13 ⟨B13, rfl, hbn, hge, rB⟩
      have hJ13 := rB.z (n₀ := v13.heap.size) rB.lt
      have hB0 := hB0.trans (hbn.mono hB0.size)
      have hD1 := hD1.trans (hbn.mono hD1.size)
      have hD2 := hD2.trans (hbn.mono hD2.size)
      have hD10 := hD10.trans (hbn.mono hD10.size)
      have hD11 := hD11.trans (hbn.mono hD11.size)
      have hD12 := hD12.trans (hbn.mono hD12.size)
      clear hbn
      have hD13 := Below.refl v13.heap.size v13
      clear hge rB
      go_wp2_with fail
      with_reducible refine (rtsameL L (some ⟨B10, 0, none⟩) L (joinT true zs (joinT false ys xs)) (some ⟨B13, 0, none⟩) L (joinT false (joinT true zs ys) (joinT true zs xs)) (jlen hl1) (jlen (jlen hl1)) h4 v13.heap.size (jt_distrF hl1 hl2 hl3) v13 ((hJ10.below hD10).mono hD10.size) ((hJ13.below hD13).mono hD13.size) (Nat.le_refl _)).mono ?_
      rintro e v14 ⟨rfl, hbn⟩
      have hB0 := hB0.trans (hbn.mono hB0.size)
      have hD1 := hD1.trans (hbn.mono hD1.size)
      have hD2 := hD2.trans (hbn.mono hD2.size)
      have hD10 := hD10.trans (hbn.mono hD10.size)
      have hD11 := hD11.trans (hbn.mono hD11.size)
      have hD12 := hD12.trans (hbn.mono hD12.size)
      have hD13 := hD13.trans (hbn.mono hD13.size)
      clear hbn
      go_wp2_with fail
      go_roundw
      case rel => exact ⟨2, by omega, by go_num, hB0⟩
      case measure => simp [intOf]
    | 2, _ =>
      have eq : (leqT zs ys == leqT zs ys) = true := by simp
      go_wp2_with fail
      with_reducible refine (tleqL L a ca zs b cb ys hl1 hl2 h4 wr.heap.size wr ((hz.below hB0).mono hB0.size) ((hy.below hB0).mono hB0.size) (Nat.le_refl _)).mono ?_
      rintro e v1 ⟨rfl, hbn⟩
      have hB0 := hB0.trans (hbn.mono hB0.size)
      clear hbn
      go_wp2_with fail
      with_reducible refine (kjoinedL true L a ca zs b cb ys hl1 hl2 h4 v1.heap.size g1 g2 v1 ((hz.below hB0).mono hB0.size) ((hy.below hB0).mono hB0.size) (Nat.le_refl _)).mono ?_
      rintro e v2 ⟨B2, rfl, hbn, hge, rB⟩
      have hJ2 := rB.z (n₀ := v2.heap.size) rB.lt
      have hB0 := hB0.trans (hbn.mono hB0.size)
      clear hbn
      have hD2 := Below.refl v2.heap.size v2
      clear hge rB
      go_wp2_with fail
      with_reducible refine (rtsameQ L (some ⟨B2, 0, none⟩) L (joinT true zs ys) b cb ys (jlen hl1) hl2 h4 v2.heap.size (leqT zs ys) (leq_join hl1 hl2 g1 g2) v2 ((hJ2.below hD2).mono hD2.size) ((hy.below hB0).mono hB0.size) (Nat.le_refl _)).mono ?_
      rintro e v3 ⟨rfl, hbn⟩
      have hB0 := hB0.trans (hbn.mono hB0.size)
      have hD2 := hD2.trans (hbn.mono hD2.size)
      clear hbn
      clear hJ2 hD2
      go_wp2_with fail
      with_reducible refine (tleqL L a ca zs b cb ys hl1 hl2 h4 v3.heap.size v3 ((hz.below hB0).mono hB0.size) ((hy.below hB0).mono hB0.size) (Nat.le_refl _)).mono ?_
      rintro e v4 ⟨rfl, hbn⟩
      have hB0 := hB0.trans (hbn.mono hB0.size)
      clear hbn
      go_wp2_with fail
      with_reducible refine (kjoinedL false L a ca zs b cb ys hl1 hl2 h4 v4.heap.size g1 g2 v4 ((hz.below hB0).mono hB0.size) ((hy.below hB0).mono hB0.size) (Nat.le_refl _)).mono ?_
      rintro e v5 ⟨B5, rfl, hbn, hge, rB⟩
      have hJ5 := rB.z (n₀ := v5.heap.size) rB.lt
      have hB0 := hB0.trans (hbn.mono hB0.size)
      clear hbn
      have hD5 := Below.refl v5.heap.size v5
      clear hge rB
      go_wp2_with fail
      with_reducible refine (rtsameQ L (some ⟨B5, 0, none⟩) L (joinT false zs ys) a ca zs (jlen hl1) hl1 h4 v5.heap.size (leqT zs ys) (leq_meet hl1 hl2 g1 g2) v5 ((hJ5.below hD5).mono hD5.size) ((hz.below hB0).mono hB0.size) (Nat.le_refl _)).mono ?_
      rintro e v6 ⟨rfl, hbn⟩
      have hB0 := hB0.trans (hbn.mono hB0.size)
      have hD5 := hD5.trans (hbn.mono hD5.size)
      clear hbn
      go_wp2_with fail
      go_ret
      exact ⟨rfl, hB0⟩

set_option maxRecDepth 100000 in
set_option maxHeartbeats 1000000 in
/-- **TimesLattice answers true, for any three lists of numbers, and writes nothing that was there** -/
theorem tlat_any (a : Option Addr) (ca : Nat) (zs : List Int) (b : Option Addr) (cb : Nat) (ys : List Int) (c : Option Addr) (cc : Nat) (xs : List Int) (n₀ : Nat) (h63 : zs.length ≤ 9223372036854775807) (h64 : ys.length ≤ 9223372036854775807) (h65 : xs.length ≤ 9223372036854775807) (w : World) (hz : ZInts n₀ w a zs) (hy : ZInts n₀ w b ys) (hx : ZInts n₀ w c xs) (hn₀ : n₀ ≤ w.heap.size) :
    Calls Try.prog 6 #[.slice a zs.length ca, .slice b ys.length cb, .slice c xs.length cc] w fun e w' => e = .returned (.bool true) ∧ Below w.heap.size w w' := by
  have sA := kalike3_any a ca zs b cb ys c cc xs n₀ h63 h64 h65 w hz hy hx hn₀
  cases hal : alikeB [⟨a, ca, zs⟩, ⟨b, cb, ys⟩, ⟨c, cc, xs⟩] with
  | false =>
    rw [hal] at sA
    clear hal
    go_enter Try.func6, Try.ntmps6
    go_wp2_with fail
    with_reducible refine sA.mono ?_
    rintro e wa ⟨rfl, hBa⟩
    go_wp2_with fail
    go_ret
    exact ⟨rfl, hBa⟩
  | true =>
    rw [hal] at sA
    obtain ⟨g1, g2, g3, g4, g5⟩ := alike3.1 hal
    dsimp only at g1 g2 g3 g4 g5
    rw [g4, g5] at sA ⊢
    exact tlat_yes zs.length a ca zs b cb ys c cc xs rfl g4 g5 (codeT_zero g1).2.1 w (hz.mono hn₀) (hy.mono hn₀) (hx.mono hn₀) g1 g2 g3 sA
end Go.Proofs.Ytgoipkjledmnjaa
