/- The walk of the law TimesBefores: it answers true, and writes nothing that was there. -/
import Derived.Test.YtdknniomgdjbfaaTimRefB
namespace Go.Proofs.Ytdknniomgdjbfaa
open Go.RowKit Go.Shelf

set_option maxRecDepth 100000 in
set_option maxHeartbeats 32000000 in
/-- **TimesBefores answers true, for any two lists of lists of numbers, and writes nothing that was there** -/
theorem tbefores_any (a : Option Addr) (ca : Nat) (L : List Sl) (b : Option Addr) (cb : Nat) (M : List Sl) (n₀ : Nat) (h63 : L.length ≤ 9223372036854775807) (h64 : M.length ≤ 9223372036854775807) (hna : a = none → ca = 0) (hnb : b = none → cb = 0) (w : World) (hL : ZLists n₀ w a L) (hM : ZLists n₀ w b M) (hn₀ : n₀ ≤ w.heap.size) :
    Calls Try.prog 4 #[.slice a L.length ca, .slice b M.length cb] w fun e w' => e = .returned (.bool true) ∧ Below w.heap.size w w' := by
  have hLW : ∀ {W}, Below w.heap.size w W → ZLists n₀ W a L := fun hW => hL.below (hW.mono hn₀)
  have hMW : ∀ {W}, Below w.heap.size w W → ZLists n₀ W b M := fun hW => hM.below (hW.mono hn₀)
  have hnW : ∀ {W}, Below w.heap.size w W → n₀ ≤ W.heap.size := fun hW => by have := hW.size; omega
  have s1 := Before_any a ca L b cb M n₀ h63 h64 w hL hM hn₀
  have s2 : ∀ W, Below w.heap.size w W → _ := fun W hW => Both_any a ca L b cb M n₀ h63 h64 hna hnb W (hLW hW) (hMW hW) (hnW hW)
  have s3 : ∀ W, Below w.heap.size w W → _ := fun W hW => Either_any a ca L b cb M n₀ h63 h64 W (hLW hW) (hMW hW) (hnW hW)
  have s4 : ∀ W, Below w.heap.size w W → _ := fun W hW => rtlists_any a ca L b cb M n₀ h63 h64 W (hLW hW) (hMW hW) (hnW hW)
  have s5 : ∀ W, Below w.heap.size w W → _ := fun W hW => rtbefore_any a ca L b cb M n₀ h63 h64 W (hLW hW) (hMW hW) (hnW hW)
  have s6 : L.length + M.length ≤ 64 → ∀ W, Below w.heap.size w W → _ := fun h W hW => rtall_any a ca L b cb M n₀ h W (hLW hW).outer (hMW hW).outer (hnW hW)
  have s7 : codeLL (zl L) (zl M) = 0 → L.length * M.length ≤ 64 → ∀ W, Below w.heap.size w W → _ := fun hc h W hW => rtjoins_any a ca L b cb M n₀ h63 h64 hc h W (hLW hW) (hMW hW) (hnW hW)
  have hBc := Below.refl w.heap.size w
  by_cases hc : codeLL (zl L) (zl M) = 0
  · have HC := hide hc
    have hl1 := (codeL_zero (codeLL_zero hc).1).1
    have hl2 := (codeL_zero (codeLL_zero hc).2.1).1
    rw [zl_len] at hl1 hl2
    have hle : L.length * M.length ≤ 64 * 64 := Nat.mul_le_mul hl1 hl2
    obtain ⟨N, hN⟩ : ∃ N, L.length * M.length = N := ⟨_, rfl⟩
    have hmul : (L.length : Int) * (M.length : Int) = (N : Int) := by rw [← hN]; simp
    rw [hN] at hle
    have hp1 : 0 ≤ (L.length : Int) * (M.length : Int) := by rw [hmul]; omega
    have hp2 : (L.length : Int) * (M.length : Int) ≤ 4096 := by rw [hmul]; omega
    have HN := hide hN
    clear hN
    rw [hc] at s4
    clear hc
    have e0 : (beforeB (zl L) (zl M) != beforeB (zl L) (zl M)) = false := by simp
    generalize beforeB (zl L) (zl M) = p at *
    go_enter Try.func4, Try.ntmps4
    go_wp2_with fail
    with_reducible refine (s1).mono ?_
    rintro e wn ⟨hbn, hh⟩
    have hh := (hh.resolve_left fun h => h.1 HC.out).2
    subst hh
    have hBc := hBc.trans (hbn.mono hBc.size)
    clear hbn s1
    go_wp2_with fail
    with_reducible refine (s2 _ hBc).mono ?_
    rintro e wn ⟨hbn, hh⟩
    have hBc := hBc.trans (hbn.mono hBc.size)
    clear s2
    unfold joinErr at hh
    have hh1 := hh.resolve_left fun h => h.1 HC.out
    have hBA := Below.refl wn.heap.size wn
    clear hh hbn
    obtain ⟨wb, hwb⟩ : ∃ V, V = wn := ⟨_, rfl⟩
    subst hwb
    rcases hh1 with ⟨_, hsum, rfl⟩ | ⟨_, hsum, av1, cv1, S1, rfl, hO1, hF1, hI1⟩
    · go_wp2_with fail
      with_reducible refine (s3 _ hBc).mono ?_
      rintro e wn ⟨hbn, hh⟩
      have hBc := hBc.trans (hbn.mono hBc.size)
      have hBA := hBA.trans (hbn.mono hBA.size)
      clear s3
      unfold joinErr at hh
      have hh2 := hh.resolve_left fun h => h.1 HC.out
      have hBE := Below.refl wn.heap.size wn
      clear hh hbn
      obtain ⟨wd, hwd⟩ : ∃ V, V = wn := ⟨_, rfl⟩
      subst hwd
      rw [HN.out] at hh2
      rcases hh2 with ⟨_, hpr, rfl⟩ | ⟨_, hpr, av2, cv2, S2, rfl, hO2, hF2, hI2⟩
      · have d1 : decide ((64 : Int) < (L.length : Int) + (M.length : Int)) = true := decide_eq_true (by omega)
        have d2 : decide ((64 : Int) < (N : Int)) = true := decide_eq_true (by omega)
        go_wp2_with fail
        with_reducible refine (s4 _ hBc).mono ?_
        rintro e wn ⟨rfl, hbn⟩
        have hBc := hBc.trans (hbn.mono hBc.size)
        have hBA := hBA.trans (hbn.mono hBA.size)
        have hBE := hBE.trans (hbn.mono hBE.size)
        clear hbn s4
        go_wp2_with fail
        with_reducible refine (s5 _ hBc).mono ?_
        rintro e wn ⟨rfl, hbn⟩
        have hBc := hBc.trans (hbn.mono hBc.size)
        have hBA := hBA.trans (hbn.mono hBA.size)
        have hBE := hBE.trans (hbn.mono hBE.size)
        clear hbn s5
        go_wp2_with fail
        go_ret
        exact ⟨rfl, hBc⟩
      · have hprod : L.length * M.length ≤ 64 := by rw [HN.out]; exact hpr
        have hlS2 : S2.length ≤ 64 := by have := (codeL_zero (front_code (rows_code HC.out hprod) hI2)).1; rw [zl_len] at this; exact this
        have hprod := fun _ : Unit => hprod
        have d1 : decide ((64 : Int) < (L.length : Int) + (M.length : Int)) = true := decide_eq_true (by omega)
        have d2 : decide ((64 : Int) < (N : Int)) = false := decide_eq_false (by omega)
        go_wp2_with fail
        with_reducible refine (s4 _ hBc).mono ?_
        rintro e wn ⟨rfl, hbn⟩
        have hBc := hBc.trans (hbn.mono hBc.size)
        have hBA := hBA.trans (hbn.mono hBA.size)
        have hBE := hBE.trans (hbn.mono hBE.size)
        clear hbn s4
        go_wp2_with fail
        with_reducible refine (s5 _ hBc).mono ?_
        rintro e wn ⟨rfl, hbn⟩
        have hBc := hBc.trans (hbn.mono hBc.size)
        have hBA := hBA.trans (hbn.mono hBA.size)
        have hBE := hBE.trans (hbn.mono hBE.size)
        clear hbn s5
        go_wp2_with fail
        with_reducible refine (s7 HC.out (hprod ()) _ hBc).mono ?_
        rintro e wn ⟨av3, cv3, J, rfl, hbn, hO3, hF3, hJ⟩
        have HCJ := hide (show codeL (zl J) = 0 from by rw [hJ]; exact rows_code HC.out (hprod ()))
        have hZ3 : ZLists wn.heap.size wn av3 J := ⟨hO3, hF3.inner⟩
        have s8 := rtfront_any av3 cv3 J wn.heap.size HCJ.out wn hZ3 (Nat.le_refl _)
        have hBc := hBc.trans (hbn.mono hBc.size)
        have hBA := hBA.trans (hbn.mono hBA.size)
        have hBE := hBE.trans (hbn.mono hBE.size)
        clear hbn
        go_wp2_with fail
        with_reducible refine (s8).mono ?_
        rintro e wn ⟨av4, cv4, S4, rfl, hbn, hO4, hS4, hI4⟩
        rw [hJ] at hI4
        have hZ4 : ZLists wn.heap.size wn av4 S4 := ⟨hO4, fun i hi => by
          obtain ⟨j, hj, e⟩ := mem_nth (hS4 _ (nth_mem hi))
          rw [← e]
          have hz := ((hZ3.below hbn).mono hbn.size).inner j hj
          exact hz⟩
        have heq : zl S2 = zl S4 := hI2.unique hI4
        have hBc := hBc.trans (hbn.mono hBc.size)
        have hBA := hBA.trans (hbn.mono hBA.size)
        have hBE := hBE.trans (hbn.mono hBE.size)
        clear hbn hZ3 s8
        have s9 := Lists_any av2 cv2 S2 av4 cv4 S4 wn.heap.size (by omega) wn ((⟨hO2, hF2.inner⟩ : ZLists _ _ av2 S2).below hBE |>.mono hBE.size) hZ4 (Nat.le_refl _)
        rw [sameL_true.2 heq] at s9
        clear heq hZ4 hI4
        go_wp2_with fail
        with_reducible refine (s9).mono ?_
        rintro e wn ⟨rfl, hbn⟩
        have hBc := hBc.trans (hbn.mono hBc.size)
        have hBA := hBA.trans (hbn.mono hBA.size)
        have hBE := hBE.trans (hbn.mono hBE.size)
        clear hbn s9
        go_wp2_with fail
        go_ret
        exact ⟨rfl, hBc⟩
    · have HCB := hide (show codeL (zl (L ++ M)) = 0 from by rw [zl_append]; exact both_code HC.out (by rw [zl_len, zl_len]; omega))
      have hlS1 : S1.length ≤ 64 := by have := (codeL_zero (front_code (by rw [← zl_append]; exact HCB.out) hI1)).1; rw [zl_len] at this; exact this
      go_wp2_with fail
      with_reducible refine (s3 _ hBc).mono ?_
      rintro e wn ⟨hbn, hh⟩
      have hBc := hBc.trans (hbn.mono hBc.size)
      have hBA := hBA.trans (hbn.mono hBA.size)
      clear s3
      unfold joinErr at hh
      have hh2 := hh.resolve_left fun h => h.1 HC.out
      have hBE := Below.refl wn.heap.size wn
      clear hh hbn
      obtain ⟨wd, hwd⟩ : ∃ V, V = wn := ⟨_, rfl⟩
      subst hwd
      rw [HN.out] at hh2
      rcases hh2 with ⟨_, hpr, rfl⟩ | ⟨_, hpr, av2, cv2, S2, rfl, hO2, hF2, hI2⟩
      · have d1 : decide ((64 : Int) < (L.length : Int) + (M.length : Int)) = false := decide_eq_false (by omega)
        have d2 : decide ((64 : Int) < (N : Int)) = true := decide_eq_true (by omega)
        go_wp2_with fail
        with_reducible refine (s4 _ hBc).mono ?_
        rintro e wn ⟨rfl, hbn⟩
        have hBc := hBc.trans (hbn.mono hBc.size)
        have hBA := hBA.trans (hbn.mono hBA.size)
        have hBE := hBE.trans (hbn.mono hBE.size)
        clear hbn s4
        go_wp2_with fail
        with_reducible refine (s5 _ hBc).mono ?_
        rintro e wn ⟨rfl, hbn⟩
        have hBc := hBc.trans (hbn.mono hBc.size)
        have hBA := hBA.trans (hbn.mono hBA.size)
        have hBE := hBE.trans (hbn.mono hBE.size)
        clear hbn s5
        go_wp2_with fail
        with_reducible refine (s6 hsum _ hBc).mono ?_
        rintro e wn ⟨av3, cv3, rfl, hbn, hO3⟩
        have hZ3 : ZLists wn.heap.size wn av3 (L ++ M) := ⟨hO3, (inner_append (hL.inner.below ((hBc.trans (hbn.mono hBc.size)).mono hn₀)) (hM.inner.below ((hBc.trans (hbn.mono hBc.size)).mono hn₀))).mono (hnW (hBc.trans (hbn.mono hBc.size)))⟩
        have s8 := rtfront_any av3 cv3 (L ++ M) wn.heap.size HCB.out wn hZ3 (Nat.le_refl _)
        rw [List.length_append] at s8
        have hBc := hBc.trans (hbn.mono hBc.size)
        have hBA := hBA.trans (hbn.mono hBA.size)
        have hBE := hBE.trans (hbn.mono hBE.size)
        clear hbn
        go_wp2_with fail
        with_reducible refine (s8).mono ?_
        rintro e wn ⟨av4, cv4, S4, rfl, hbn, hO4, hS4, hI4⟩
        rw [zl_append] at hI4
        have hZ4 : ZLists wn.heap.size wn av4 S4 := ⟨hO4, fun i hi => by
          obtain ⟨j, hj, e⟩ := mem_nth (hS4 _ (nth_mem hi))
          rw [← e]
          have hz := ((hZ3.below hbn).mono hbn.size).inner j hj
          exact hz⟩
        have heq : zl S1 = zl S4 := hI1.unique hI4
        have hBc := hBc.trans (hbn.mono hBc.size)
        have hBA := hBA.trans (hbn.mono hBA.size)
        have hBE := hBE.trans (hbn.mono hBE.size)
        clear hbn hZ3 s8
        have s9 := Lists_any av1 cv1 S1 av4 cv4 S4 wn.heap.size (by omega) wn ((⟨hO1, hF1.inner⟩ : ZLists _ _ av1 S1).below hBA |>.mono hBA.size) hZ4 (Nat.le_refl _)
        rw [sameL_true.2 heq] at s9
        clear heq hZ4 hI4
        go_wp2_with fail
        with_reducible refine (s9).mono ?_
        rintro e wn ⟨rfl, hbn⟩
        have hBc := hBc.trans (hbn.mono hBc.size)
        have hBA := hBA.trans (hbn.mono hBA.size)
        have hBE := hBE.trans (hbn.mono hBE.size)
        clear hbn s9
        go_wp2_with fail
        go_ret
        exact ⟨rfl, hBc⟩
      · have hprod : L.length * M.length ≤ 64 := by rw [HN.out]; exact hpr
        have hlS2 : S2.length ≤ 64 := by have := (codeL_zero (front_code (rows_code HC.out hprod) hI2)).1; rw [zl_len] at this; exact this
        have hprod := fun _ : Unit => hprod
        have d1 : decide ((64 : Int) < (L.length : Int) + (M.length : Int)) = false := decide_eq_false (by omega)
        have d2 : decide ((64 : Int) < (N : Int)) = false := decide_eq_false (by omega)
        go_wp2_with fail
        with_reducible refine (s4 _ hBc).mono ?_
        rintro e wn ⟨rfl, hbn⟩
        have hBc := hBc.trans (hbn.mono hBc.size)
        have hBA := hBA.trans (hbn.mono hBA.size)
        have hBE := hBE.trans (hbn.mono hBE.size)
        clear hbn s4
        go_wp2_with fail
        with_reducible refine (s5 _ hBc).mono ?_
        rintro e wn ⟨rfl, hbn⟩
        have hBc := hBc.trans (hbn.mono hBc.size)
        have hBA := hBA.trans (hbn.mono hBA.size)
        have hBE := hBE.trans (hbn.mono hBE.size)
        clear hbn s5
        go_wp2_with fail
        with_reducible refine (s6 hsum _ hBc).mono ?_
        rintro e wn ⟨av3, cv3, rfl, hbn, hO3⟩
        have hZ3 : ZLists wn.heap.size wn av3 (L ++ M) := ⟨hO3, (inner_append (hL.inner.below ((hBc.trans (hbn.mono hBc.size)).mono hn₀)) (hM.inner.below ((hBc.trans (hbn.mono hBc.size)).mono hn₀))).mono (hnW (hBc.trans (hbn.mono hBc.size)))⟩
        have s8 := rtfront_any av3 cv3 (L ++ M) wn.heap.size HCB.out wn hZ3 (Nat.le_refl _)
        rw [List.length_append] at s8
        have hBc := hBc.trans (hbn.mono hBc.size)
        have hBA := hBA.trans (hbn.mono hBA.size)
        have hBE := hBE.trans (hbn.mono hBE.size)
        clear hbn
        go_wp2_with fail
        with_reducible refine (s8).mono ?_
        rintro e wn ⟨av4, cv4, S4, rfl, hbn, hO4, hS4, hI4⟩
        rw [zl_append] at hI4
        have hZ4 : ZLists wn.heap.size wn av4 S4 := ⟨hO4, fun i hi => by
          obtain ⟨j, hj, e⟩ := mem_nth (hS4 _ (nth_mem hi))
          rw [← e]
          have hz := ((hZ3.below hbn).mono hbn.size).inner j hj
          exact hz⟩
        have heq : zl S1 = zl S4 := hI1.unique hI4
        have hBc := hBc.trans (hbn.mono hBc.size)
        have hBA := hBA.trans (hbn.mono hBA.size)
        have hBE := hBE.trans (hbn.mono hBE.size)
        clear hbn hZ3 s8
        have s9 := Lists_any av1 cv1 S1 av4 cv4 S4 wn.heap.size (by omega) wn ((⟨hO1, hF1.inner⟩ : ZLists _ _ av1 S1).below hBA |>.mono hBA.size) hZ4 (Nat.le_refl _)
        rw [sameL_true.2 heq] at s9
        clear heq hZ4 hI4
        go_wp2_with fail
        with_reducible refine (s9).mono ?_
        rintro e wn ⟨rfl, hbn⟩
        have hBc := hBc.trans (hbn.mono hBc.size)
        have hBA := hBA.trans (hbn.mono hBA.size)
        have hBE := hBE.trans (hbn.mono hBE.size)
        clear hbn s9
        go_wp2_with fail
        with_reducible refine (s7 HC.out (hprod ()) _ hBc).mono ?_
        rintro e wn ⟨av3, cv3, J, rfl, hbn, hO3, hF3, hJ⟩
        have HCJ := hide (show codeL (zl J) = 0 from by rw [hJ]; exact rows_code HC.out (hprod ()))
        have hZ3 : ZLists wn.heap.size wn av3 J := ⟨hO3, hF3.inner⟩
        have s8 := rtfront_any av3 cv3 J wn.heap.size HCJ.out wn hZ3 (Nat.le_refl _)
        have hBc := hBc.trans (hbn.mono hBc.size)
        have hBA := hBA.trans (hbn.mono hBA.size)
        have hBE := hBE.trans (hbn.mono hBE.size)
        clear hbn
        go_wp2_with fail
        with_reducible refine (s8).mono ?_
        rintro e wn ⟨av4, cv4, S4, rfl, hbn, hO4, hS4, hI4⟩
        rw [hJ] at hI4
        have hZ4 : ZLists wn.heap.size wn av4 S4 := ⟨hO4, fun i hi => by
          obtain ⟨j, hj, e⟩ := mem_nth (hS4 _ (nth_mem hi))
          rw [← e]
          have hz := ((hZ3.below hbn).mono hbn.size).inner j hj
          exact hz⟩
        have heq : zl S2 = zl S4 := hI2.unique hI4
        have hBc := hBc.trans (hbn.mono hBc.size)
        have hBA := hBA.trans (hbn.mono hBA.size)
        have hBE := hBE.trans (hbn.mono hBE.size)
        clear hbn hZ3 s8
        have s9 := Lists_any av2 cv2 S2 av4 cv4 S4 wn.heap.size (by omega) wn ((⟨hO2, hF2.inner⟩ : ZLists _ _ av2 S2).below hBE |>.mono hBE.size) hZ4 (Nat.le_refl _)
        rw [sameL_true.2 heq] at s9
        clear heq hZ4 hI4
        go_wp2_with fail
        with_reducible refine (s9).mono ?_
        rintro e wn ⟨rfl, hbn⟩
        have hBc := hBc.trans (hbn.mono hBc.size)
        have hBA := hBA.trans (hbn.mono hBA.size)
        have hBE := hBE.trans (hbn.mono hBE.size)
        clear hbn s9
        go_wp2_with fail
        go_ret
        exact ⟨rfl, hBc⟩
  · have e1 : (codeLL (zl L) (zl M) != 0) = true := by rw [bne_iff_ne]; exact hc
    have e2 : (codeLL (zl L) (zl M) == codeLL (zl L) (zl M)) = true := by simp
    have HC := hide hc
    clear hc s5 s6 s7
    generalize codeLL (zl L) (zl M) = c at *
    go_enter Try.func4, Try.ntmps4
    go_wp2_with fail
    with_reducible refine (s1).mono ?_
    rintro e wn ⟨hbn, hh⟩
    have hh := (hh.resolve_right fun h => HC.out h.1).2
    unfold befErr at hh
    subst hh
    have hBc := hBc.trans (hbn.mono hBc.size)
    clear hbn s1
    go_wp2_with fail
    with_reducible refine (s2 _ hBc).mono ?_
    rintro e wn ⟨hbn, hh⟩
    have hh := (hh.resolve_right fun h => h.elim (fun q => HC.out q.1) (fun q => HC.out q.1)).2
    unfold joinErr at hh
    subst hh
    have hBc := hBc.trans (hbn.mono hBc.size)
    clear hbn s2
    go_wp2_with fail
    with_reducible refine (s3 _ hBc).mono ?_
    rintro e wn ⟨hbn, hh⟩
    have hh := (hh.resolve_right fun h => h.elim (fun q => HC.out q.1) (fun q => HC.out q.1)).2
    unfold joinErr at hh
    subst hh
    have hBc := hBc.trans (hbn.mono hBc.size)
    clear hbn s3
    go_wp2_with fail
    with_reducible refine (s4 _ hBc).mono ?_
    rintro e wn ⟨rfl, hbn⟩
    have hBc := hBc.trans (hbn.mono hBc.size)
    clear hbn s4
    go_wp2_with fail
    go_ret
    exact ⟨rfl, hBc⟩
end Go.Proofs.Ytdknniomgdjbfaa
