/- The walk of the law TimesOpens: it answers true, and writes nothing that was there. -/
import Derived.Test.YtdknniomgdjbfaaTimLeast
import Derived.Test.YtdknniomgdjbfaaTimMore
namespace Go.Proofs.Ytdknniomgdjbfaa
open Go.RowKit Go.Shelf

set_option maxRecDepth 100000 in
set_option maxHeartbeats 8000000 in
/-- **TimesOpens answers true, for any lists of numbers, and writes nothing that was there** -/
theorem topens_any (a : Option Addr) (cap : Nat) (L : List Sl) (b : Option Addr) (cb : Nat) (ys : List Int) (n₀ : Nat) (h63 : L.length ≤ 9223372036854775807) (h64 : ys.length ≤ 9223372036854775807) (w : World) (hw : ZLists n₀ w a L) (hy : ZInts n₀ w b ys) (hn₀ : n₀ ≤ w.heap.size) :
    Calls Try.prog 5 #[.slice a L.length cap, .slice b ys.length cb] w fun e w' => e = .returned (.bool true) ∧ Below w.heap.size w w' := by
  have hwW : ∀ {W}, Below w.heap.size w W → ZLists n₀ W a L := fun hW => hw.below (hW.mono hn₀)
  have hyW : ∀ {W}, Below w.heap.size w W → ZInts n₀ W b ys := fun hW => hy.below (hW.mono hn₀)
  have hnW : ∀ {W}, Below w.heap.size w W → n₀ ≤ W.heap.size := fun hW => by have := hW.size; omega
  have s1 := Front_any a cap L n₀ h63 w hw hn₀
  have s4 : ∀ W, Below w.heap.size w W → _ := fun W hW => topen_any a cap L b cb ys n₀ h63 h64 W (hwW hW) (hyW hW) (hnW hW)
  unfold joinErr at s1
  by_cases hc : codeL (zl L) = 0
  · have HC := hide hc
    rw [hc] at s1
    clear hc
    have h64L := (codeL_zero HC.out).1
    rw [zl_len] at h64L
    go_enter Try.func5, Try.ntmps5
    go_wp2_with fail
    with_reducible refine s1.mono ?_
    rintro e w1 ⟨hb1, hh1⟩
    clear s1
    rcases hh1 with ⟨hx, _⟩ | ⟨_, av, cv, S, rfl, hO1, hF1, hI1⟩
    · exact absurd rfl hx
    have hs1 := hb1.size
    have HI := hide (show codeL (zl S) = 0 ∧ IsFront (zl L) (zl S) from ⟨front_code HC.out hI1, hI1⟩)
    have hlS : S.length ≤ 64 := by have := (codeL_zero HI.out.1).1; rw [zl_len] at this; exact this
    have hZ1 : ZLists w1.heap.size w1 av S := ⟨hO1, hF1.inner⟩
    have s2 := Front_any av cv S w1.heap.size (by omega) w1 hZ1 (Nat.le_refl _)
    unfold joinErr at s2
    rw [HI.out.1] at s2
    clear hI1
    go_wp2_with fail
    with_reducible refine s2.mono ?_
    rintro e w2 ⟨hb2, hh2⟩
    clear s2
    rcases hh2 with ⟨hx, _⟩ | ⟨_, av2, cv2, S2, rfl, hO2, hF2, hI2⟩
    · exact absurd rfl hx
    have hs2 := hb2.size
    have hB2 := hb1.trans (hb2.mono hs1)
    have heq : zl S = zl S2 := (front_idem HI.out.2).unique hI2
    have hZ12 : ZLists w2.heap.size w2 av S := (hZ1.below hb2).mono hs2
    have s3 := Lists_any av cv S av2 cv2 S2 w2.heap.size (by omega) w2 hZ12 ⟨hO2, hF2.inner⟩ (Nat.le_refl _)
    rw [sameL_true.2 heq] at s3
    clear hI2 heq hO2 hF2
    go_wp2_with fail
    with_reducible refine s3.mono ?_
    rintro e w3 ⟨rfl, hb3⟩
    clear s3
    have hs3 := hb3.size
    have hB3 := hB2.trans (hb3.mono hB2.size)
    have hB13 := hb2.trans (hb3.mono hs2)
    have hZ13 : ZLists w3.heap.size w3 av S := (hZ1.below hB13).mono hB13.size
    have s5 := topen_any av cv S b cb ys w3.heap.size (by omega) h64 w3 hZ13 ((hyW hB3).mono (hnW hB3)) (Nat.le_refl _)
    rw [front_open HC.out HI.out.2] at s5
    go_wp2_with fail
    with_reducible refine s5.mono ?_
    rintro e w4 ⟨rfl, hb4⟩
    clear s5
    have hB4 := hB3.trans (hb4.mono hB3.size)
    have hB14 := hB13.trans (hb4.mono hB13.size)
    have s6 := s4 w4 hB4
    have eq : (openB (zl L) ys != openB (zl L) ys) = false := by simp
    generalize openB (zl L) ys = q at *
    clear s4
    go_wp2_with fail
    with_reducible refine s6.mono ?_
    rintro e w5 ⟨rfl, hb5⟩
    clear s6
    have hB5 := hB4.trans (hb5.mono hB4.size)
    have hB15 := hB14.trans (hb5.mono hB14.size)
    have hs15 := hB15.size
    clear hZ12 hZ13 hb2 hb3 hb4 hb5 hB2 hB3 hB4 hB13 hB14
    go_wp2_with fail
    go_loopw [46] (fun i wr => ∃ k : Nat, k ≤ L.length ∧ i = .int .i64 k ∧ Below w1.heap.size w1 wr) (fun i _ => L.length - (intOf i).toNat)
    case atStart => exact ⟨0, Nat.zero_le _, rfl, hB15⟩
    case round =>
      obtain ⟨k, hk, rfl, hB⟩ := hrel
      have hsr := hB.size
      have hBw := hb1.trans (hB.mono hs1)
      by_cases hlt : k < L.length
      · obtain ⟨bl, ol, hav, hbl, hcl⟩ := (hwW hBw).outer.at hlt
        subst hav
        have ck := hcl k hlt
        obtain ⟨iz, il⟩ := (hwW hBw).inner k hlt
        have hop := topen_any av cv S (nth L k).a (nth L k).cap (nth L k).zs wr.heap.size (by omega) il wr ((hZ1.below hB).mono hsr) (iz.mono (hnW hBw)) (Nat.le_refl _)
        rw [front_all HC.out HI.out.2 (mem_zl.2 ⟨k, hlt, rfl⟩)] at hop
        obtain ⟨sT, ek⟩ : ∃ sT, nth L k = sT := ⟨_, rfl⟩
        rw [ek] at ck hop iz il
        clear hcl ek
        obtain ⟨at_, ct, zt⟩ := sT
        unfold slv at ck
        dsimp only at ck hop iz il
        go_wp2_with fail
        with_reducible refine hop.mono ?_
        rintro e w6 ⟨rfl, hb6⟩
        go_wp2_with fail
        go_roundw
        case rel => exact ⟨k + 1, by omega, by go_num, hB.trans (hb6.mono hsr)⟩
        case measure => simp [intOf]; omega
      · obtain ⟨wa, hwa⟩ : ∃ V, V = wr := ⟨_, rfl⟩
        subst hwa
        go_wp2_with fail
        clear hlt hk
        go_loopw [10] (fun i wr => ∃ x : Nat, x ≤ S.length ∧ i = .int .i64 x ∧ Below w1.heap.size w1 wr) (fun i _ => S.length - (intOf i).toNat)
        case atStart => exact ⟨0, Nat.zero_le _, rfl, hB⟩
        case round =>
          clear hB hsr hBw
          obtain ⟨x, hx, rfl, hB⟩ := hrel
          have hsr := hB.size
          by_cases hlx : x < S.length
          · obtain ⟨wc, hwc⟩ : ∃ V, V = wr := ⟨_, rfl⟩
            subst hwc
            go_wp2_with fail
            go_loopw [11] (fun i wr => ∃ y : Nat, y ≤ S.length ∧ i = .int .i64 y ∧ Below w1.heap.size w1 wr) (fun i _ => S.length - (intOf i).toNat)
            case atStart => exact ⟨0, Nat.zero_le _, rfl, hB⟩
            case round =>
              clear hB hsr
              obtain ⟨y, hy', rfl, hB⟩ := hrel
              have hsr := hB.size
              by_cases hly : y < S.length
              · have hZr : ZLists wr.heap.size wr av S := (hZ1.below hB).mono hsr
                obtain ⟨bo, oo, hav, hbo, hco⟩ := hZr.outer.at hlx
                have cx := hco x hlx
                have cy := hco y hly
                obtain ⟨xz, xl⟩ := hZr.inner x hlx
                obtain ⟨yz, yl⟩ := hZr.inner y hly
                have hq := fun h => front_leq HI.out.2 (i := x) (j := y) (by rw [zl_len]; exact hlx) (by rw [zl_len]; exact hly) h
                have hr := fun h => front_less HC.out HI.out.2 (i := x) (j := y) (by rw [zl_len]; exact hlx) (by rw [zl_len]; exact hly) h
                rw [zl_at hlx, zl_at hly] at hq hr
                obtain ⟨sx, ex⟩ : ∃ sx, nth S x = sx := ⟨_, rfl⟩
                obtain ⟨sy, ey⟩ : ∃ sy, nth S y = sy := ⟨_, rfl⟩
                rw [ex] at cx xz xl hq hr
                rw [ey] at cy yz yl hq hr
                subst hav
                clear hco ex ey hZr
                obtain ⟨ax, qx, zx⟩ := sx
                obtain ⟨ay, qy, zy⟩ := sy
                unfold slv at cx cy
                dsimp only at cx cy xz xl yz yl hq hr
                by_cases hxy : x = y
                · have e1 : ((x : Int) != (y : Int)) = false := by rw [bne_eq_false_iff_eq]; omega
                  have e2 : decide ((x : Int) < (y : Int)) = false := decide_eq_false (by omega)
                  have e3 : ¬ x < y := by omega
                  have k0 := cell_regrown cx
                  have k1 := cell_regrown cy
                  clear hxy hq hr cy
                  go_wp2_with fail
                  refine wp_region_quiet_below (by kernel_rfl) (by kernel_rfl) ?_
                  repeat (go_big_quiet_step (fail))
                  refine wpQuiet_nil ?_
                  intro _ hw'
                  obtain ⟨⟨dq, osq⟩, hw''⟩ := hw'
                  subst hw''
                  go_wp2_with fail
                  go_roundw
                  case rel => exact ⟨y + 1, by omega, by go_num, hB.trans ((below_regrown _ dq osq).mono hsr)⟩
                  case measure => simp [intOf]; omega
                · have e1 : ((x : Int) != (y : Int)) = true := by rw [bne_iff_ne]; omega
                  have cQ : ∀ d os, Calls Try.prog 22 #[.slice ax zx.length qx, .slice ay zy.length qy] (Go.Sort.grow (redrawn wr d) os) fun e w'' => e = .returned (.bool false) ∧ ∃ p : Regrown, w'' = Go.Sort.grow (redrawn wr p.d) p.os := fun d os => Calls.regrown_of (by
                    have h := tleq_any ax qx zx ay qy zy wr.heap.size xl yl (Go.Sort.grow (redrawn wr d) os) (xz.below (below_regrown wr d os)) (yz.below (below_regrown wr d os)) (below_regrown wr d os).size
                    rw [hq hxy] at h
                    exact h)
                  have k0 := cell_regrown cx
                  have k1 := cell_regrown cy
                  by_cases hlt2 : x < y
                  · have e2 : decide ((x : Int) < (y : Int)) = true := decide_eq_true (by omega)
                    have cL : ∀ d os, Calls Try.prog 23 #[.slice ax zx.length qx, .slice ay zy.length qy] (Go.Sort.grow (redrawn wr d) os) fun e w'' => e = .returned (.bool true) ∧ ∃ p : Regrown, w'' = Go.Sort.grow (redrawn wr p.d) p.os := fun d os => Calls.regrown_of (by
                      have h := tless_any ax qx zx ay qy zy wr.heap.size xl yl (Go.Sort.grow (redrawn wr d) os) (xz.below (below_regrown wr d os)) (yz.below (below_regrown wr d os)) (below_regrown wr d os).size
                      rw [hr hlt2] at h
                      exact h)
                    clear hxy hq hr cx cy
                    go_wp2_with fail
                    refine wp_region_quiet_below (by kernel_rfl) (by kernel_rfl) ?_
                    repeat (go_big_quiet_step (first | with_reducible exact cQ _ _ | with_reducible exact cL _ _))
                    refine wpQuiet_nil ?_
                    intro _ hw'
                    obtain ⟨⟨dq, osq⟩, hw''⟩ := hw'
                    subst hw''
                    go_wp2_with fail
                    go_roundw
                    case rel => exact ⟨y + 1, by omega, by go_num, hB.trans ((below_regrown _ dq osq).mono hsr)⟩
                    case measure => simp [intOf]; omega
                  · have e2 : decide ((x : Int) < (y : Int)) = false := decide_eq_false (by omega)
                    clear hxy hq hr cx cy
                    go_wp2_with fail
                    refine wp_region_quiet_below (by kernel_rfl) (by kernel_rfl) ?_
                    repeat (go_big_quiet_step (with_reducible exact cQ _ _))
                    refine wpQuiet_nil ?_
                    intro _ hw'
                    obtain ⟨⟨dq, osq⟩, hw''⟩ := hw'
                    subst hw''
                    go_wp2_with fail
                    go_roundw
                    case rel => exact ⟨y + 1, by omega, by go_num, hB.trans ((below_regrown _ dq osq).mono hsr)⟩
                    case measure => simp [intOf]; omega
              · go_wp2_with fail
                go_roundw
                case rel => exact ⟨x + 1, by omega, by go_num, hB⟩
                case measure => simp [intOf]; omega
          · go_wp2_with fail
            go_ret
            exact ⟨rfl, hb1.trans (hB.mono hs1)⟩
  · have HC := hide hc
    have e1 : (codeL (zl L) != 0) = true := by rw [bne_iff_ne]; exact hc
    clear hc s4
    generalize codeL (zl L) = c at *
    go_enter Try.func5, Try.ntmps5
    go_wp2_with fail
    with_reducible refine s1.mono ?_
    rintro e w1 ⟨hb1, hh1⟩
    have hh1 := (hh1.resolve_right fun h => HC.out h.1).2
    subst hh1
    go_wp2_with fail
    go_ret
    exact ⟨rfl, hb1⟩
end Go.Proofs.Ytdknniomgdjbfaa
