/- The contracts of cmp.Compare and slices.Compare of numbers, of package times' Less and of the document's TimesLess. -/
import Derived.Test.YtdknniomgdjbfaaTimTwo
namespace Go.Proofs.Ytdknniomgdjbfaa
open Go.RowKit Go.Shelf

def lexB (a b : List Int) : Bool := @decide (LexZ a b) (decLexZ a b)
theorem lexB_true {a b : List Int} : lexB a b = true ↔ LexZ a b := by unfold lexB; exact @decide_eq_true_iff _ (decLexZ a b)
theorem lexB_false {a b : List Int} : lexB a b = false ↔ ¬ LexZ a b := by unfold lexB; exact @decide_eq_false_iff_not _ (decLexZ a b)
theorem lex_asym {a b : List Int} (h : LexZ a b) : ¬ LexZ b a := by
  rintro ⟨m, _, hm, hl⟩
  obtain ⟨k, _, hk, hl'⟩ := h
  rcases Nat.lt_trichotomy m k with e | e | e
  · have := hk m e; omega
  · subst e; omega
  · have := hm k e; omega
/-- how two lists of as many numbers compare -/
def cmpL (a b : List Int) : Int := if lexB a b then -1 else if lexB b a then 1 else 0
theorem cmpL_lt {a b : List Int} (h : LexZ a b) : cmpL a b = -1 := by unfold cmpL; rw [lexB_true.2 h]; rfl
theorem cmpL_gt {a b : List Int} (h : LexZ b a) : cmpL a b = 1 := by unfold cmpL; rw [lexB_false.2 (lex_asym h), lexB_true.2 h]; rfl
theorem cmpL_eq {a b : List Int} (hl : a.length = b.length) (h : ∀ i, i < a.length → zd a i = zd b i) : cmpL a b = 0 := by
  have h1 : lexB a b = false := lexB_false.2 fun ⟨k, h1, _, h3⟩ => by have := h k h1; omega
  have h2 : lexB b a = false := lexB_false.2 fun ⟨k, h1, _, h3⟩ => by have := h k (by omega); omega
  unfold cmpL; rw [h1, h2]; rfl
theorem cmpL_neg {a b : List Int} : decide (cmpL a b < 0) = lexB a b := by
  unfold cmpL
  cases lexB a b
  · cases lexB b a <;> rfl
  · rfl
theorem lessT_lex {a b : List Int} (h : codeP a b = 0) : lessT a b = lexB a b := by
  unfold lessT lexB; rw [decide_eq_true h, Bool.true_and]

def cmpZ (x y : Int) : Int := if x < y then -1 else if y < x then 1 else 0
theorem isNaN_any (x : Int) (w : World) : Calls Try.prog 54 #[.int .i64 x] w fun e w' => e = .returned (.bool false) ∧ w' = w := by
  have hd : (x != x) = false := by simp
  go_enter Try.func54, Try.ntmps54
  go_wp2
  go_ret
  exact ⟨rfl, rfl⟩
theorem cmpZ_any (x y : Int) (w : World) : Calls Try.prog 49 #[.int .i64 x, .int .i64 y] w fun e w' => e = .returned (.int .i64 (cmpZ x y)) ∧ w' = w := by
  have h1 := isNaN_any x w
  have h2 := isNaN_any y w
  by_cases hlt : x < y
  · have HC := hide (show cmpZ x y = -1 from if_pos hlt)
    have d1 : decide (x < y) = true := by simp [hlt]
    clear hlt
    go_enter Try.func49, Try.ntmps49
    go_wp2_with (first | (with_reducible refine h1.mono ?_; rintro e w' ⟨rfl, rfl⟩) | (with_reducible refine h2.mono ?_; rintro e w' ⟨rfl, rfl⟩))
    go_ret
    exact ⟨ret_int HC.out.symm, rfl⟩
  · have d1 : decide (x < y) = false := by simp; omega
    by_cases hgt : y < x
    · have HC := hide (show cmpZ x y = 1 from (if_neg hlt).trans (if_pos hgt))
      have d2 : decide (y < x) = true := by simp [hgt]
      clear hlt hgt
      go_enter Try.func49, Try.ntmps49
      go_wp2_with (first | (with_reducible refine h1.mono ?_; rintro e w' ⟨rfl, rfl⟩) | (with_reducible refine h2.mono ?_; rintro e w' ⟨rfl, rfl⟩))
      go_ret
      exact ⟨ret_int HC.out.symm, rfl⟩
    · have HC := hide (show cmpZ x y = 0 from (if_neg hlt).trans (if_neg hgt))
      have d2 : decide (y < x) = false := by simp; omega
      clear hlt hgt
      go_enter Try.func49, Try.ntmps49
      go_wp2_with (first | (with_reducible refine h1.mono ?_; rintro e w' ⟨rfl, rfl⟩) | (with_reducible refine h2.mono ?_; rintro e w' ⟨rfl, rfl⟩))
      go_ret
      exact ⟨ret_int HC.out.symm, rfl⟩

set_option maxRecDepth 100000 in
set_option maxHeartbeats 1000000 in
theorem tcmp_any (a : Option Addr) (ca : Nat) (zs : List Int) (b : Option Addr) (cb : Nat) (ys : List Int) (n₀ : Nat) (hl : zs.length = ys.length) (h63 : zs.length ≤ 9223372036854775807) (w : World) (hz : ZInts n₀ w a zs) (hy : ZInts n₀ w b ys) :
    Calls Try.prog 39 #[.slice a zs.length ca, .slice b ys.length cb] w fun e w' => e = .returned (.int .i64 (cmpL zs ys)) ∧ w' = w := by
  have HL := hide hl
  clear hl
  go_enter Try.func39, Try.ntmps39
  go_wp2
  go_loop [11] (fun i => ∃ k : Nat, k ≤ zs.length ∧ i = .int .i64 k ∧ Hid (∀ j, j < k → zd zs j = zd ys j)) (fun i => zs.length - (intOf i).toNat)
  case atStart => exact ⟨0, Nat.zero_le _, rfl, hide fun j hj => by omega⟩
  case round =>
    obtain ⟨k, hk, rfl, HS⟩ := hrel
    by_cases hlt : k < zs.length
    · have hlt2 : k < ys.length := by have := HL.out; omega
      have dn : decide ((ys.length : Int) ≤ (k : Int)) = false := by simp; omega
      obtain ⟨bz, oz, rfl, hbz, hcz⟩ := hz.at hlt
      obtain ⟨bb, oy, rfl, hby, hcy⟩ := hy.at hlt2
      have ck := hcz k hlt
      have dk := hcy k hlt2
      clear hcz hcy
      have hcm := cmpZ_any (zd zs k) (zd ys k)
      by_cases hu : zd zs k < zd ys k
      · have HF := hide (cmpL_lt ⟨k, hlt, HS.out, hu⟩)
        rw [show cmpZ (zd zs k) (zd ys k) = -1 from if_pos hu] at hcm
        clear hu
        go_wp2_with (go_at_call 49; refine (hcm _).mono ?_; rintro e w' ⟨rfl, rfl⟩)
        go_ret
        exact ⟨ret_int HF.out.symm, rfl⟩
      · by_cases hv : zd ys k < zd zs k
        · have HF := hide (cmpL_gt ⟨k, hlt2, fun j hj => (HS.out j hj).symm, hv⟩)
          rw [show cmpZ (zd zs k) (zd ys k) = 1 from (if_neg hu).trans (if_pos hv)] at hcm
          clear hu hv
          go_wp2_with (go_at_call 49; refine (hcm _).mono ?_; rintro e w' ⟨rfl, rfl⟩)
          go_ret
          exact ⟨ret_int HF.out.symm, rfl⟩
        · have HU := hide (show zd zs k = zd ys k by omega)
          rw [show cmpZ (zd zs k) (zd ys k) = 0 from (if_neg hu).trans (if_neg hv)] at hcm
          clear hu hv
          go_wp2_with (go_at_call 49; refine (hcm _).mono ?_; rintro e w' ⟨rfl, rfl⟩)
          go_round
          case rel => exact ⟨k + 1, by omega, by go_num, hide fun j hj => by
            by_cases e : j = k
            · rw [e]; exact HU.out
            · exact HS.out j (by omega)⟩
          case measure => simp [intOf]; omega
    · have HF := hide (cmpL_eq HL.out fun i hi => HS.out i (by omega))
      have dn : ¬ zs.length < ys.length := by have := HL.out; omega
      go_wp2
      go_ret
      exact ⟨ret_int HF.out.symm, rfl⟩

set_option maxRecDepth 100000 in
set_option maxHeartbeats 1000000 in
theorem tless_any (a : Option Addr) (ca : Nat) (zs : List Int) (b : Option Addr) (cb : Nat) (ys : List Int) (n₀ : Nat) (h63 : zs.length ≤ 9223372036854775807) (h64 : ys.length ≤ 9223372036854775807) (w : World) (hz : ZInts n₀ w a zs) (hy : ZInts n₀ w b ys) (hn₀ : n₀ ≤ w.heap.size) :
    Calls Try.prog 23 #[.slice a zs.length ca, .slice b ys.length cb] w fun e w' => e = .returned (.bool (lessT zs ys)) ∧ Below w.heap.size w w' := by
  have hp := tpair_any a ca zs b cb ys n₀ h63 h64 w hz hy hn₀
  by_cases hc : codeP zs ys = 0
  · rw [hc] at hp
    have HF := hide ((cmpL_neg (a := zs) (b := ys)).trans (lessT_lex hc).symm)
    have h2 : ∀ W, Below w.heap.size w W → _ := fun W hW => tcmp_any a ca zs b cb ys n₀ (codeP_zero hc).2.2 h63 W (hz.below (hW.mono hn₀)) (hy.below (hW.mono hn₀))
    clear hc
    generalize cmpL zs ys = c at *
    go_enter Try.func23, Try.ntmps23
    go_wp2_with (go_at_call 38; refine hp.mono ?_; rintro e w1 ⟨rfl, hb1⟩)
    with_reducible refine (h2 w1 hb1).mono ?_
    rintro e w2 ⟨rfl, hww⟩
    rw [hww]
    go_wp2_with fail
    go_ret
    exact ⟨ret_bool HF.out, hb1⟩
  · rw [lessT_bad hc]
    have e1 : (codeP zs ys == 0) = false := by rw [beq_eq_false_iff_ne]; exact hc
    clear hc
    generalize codeP zs ys = c at *
    go_enter Try.func23, Try.ntmps23
    go_wp2_with (go_at_call 38; refine hp.mono ?_; rintro e w1 ⟨rfl, hb1⟩)
    go_ret
    exact ⟨rfl, hb1⟩

set_option maxRecDepth 100000 in
set_option maxHeartbeats 2000000 in
theorem rtless_any (a : Option Addr) (ca : Nat) (zs : List Int) (b : Option Addr) (cb : Nat) (ys : List Int) (n₀ : Nat) (h63 : zs.length ≤ 9223372036854775807) (h64 : ys.length ≤ 9223372036854775807) (w : World) (hz : ZInts n₀ w a zs) (hy : ZInts n₀ w b ys) (hn₀ : n₀ ≤ w.heap.size) :
    Calls Try.prog 47 #[.slice a zs.length ca, .slice b ys.length cb] w fun e w' => e = .returned (.bool (lessT zs ys)) ∧ Below w.heap.size w w' := by
  have c1 := rtcheck_any a ca zs n₀ h63 w hz
  have c2 := rtcheck_any b cb ys n₀ h64 w hy
  by_cases hl : zs.length = ys.length
  · have d0 : ((zs.length : Int) != (ys.length : Int)) = false := by rw [bne_eq_false_iff_eq]; omega
    by_cases h1 : codeT zs = 0
    · rw [h1] at c1
      by_cases h2 : codeT ys = 0
      · rw [h2] at c2
        have HC := hide (codeP_ok h1 h2 hl)
        have HL := hide hl
        clear h1 h2 hl
        go_enter Try.func47, Try.ntmps47
        go_wp2_with fail
        with_reducible refine c1.mono ?_
        rintro e w1 ⟨rfl, hww⟩
        rw [hww]
        clear hww w1 c1
        go_wp2_with fail
        with_reducible refine c2.mono ?_
        rintro e w1 ⟨rfl, hww⟩
        rw [hww]
        clear hww w1 c2
        go_wp2_with fail
        go_loopw [5] (fun i wr => ∃ k : Nat, k ≤ zs.length ∧ i = .int .i64 k ∧ Below w.heap.size w wr ∧ Hid (∀ j, j < k → zd zs j = zd ys j)) (fun i _ => zs.length - (intOf i).toNat)
        case atStart => exact ⟨0, Nat.zero_le _, rfl, Below.refl _ _, hide fun j hj => by omega⟩
        case round =>
          obtain ⟨k, hk, rfl, hbr, HS⟩ := hrel
          by_cases hlt : k < zs.length
          · have hlt2 : k < ys.length := by have := HL.out; omega
            obtain ⟨bz, oz, rfl, hbz, hcz⟩ := (hz.below (hbr.mono hn₀)).at hlt
            obtain ⟨bb, oy, rfl, hby, hcy⟩ := (hy.below (hbr.mono hn₀)).at hlt2
            have ck0 := hcz k hlt
            have dk0 := hcy k hlt2
            have ck := cell_regrown ck0
            have dk := cell_regrown dk0
            have hsr := hbr.size
            have hbzr : bz < wr.heap.size := by omega
            have hbyr : bb < wr.heap.size := by omega
            clear hcz hcy
            by_cases hu : zd zs k = zd ys k
            · have HU := hide hu
              have e1 : (zd zs k != zd ys k) = false := by rw [bne_eq_false_iff_eq]; exact hu
              clear hu ck0 dk0
              go_wp2
              refine wp_region_quiet_below (by kernel_rfl) (by kernel_rfl) ?_
              repeat (go_big_quiet_step (fail))
              refine wpQuiet_nil ?_
              intro _ hw'
              obtain ⟨⟨dq, osq⟩, hw''⟩ := hw'
              subst hw''
              go_wp2
              go_roundw
              case rel => exact ⟨k + 1, by omega, by go_num, hbr.trans ((below_regrown _ dq osq).mono hsr), hide fun j hj => by
                by_cases e : j = k
                · rw [e]; exact HU.out
                · exact HS.out j (by omega)⟩
              case measure => simp [intOf]; omega
            · have e1 : (zd zs k != zd ys k) = true := by rw [bne_iff_ne]; exact hu
              have HF : Hid (decide (zd zs k < zd ys k) = lessT zs ys) := hide (by
                by_cases hv : zd zs k < zd ys k
                · rw [decide_eq_true hv, lessT_true.2 ⟨HC.out, k, hlt, HS.out, hv⟩]
                · rw [decide_eq_false hv, lessT_no HS.out (by omega)])
              clear hu
              go_wp2
              refine wp_region_quiet_below (by kernel_rfl) (by kernel_rfl) ?_
              repeat (go_big_quiet_step (fail))
              refine wpQuiet_nil ?_
              intro _ hw'
              obtain ⟨⟨dq, osq⟩, hw''⟩ := hw'
              subst hw''
              have hb2 := below_regrown wr dq osq
              have ck2 := cell_regrown ((hb2.cell (p := ⟨bz, oz + k, none⟩) hbzr).trans ck0)
              have dk2 := cell_regrown ((hb2.cell (p := ⟨bb, oy + k, none⟩) hbyr).trans dk0)
              have hb3 := hbr.trans (hb2.mono hsr)
              have hs3 := hb3.size
              clear ck0 dk0 ck dk hb2
              generalize Go.Sort.grow (redrawn wr dq) osq = V at *
              go_wp2
              refine wp_region_quiet_below (by kernel_rfl) (by kernel_rfl) ?_
              repeat (go_big_quiet_step (fail))
              refine wpQuiet_nil ?_
              intro _ hw'
              obtain ⟨⟨dq2, osq2⟩, hw''⟩ := hw'
              subst hw''
              go_wp2
              go_ret
              exact ⟨ret_bool HF.out, hb3.trans ((below_regrown _ dq2 osq2).mono hs3)⟩
          · have HF := hide (lessT_same (a := zs) (b := ys) fun i hi => HS.out i (by omega))
            go_wp2
            go_ret
            exact ⟨ret_bool HF.out.symm, hbr⟩
      · rw [lessT_bad (by rw [codeP_b h1 h2]; exact h2)]
        have e1 : (codeT ys != 0) = true := by rw [bne_iff_ne]; exact h2
        clear h1 h2 hl
        generalize codeT ys = c at *
        go_enter Try.func47, Try.ntmps47
        go_wp2_with fail
        with_reducible refine c1.mono ?_
        rintro e w1 ⟨rfl, hww⟩
        rw [hww]
        clear hww w1 c1
        go_wp2_with fail
        with_reducible refine c2.mono ?_
        rintro e w1 ⟨rfl, hww⟩
        rw [hww]
        clear hww w1 c2
        go_wp2_with fail
        go_ret
        exact ⟨rfl, Below.refl _ _⟩
    · rw [lessT_bad (by rw [codeP_a h1]; exact h1)]
      have e1 : (codeT zs != 0) = true := by rw [bne_iff_ne]; exact h1
      clear h1 c2 hl
      generalize codeT zs = c at *
      go_enter Try.func47, Try.ntmps47
      go_wp2_with fail
      with_reducible refine c1.mono ?_
      rintro e w1 ⟨rfl, hww⟩
      rw [hww]
      clear hww w1 c1
      go_wp2_with fail
      go_ret
      exact ⟨rfl, Below.refl _ _⟩
  · rw [lessT_bad (fun h => hl (codeP_zero h).2.2)]
    have d0 : ((zs.length : Int) != (ys.length : Int)) = true := by rw [bne_iff_ne]; omega
    clear hl c1 c2
    go_enter Try.func47, Try.ntmps47
    go_wp2_with fail
    go_ret
    exact ⟨rfl, Below.refl _ _⟩
end Go.Proofs.Ytdknniomgdjbfaa
