/- The contracts of cmp.Compare and slices.Compare of numbers, of package times' Less and of the document's TimesLess. -/
import Derived.Test.YtbnjbnjgfjpegaaTimTwo
namespace Go.Proofs.Ytbnjbnjgfjpegaa
open Go.RowKit Go.Shelf

def lexB (a b : List Int) : Bool := @decide (LexZ a b) (decLexZ a b)
theorem lexB_true {a b : List Int} : lexB a b = true ↔ LexZ a b := by unfold lexB; exact @decide_eq_true_iff _ (decLexZ a b)
theorem lexB_false {a b : List Int} : lexB a b = false ↔ ¬ LexZ a b := by unfold lexB; exact @decide_eq_false_iff_not _ (decLexZ a b)
theorem lex_asym {a b : List Int} (h : LexZ a b) : ¬ LexZ b a := by
  rintro ⟨m, _, hm, hl⟩
  obtain ⟨k, _, hk, hl'⟩ := h
  rcases Nat.lt_trichotomy m k with e | e | e
  · have := hk m e; omega
  · subst e; omega
  · have := hm k e; omega
/-- how two lists of as many numbers compare -/
def cmpL (a b : List Int) : Int := if lexB a b then -1 else if lexB b a then 1 else 0
theorem cmpL_lt {a b : List Int} (h : LexZ a b) : cmpL a b = -1 := by unfold cmpL; rw [lexB_true.2 h]; rfl
theorem cmpL_gt {a b : List Int} (h : LexZ b a) : cmpL a b = 1 := by unfold cmpL; rw [lexB_false.2 (lex_asym h), lexB_true.2 h]; rfl
theorem cmpL_eq {a b : List Int} (hl : a.length = b.length) (h : ∀ i, i < a.length → zd a i = zd b i) : cmpL a b = 0 := by
  have h1 : lexB a b = false := lexB_false.2 fun ⟨k, h1, _, h3⟩ => by have := h k h1; omega
  have h2 : lexB b a = false := lexB_false.2 fun ⟨k, h1, _, h3⟩ => by have := h k (by omega); omega
  unfold cmpL; rw [h1, h2]; rfl
theorem cmpL_neg {a b : List Int} : decide (cmpL a b < 0) = lexB a b := by
  unfold cmpL
  cases lexB a b
  · cases lexB b a <;> rfl
  · rfl
theorem lessT_lex {a b : List Int} (h : codeP a b = 0) : lessT a b = lexB a b := by
  unfold lessT lexB; rw [decide_eq_true h, Bool.true_and]

def cmpZ (x y : Int) : Int := if x < y then -1 else if y < x then 1 else 0
theorem isNaN_any (x : Int) (w : World) : Calls Try.prog 48 #[.int .i64 x] w fun e w' => e = .returned (.bool false) ∧ w' = w := by
  have hd : (x != x) = false := by simp
  go_enter Try.func48, Try.ntmps48
  go_wp2
  go_ret
  exact ⟨rfl, rfl⟩
theorem cmpZ_any (x y : Int) (w : World) : Calls Try.prog 35 #[.int .i64 x, .int .i64 y] w fun e w' => e = .returned (.int .i64 (cmpZ x y)) ∧ w' = w := by
  have h1 := isNaN_any x w
  have h2 := isNaN_any y w
  by_cases hlt : x < y
  · have HC := hide (show cmpZ x y = -1 from if_pos hlt)
    have d1 : decide (x < y) = true := by simp [hlt]
    clear hlt
    go_enter Try.func35, Try.ntmps35
    go_wp2_with (first | (with_reducible refine h1.mono ?_; rintro e w' ⟨rfl, rfl⟩) | (with_reducible refine h2.mono ?_; rintro e w' ⟨rfl, rfl⟩))
    go_ret
    exact ⟨ret_int HC.out.symm, rfl⟩
  · have d1 : decide (x < y) = false := by simp; omega
    by_cases hgt : y < x
    · have HC := hide (show cmpZ x y = 1 from (if_neg hlt).trans (if_pos hgt))
      have d2 : decide (y < x) = true := by simp [hgt]
      clear hlt hgt
      go_enter Try.func35, Try.ntmps35
      go_wp2_with (first | (with_reducible refine h1.mono ?_; rintro e w' ⟨rfl, rfl⟩) | (with_reducible refine h2.mono ?_; rintro e w' ⟨rfl, rfl⟩))
      go_ret
      exact ⟨ret_int HC.out.symm, rfl⟩
    · have HC := hide (show cmpZ x y = 0 from (if_neg hlt).trans (if_neg hgt))
      have d2 : decide (y < x) = false := by simp; omega
      clear hlt hgt
      go_enter Try.func35, Try.ntmps35
      go_wp2_with (first | (with_reducible refine h1.mono ?_; rintro e w' ⟨rfl, rfl⟩) | (with_reducible refine h2.mono ?_; rintro e w' ⟨rfl, rfl⟩))
      go_ret
      exact ⟨ret_int HC.out.symm, rfl⟩

set_option maxRecDepth 100000 in
set_option maxHeartbeats 1000000 in
theorem tcmp_any (a : Option Addr) (ca : Nat) (zs : List Int) (b : Option Addr) (cb : Nat) (ys : List Int) (n₀ : Nat) (hl : zs.length = ys.length) (h63 : zs.length ≤ 9223372036854775807) (w : World) (hz : ZInts n₀ w a zs) (hy : ZInts n₀ w b ys) :
    Calls Try.prog 36 #[.slice a zs.length ca, .slice b ys.length cb] w fun e w' => e = .returned (.int .i64 (cmpL zs ys)) ∧ w' = w := by
  have HL := hide hl
  clear hl
  go_enter Try.func36, Try.ntmps36
  go_wp2
  go_loop [11] (fun i => ∃ k : Nat, k ≤ zs.length ∧ i = .int .i64 k ∧ Hid (∀ j, j < k → zd zs j = zd ys j)) (fun i => zs.length - (intOf i).toNat)
  case atStart => exact ⟨0, Nat.zero_le _, rfl, hide fun j hj => by omega⟩
  case round =>
    obtain ⟨k, hk, rfl, HS⟩ := hrel
    by_cases hlt : k < zs.length
    · have hlt2 : k < ys.length := by have := HL.out; omega
      have dn : decide ((ys.length : Int) ≤ (k : Int)) = false := by simp; omega
      obtain ⟨bz, oz, rfl, hbz, hcz⟩ := hz.at hlt
      obtain ⟨bb, oy, rfl, hby, hcy⟩ := hy.at hlt2
      have ck := hcz k hlt
      have dk := hcy k hlt2
      clear hcz hcy
      have hcm := cmpZ_any (zd zs k) (zd ys k)
      by_cases hu : zd zs k < zd ys k
      · have HF := hide (cmpL_lt ⟨k, hlt, HS.out, hu⟩)
        rw [show cmpZ (zd zs k) (zd ys k) = -1 from if_pos hu] at hcm
        clear hu
        go_wp2_with (go_at_call 35; refine (hcm _).mono ?_; rintro e w' ⟨rfl, rfl⟩)
        go_ret
        exact ⟨ret_int HF.out.symm, rfl⟩
      · by_cases hv : zd ys k < zd zs k
        · have HF := hide (cmpL_gt ⟨k, hlt2, fun j hj => (HS.out j hj).symm, hv⟩)
          rw [show cmpZ (zd zs k) (zd ys k) = 1 from (if_neg hu).trans (if_pos hv)] at hcm
          clear hu hv
          go_wp2_with (go_at_call 35; refine (hcm _).mono ?_; rintro e w' ⟨rfl, rfl⟩)
          go_ret
          exact ⟨ret_int HF.out.symm, rfl⟩
        · have HU := hide (show zd zs k = zd ys k by omega)
          rw [show cmpZ (zd zs k) (zd ys k) = 0 from (if_neg hu).trans (if_neg hv)] at hcm
          clear hu hv
          go_wp2_with (go_at_call 35; refine (hcm _).mono ?_; rintro e w' ⟨rfl, rfl⟩)
          go_round
          case rel => exact ⟨k + 1, by omega, by go_num, hide fun j hj => by
            by_cases e : j = k
            · rw [e]; exact HU.out
            · exact HS.out j (by omega)⟩
          case measure => simp [intOf]; omega
    · have HF := hide (cmpL_eq HL.out fun i hi => HS.out i (by omega))
      have dn : ¬ zs.length < ys.length := by have := HL.out; omega
      go_wp2
      go_ret
      exact ⟨ret_int HF.out.symm, rfl⟩

end Go.Proofs.Ytbnjbnjgfjpegaa
