/- The contracts of package times' Check, of its closure, of slices' ContainsFunc and IndexFunc at it; and of the document's TimesCheck. -/
import Derived.Test.YtdknniomgdjbfabTimPlain
import Derived.Lib.QuietBelow
import Derived.BigQuiet
namespace Go.Proofs.Ytdknniomgdjbfab
open Go.RowKit Go.Shelf

theorem tout_any (x : Int) (w : World) :
    Calls Try.prog 19 #[.int .i64 x] w fun e w' => e = .returned (.bool (outC x)) ∧ w' = w := by
  by_cases h1 : x < 0
  · have HO := hide (outC_true.2 (.inl h1))
    have hd : decide (x < 0) = true := by simp [h1]
    clear h1
    go_enter Try.func19, Try.ntmps19
    go_wp2
    go_ret
    exact ⟨ret_bool HO.out.symm, rfl⟩
  · have hd : decide (x < 0) = false := by simp; omega
    by_cases h2 : 1048576 < x
    · have HO := hide (outC_true.2 (.inr h2))
      have hd2 : decide (1048576 < x) = true := by simp [h2]
      clear h1 h2
      go_enter Try.func19, Try.ntmps19
      go_wp2
      go_ret
      exact ⟨ret_bool HO.out.symm, rfl⟩
    · have HO := hide (show outC x = false from outC_false.2 ⟨by omega, by omega⟩)
      have hd2 : decide (1048576 < x) = false := by simp; omega
      clear h1 h2
      go_enter Try.func19, Try.ntmps19
      go_wp2
      go_ret
      exact ⟨ret_bool HO.out.symm, rfl⟩

theorem tidx_any (a : Option Addr) (cap : Nat) (zs : List Int) (n₀ : Nat) (h63 : zs.length ≤ 9223372036854775807) (w : World) (hw : ZInts n₀ w a zs) :
    Calls Try.prog 26 #[.slice a zs.length cap, .func (.func 19) #[] #[]] w fun e w' => ∃ r : Int, e = .returned (.int .i64 r) ∧ w' = w ∧ decide (0 ≤ r) = !coordB zs := by
  go_enter Try.func26, Try.ntmps26
  go_wp2
  go_loop [8] (fun i => ∃ k : Nat, k ≤ zs.length ∧ i = .int .i64 k ∧ ∀ j, j < k → outC (zd zs j) = false) (fun i => zs.length - (intOf i).toNat)
  case atStart => exact ⟨0, Nat.zero_le _, rfl, fun j hj => by omega⟩
  case round =>
    obtain ⟨k, hk, rfl, hsofar⟩ := hrel
    by_cases hlt : k < zs.length
    · obtain ⟨b, off, rfl, hb, hc⟩ := hw.at hlt
      have hck := hc k hlt
      have ho := tout_any (zd zs k)
      clear hc
      cases hu : outC (zd zs k) with
      | true =>
        have HF := hide (coordB_false.2 (show ¬ Coords zs from fun h => by rw [h k hlt] at hu; cases hu))
        rw [hu] at ho
        clear hu
        go_wp2_with (go_at_call 19; refine (ho _).mono ?_; rintro e w' ⟨rfl, rfl⟩)
        go_ret
        exact ⟨_, rfl, rfl, by rw [HF.out]; simp⟩
      | false =>
        have HU := hide hu
        rw [hu] at ho
        clear hu
        go_wp2_with (go_at_call 19; refine (ho _).mono ?_; rintro e w' ⟨rfl, rfl⟩)
        go_round
        case rel => exact ⟨k + 1, by omega, by go_num, fun j hj => by
          by_cases e : j = k
          · rw [e]; exact HU.out
          · exact hsofar j (by omega)⟩
        case measure => simp [intOf]; omega
    · have HF := hide (coordB_true.2 (show Coords zs from fun i hi => hsofar i (by omega)))
      go_wp2
      go_ret
      exact ⟨_, rfl, rfl, by rw [HF.out]; rfl⟩

theorem tcon_any (a : Option Addr) (cap : Nat) (zs : List Int) (n₀ : Nat) (h63 : zs.length ≤ 9223372036854775807) (w : World) (hw : ZInts n₀ w a zs) :
    Calls Try.prog 18 #[.slice a zs.length cap, .func (.func 19) #[] #[]] w fun e w' => e = .returned (.bool (!coordB zs)) ∧ w' = w := by
  have h1 := tidx_any a cap zs n₀ h63 w hw
  generalize coordB zs = c at *
  go_enter Try.func18, Try.ntmps18
  go_wp2_with fail
  with_reducible refine h1.mono ?_
  rintro e w' ⟨r, rfl, rfl, hr⟩
  have HR := hide hr
  clear hr
  go_wp2_with fail
  go_ret
  exact ⟨ret_bool HR.out, rfl⟩

theorem tcheck_any (a : Option Addr) (cap : Nat) (zs : List Int) (n₀ : Nat) (h63 : zs.length ≤ 9223372036854775807) (w : World) (hw : ZInts n₀ w a zs) :
    Calls Try.prog 9 #[.slice a zs.length cap] w fun e w' => e = .returned (.int .i64 (codeT zs)) ∧ w' = w := by
  have h1 := tcon_any a cap zs n₀ h63 w hw
  by_cases hl : zs.length < 1 ∨ 4 < zs.length
  · have HC := hide (codeT_large hl)
    rcases hl with hl | hl
    all_goals
      go_enter Try.func9, Try.ntmps9
      go_wp2_with fail
      all_goals first
        | (exfalso; omega)
        | (go_ret; exact ⟨ret_int HC.out.symm, rfl⟩)
  · have l1 : 1 ≤ zs.length := by omega
    have l2 : zs.length ≤ 4 := by omega
    have HL := hide hl
    clear hl
    cases hc : coordB zs with
    | false =>
      have HC := hide (codeT_arg HL.out hc)
      rw [hc] at h1
      clear hc HL
      go_enter Try.func9, Try.ntmps9
      go_wp2_with (go_at_call 18; refine h1.mono ?_; rintro e w' ⟨rfl, rfl⟩)
      all_goals first
        | (exfalso; omega)
        | (go_ret; exact ⟨ret_int HC.out.symm, rfl⟩)
    | true =>
      have HC := hide (codeT_ok HL.out hc)
      rw [hc] at h1
      clear hc HL
      go_enter Try.func9, Try.ntmps9
      go_wp2_with (go_at_call 18; refine h1.mono ?_; rintro e w' ⟨rfl, rfl⟩)
      all_goals first
        | (exfalso; omega)
        | (go_ret; exact ⟨ret_int HC.out.symm, rfl⟩)

end Go.Proofs.Ytdknniomgdjbfab
