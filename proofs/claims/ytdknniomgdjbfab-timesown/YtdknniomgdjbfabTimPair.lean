/- The contracts of package times' checkPair and Leq, of slices.Compare and Less; and of the document's TimesPair, TimesLeq, TimesLess, TimesSame. -/
import Derived.Test.YtdknniomgdjbfabTimLow
namespace Go.Proofs.Ytdknniomgdjbfab
open Go.RowKit Go.Shelf

set_option maxRecDepth 100000 in
set_option maxHeartbeats 1000000 in
theorem tpair_any (a : Option Addr) (ca : Nat) (zs : List Int) (b : Option Addr) (cb : Nat) (ys : List Int) (n₀ : Nat) (h63 : zs.length ≤ 9223372036854775807) (h64 : ys.length ≤ 9223372036854775807) (w : World) (hz : ZInts n₀ w a zs) (hy : ZInts n₀ w b ys) (hn₀ : n₀ ≤ w.heap.size) :
    Calls Try.prog 38 #[.agg #[.slice a zs.length ca, .slice b ys.length cb]] w fun e w' => e = .returned (.int .i64 (codeP zs ys)) ∧ Below w.heap.size w w' := by
  have hbB : Below w.heap.size w (w.alloc (.cells #[.slice a zs.length ca, .slice b ys.length cb] 60)) := (Below.refl _ _).alloc (Nat.le_refl _) _
  have r0 := Row.new w 60 [.slice a zs.length ca, .slice b ys.length cb]
  have hs1 := tcheck_any a ca zs n₀ h63 _ (hz.below (hbB.mono hn₀))
  have hs2 := tcheck_any b cb ys n₀ h64 _ (hy.below (hbB.mono hn₀))
  have c0 := r0.cell (i := 0) rfl
  have c1 := r0.cell (i := 1) rfl
  have HB := hide hbB
  have i0 : ∀ W, (Instr.index 60 (.agg #[.slice a zs.length ca, .slice b ys.length cb]) (.int .i64 0)).run Try.prog W = .ok (.slice a zs.length ca) W := fun _ => by kernel_rfl
  have i1 : ∀ W, (Instr.index 60 (.agg #[.slice a zs.length ca, .slice b ys.length cb]) (.int .i64 1)).run Try.prog W = .ok (.slice b ys.length cb) W := fun _ => by kernel_rfl
  clear hbB r0
  by_cases h1 : codeT zs = 0
  · rw [h1] at hs1
    by_cases h2 : codeT ys = 0
    · rw [h2] at hs2
      by_cases h3 : zs.length = ys.length
      · have HC := hide (codeP_ok h1 h2 h3)
        have e1 : ((zs.length : Int) != (ys.length : Int)) = false := by rw [bne_eq_false_iff_eq]; omega
        clear h1 h2 h3
        go_enter Try.func38, Try.ntmps38
        go_wp2_with fail
        go_loop [7] (fun i => ∃ k : Nat, k ≤ 2 ∧ i = .int .i64 k) (fun i => 2 - (intOf i).toNat)
        case atStart => exact ⟨0, by omega, rfl⟩
        case round =>
          obtain ⟨k, hk, rfl⟩ := hrel
          match k, hk with
          | 0, _ =>
            go_wp2_with (go_at_call 9; refine hs1.mono ?_; rintro e w' ⟨rfl, rfl⟩)
            go_round
            case rel => exact ⟨1, by omega, by go_num⟩
            case measure => simp [intOf]
          | 1, _ =>
            go_wp2_with (go_at_call 9; refine hs2.mono ?_; rintro e w' ⟨rfl, rfl⟩)
            go_round
            case rel => exact ⟨2, by omega, by go_num⟩
            case measure => simp [intOf]
          | 2, _ =>
            go_wp2_with fail
            go_ret
            exact ⟨ret_int HC.out.symm, HB.out⟩
      · have HC := hide (codeP_form h1 h2 h3)
        have e1 : ((zs.length : Int) != (ys.length : Int)) = true := by rw [bne_iff_ne]; omega
        clear h1 h2 h3
        go_enter Try.func38, Try.ntmps38
        go_wp2_with fail
        go_loop [7] (fun i => ∃ k : Nat, k ≤ 2 ∧ i = .int .i64 k) (fun i => 2 - (intOf i).toNat)
        case atStart => exact ⟨0, by omega, rfl⟩
        case round =>
          obtain ⟨k, hk, rfl⟩ := hrel
          match k, hk with
          | 0, _ =>
            go_wp2_with (go_at_call 9; refine hs1.mono ?_; rintro e w' ⟨rfl, rfl⟩)
            go_round
            case rel => exact ⟨1, by omega, by go_num⟩
            case measure => simp [intOf]
          | 1, _ =>
            go_wp2_with (go_at_call 9; refine hs2.mono ?_; rintro e w' ⟨rfl, rfl⟩)
            go_round
            case rel => exact ⟨2, by omega, by go_num⟩
            case measure => simp [intOf]
          | 2, _ =>
            go_wp2_with fail
            go_ret
            exact ⟨ret_int HC.out.symm, HB.out⟩
    · have HC := hide (codeP_b h1 h2)
      have e1 : (codeT ys != 0) = true := by rw [bne_iff_ne]; exact h2
      clear h1 h2
      generalize codeT ys = c at *
      go_enter Try.func38, Try.ntmps38
      go_wp2_with fail
      go_loop [7] (fun i => ∃ k : Nat, k ≤ 1 ∧ i = .int .i64 k) (fun i => 2 - (intOf i).toNat)
      case atStart => exact ⟨0, by omega, rfl⟩
      case round =>
        obtain ⟨k, hk, rfl⟩ := hrel
        match k, hk with
        | 0, _ =>
          go_wp2_with (go_at_call 9; refine hs1.mono ?_; rintro e w' ⟨rfl, rfl⟩)
          go_round
          case rel => exact ⟨1, by omega, by go_num⟩
          case measure => simp [intOf]
        | 1, _ =>
          go_wp2_with (go_at_call 9; refine hs2.mono ?_; rintro e w' ⟨rfl, rfl⟩)
          go_ret
          exact ⟨ret_int HC.out.symm, HB.out⟩
  · have HC := hide (codeP_a (b := ys) h1)
    have e1 : (codeT zs != 0) = true := by rw [bne_iff_ne]; exact h1
    clear h1
    generalize codeT zs = c at *
    go_enter Try.func38, Try.ntmps38
    go_wp2_with fail
    go_loop [7] (fun i => i = .int .i64 (0 : Nat)) (fun i => 2 - (intOf i).toNat)
    case atStart => rfl
    case round =>
      subst hrel
      go_wp2_with (go_at_call 9; refine hs1.mono ?_; rintro e w' ⟨rfl, rfl⟩)
      go_ret
      exact ⟨ret_int HC.out.symm, HB.out⟩
end Go.Proofs.Ytdknniomgdjbfab
