/- The contract of the document's TimesSame. -/
import Derived.Test.YtbnjbnjgfjpegaaTimPlain
import Derived.Lib.QuietBelow
import Derived.BigQuiet
namespace Go.Proofs.Ytbnjbnjgfjpegaa
open Go.RowKit Go.Shelf

set_option maxRecDepth 100000 in
set_option maxHeartbeats 1000000 in
theorem rtsame_any (a : Option Addr) (ca : Nat) (zs : List Int) (b : Option Addr) (cb : Nat) (ys : List Int) (n₀ : Nat) (h63 : zs.length ≤ 9223372036854775807) (w : World) (hz : ZInts n₀ w a zs) (hy : ZInts n₀ w b ys) (hn₀ : n₀ ≤ w.heap.size) :
    Calls Try.prog 27 #[.slice a zs.length ca, .slice b ys.length cb] w fun e w' => e = .returned (.bool (sameB zs ys)) ∧ Below w.heap.size w w' := by
  by_cases hl : zs.length = ys.length
  · have d0 : ((zs.length : Int) != (ys.length : Int)) = false := by rw [bne_eq_false_iff_eq]; omega
    have HL := hide hl
    clear hl
    go_enter Try.func27, Try.ntmps27
    go_wp2_with fail
    go_loopw [5] (fun i wr => ∃ k : Nat, k ≤ zs.length ∧ i = .int .i64 k ∧ Below w.heap.size w wr ∧ ∀ j, j < k → zd zs j = zd ys j) (fun i _ => zs.length - (intOf i).toNat)
    case atStart => exact ⟨0, Nat.zero_le _, rfl, Below.refl _ _, fun j hj => by omega⟩
    case round =>
      obtain ⟨k, hk, rfl, hbr, hsofar⟩ := hrel
      have HS := hide hsofar
      clear hsofar
      by_cases hlt : k < zs.length
      · have hlt2 : k < ys.length := by have := HL.out; omega
        obtain ⟨bz, oz, rfl, hbz, hcz⟩ := (hz.below (hbr.mono hn₀)).at hlt
        obtain ⟨bb, oy, rfl, hby, hcy⟩ := (hy.below (hbr.mono hn₀)).at hlt2
        have ck := cell_regrown (hcz k hlt)
        have dk := cell_regrown (hcy k hlt2)
        have hsr := hbr.size
        clear hcz hcy
        by_cases hu : zd zs k = zd ys k
        · have HU := hide hu
          have e1 : (zd zs k != zd ys k) = false := by rw [bne_eq_false_iff_eq]; exact hu
          clear hu
          go_wp2
          refine wp_region_quiet_below (by kernel_rfl) (by kernel_rfl) ?_
          repeat (go_big_quiet_step (fail))
          refine wpQuiet_nil ?_
          intro _ hw'
          obtain ⟨⟨dq, osq⟩, hw''⟩ := hw'
          subst hw''
          go_wp2
          go_roundw
          case rel => exact ⟨k + 1, by omega, by go_num, hbr.trans ((below_regrown _ dq osq).mono hsr), fun j hj => by
            by_cases e : j = k
            · rw [e]; exact HU.out
            · exact HS.out j (by omega)⟩
          case measure => simp [intOf]; omega
        · have HF := hide (sameB_false.2 (show zs ≠ ys from fun e => hu (by rw [e])))
          have e1 : (zd zs k != zd ys k) = true := by rw [bne_iff_ne]; exact hu
          clear hu
          go_wp2
          refine wp_region_quiet_below (by kernel_rfl) (by kernel_rfl) ?_
          repeat (go_big_quiet_step (fail))
          refine wpQuiet_nil ?_
          intro _ hw'
          obtain ⟨⟨dq, osq⟩, hw''⟩ := hw'
          subst hw''
          go_wp2
          go_ret
          exact ⟨ret_bool HF.out.symm, hbr.trans ((below_regrown _ dq osq).mono hsr)⟩
      · have HF := hide (sameB_true.2 (zd_ext HL.out fun i hi => HS.out i (by omega)))
        go_wp2
        go_ret
        exact ⟨ret_bool HF.out.symm, hbr⟩
  · have HF := hide (sameB_false.2 (show zs ≠ ys from fun e => hl (by rw [e])))
    have d0 : ((zs.length : Int) != (ys.length : Int)) = true := by rw [bne_iff_ne]; omega
    clear hl
    go_enter Try.func27, Try.ntmps27
    go_wp2_with fail
    go_ret
    exact ⟨ret_bool HF.out.symm, Below.refl _ _⟩
end Go.Proofs.Ytbnjbnjgfjpegaa
