/- The document's Longs, MobiusZeta, MobiusTimes, MobiusSums; the law package's ones and added. -/
import Derived.Test.YtilffmalkegioaaDoorMobIsTab
import Derived.Test.YtilffmalkegioaaDoorRefLow
namespace Go.Proofs.YtilffmalkegioaaDoor
open Go.RowKit Go.Shelf

def longsB (a b : List B64) : Bool := decide (a = b)
theorem longsB_true {a b : List B64} : longsB a b = true ↔ a = b := by unfold longsB; exact decide_eq_true_iff
theorem longsB_false {a b : List B64} : longsB a b = false ↔ a ≠ b := by unfold longsB; exact decide_eq_false_iff_not
theorem longsB_self (a : List B64) : longsB a a = true := longsB_true.2 rfl

set_option maxRecDepth 100000 in
set_option maxHeartbeats 1000000 in
theorem Longs_any (aa : Option Addr) (ca : Nat) (a : List B64) (ab : Option Addr) (cb : Nat) (b : List B64) (n₀ : Nat) (ha : a.length ≤ 9223372036854775807) (w : World) (hva : ZInts n₀ w aa (tiL a)) (hvb : ZInts n₀ w ab (tiL b)) (hn₀ : n₀ ≤ w.heap.size) :
    Calls Tryd.prog 19 #[.slice aa a.length ca, .slice ab b.length cb] w fun e w' => e = .returned (.bool (longsB a b)) ∧ Below w.heap.size w w' := by
  by_cases hlen : a.length = b.length
  · have hd : ((a.length : Int) != (b.length : Int)) = false := by rw [hlen]; simp
    have HL := hide hlen
    go_enter Tryd.func19, Tryd.ntmps19
    go_wp2
    go_loopw [5] (fun i wr => ∃ k : Nat, k ≤ a.length ∧ i = .int .i64 k ∧ Below w.heap.size w wr ∧ ∀ i, i < k → bd a i = bd b i) (fun i _ => a.length - (intOf i).toNat)
    case atStart => exact ⟨0, Nat.zero_le _, rfl, Below.refl _ _, fun i hi => absurd hi (Nat.not_lt_zero _)⟩
    case round =>
      obtain ⟨k, hk, rfl, hB, hK⟩ := hrel
      have hBs := hB.size
      by_cases hlt : k < a.length
      · obtain ⟨b1, o1, rfl, hb1, hc1⟩ := (hva.below (hB.mono hn₀)).cellsB (i := k) hlt
        obtain ⟨b2, o2, rfl, hb2, hc2⟩ := (hvb.below (hB.mono hn₀)).cellsB (i := k) (by omega)
        have k1 := hc1 k hlt
        have k2 := hc2 k (by omega)
        clear hc1 hc2
        have g1 := cell_regrown k1
        have g2 := cell_regrown k2
        have HK := hide hK
        by_cases he : bd a k = bd b k
        · have hd2 : ((bd a k).toInt != (bd b k).toInt) = false := by rw [he]; simp
          have HE := hide he
          clear hK he
          generalize (bd a k).toInt = x at *
          generalize (bd b k).toInt = y at *
          go_wp2
          refine wp_region_quiet_below (by kernel_rfl) (by kernel_rfl) ?_
          repeat (go_big_quiet_step (fail))
          refine wpQuiet_nil ?_
          intro _ hw'
          obtain ⟨⟨dq, osq⟩, hw''⟩ := hw'
          subst hw''
          go_wp2
          go_roundw
          case rel => exact ⟨k + 1, by omega, by go_num, hB.trans ((below_regrown _ dq osq).mono hBs), fun i hi => by
            by_cases e : i = k
            · subst e; exact HE.out
            · exact HK.out i (by omega)⟩
          case measure => simp [intOf]; omega
        · have hd2 : ((bd a k).toInt != (bd b k).toInt) = true := by
            rw [bne_iff_ne]; intro h; exact he (toInt_eq.1 h)
          have HR := hide (longsB_false.2 (fun h : a = b => he (by rw [h])))
          clear hK he
          generalize (bd a k).toInt = x at *
          generalize (bd b k).toInt = y at *
          go_wp2
          refine wp_region_quiet_below (by kernel_rfl) (by kernel_rfl) ?_
          repeat (go_big_quiet_step (fail))
          refine wpQuiet_nil ?_
          intro _ hw'
          obtain ⟨⟨dq, osq⟩, hw''⟩ := hw'
          subst hw''
          go_wp2
          go_ret
          exact ⟨ret_bool HR.out.symm, hB.trans ((below_regrown _ dq osq).mono hBs)⟩
      · obtain rfl : k = a.length := by omega
        have HR := hide (longsB_true.2 (bd_ext HL.out hK))
        clear hK
        go_wp2
        go_ret
        exact ⟨ret_bool HR.out.symm, hB⟩
  · have hd : ((a.length : Int) != (b.length : Int)) = true := by rw [bne_iff_ne]; intro h; exact hlen (by exact_mod_cast h)
    have HR := hide (longsB_false.2 (fun h : a = b => hlen (by rw [h])))
    clear hlen
    go_enter Tryd.func19, Tryd.ntmps19
    go_wp2
    go_ret
    exact ⟨ret_bool HR.out.symm, Below.refl _ _⟩
/-- both are the same list -/
theorem Longs_same (aa : Option Addr) (ca : Nat) (ab : Option Addr) (cb : Nat) (l : List B64) (m : Nat) (n₀ : Nat) (hm : l.length = m) (hl : m ≤ 65536) (w : World) (hva : ZInts n₀ w aa (tiL l)) (hvb : ZInts n₀ w ab (tiL l)) (hn₀ : n₀ ≤ w.heap.size) :
    Calls Tryd.prog 19 #[.slice aa m ca, .slice ab m cb] w fun e w' => e = .returned (.bool true) ∧ Below w.heap.size w w' := by
  subst hm
  have := Longs_any aa ca l ab cb l n₀ (by omega) w hva hvb hn₀
  rw [longsB_self] at this
  exact this
end Go.Proofs.YtilffmalkegioaaDoor
