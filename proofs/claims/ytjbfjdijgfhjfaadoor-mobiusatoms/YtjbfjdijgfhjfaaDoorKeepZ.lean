/- The contract of watershedkeep's within, for whatever numbers. -/
import Derived.Test.YtjbfjdijgfhjfaaDoorRefCheck
import Derived.Test.YtjbfjdijgfhjfaaDoorZNum
import Derived.Lib.QuietBelow
namespace Go.Proofs.YtjbfjdijgfhjfaaDoor
open Go.RowKit Go.Shelf

theorem kwithin_z (n : Nat) (a : Option Addr) (cap : Nat) (zs : List Int) (n₀ : Nat) (h63 : zs.length ≤ 9223372036854775807) (w : World) (hw : ZInts n₀ w a zs) :
    Calls Tryd.prog 7 #[.int .i64 n, .slice a zs.length cap] w fun e w' => e = .returned (.bool (allInB n zs)) ∧ w' = w := by
  go_enter Tryd.func7, Tryd.ntmps7
  go_wp2
  go_loop [9] (fun i => ∃ k : Nat, k ≤ zs.length ∧ i = .int .i64 k ∧ ∀ j, j < k → 0 ≤ zd zs j ∧ zd zs j < (n : Int)) (fun i => zs.length - (intOf i).toNat)
  case atStart => exact ⟨0, Nat.zero_le _, rfl, fun j hj => by omega⟩
  case round =>
    obtain ⟨k, hk, rfl, hsofar⟩ := hrel
    by_cases hlt : k < zs.length
    · obtain ⟨b, off, rfl, hb, hc⟩ := hw.at hlt
      have hck := hc k hlt
      clear hc
      by_cases hneg : zd zs k < 0
      · have HF := hide (allInB_false.2 (show ¬ AllIn n zs from fun h => by have := (h k hlt).1; omega))
        have hd : decide (zd zs k < 0) = true := by simp [hneg]
        clear hneg
        go_wp2
        go_ret
        exact ⟨ret_bool HF.out.symm, rfl⟩
      · by_cases hge : (n : Int) ≤ zd zs k
        · have HF := hide (allInB_false.2 (show ¬ AllIn n zs from fun h => by have := (h k hlt).2; omega))
          have hd : decide (zd zs k < 0) = false := by simp; omega
          have hd2 : decide ((n : Int) ≤ zd zs k) = true := by simp [hge]
          clear hneg hge
          go_wp2
          go_ret
          exact ⟨ret_bool HF.out.symm, rfl⟩
        · have hd : decide (zd zs k < 0) = false := by simp; omega
          have hd2 : decide ((n : Int) ≤ zd zs k) = false := by simp; omega
          have HN := hide (show 0 ≤ zd zs k ∧ zd zs k < (n : Int) by omega)
          clear hneg hge
          go_wp2
          go_round
          case rel => exact ⟨k + 1, by omega, by go_num, fun j hj => by
            by_cases e : j = k
            · subst e; exact HN.out
            · exact hsofar j (by omega)⟩
          case measure => simp [intOf]; omega
    · have HF := hide (allInB_true.2 (show AllIn n zs from fun i hi => hsofar i (by omega)))
      go_wp2
      go_ret
      exact ⟨ret_bool HF.out.symm, rfl⟩
end Go.Proofs.YtjbfjdijgfhjfaaDoor
