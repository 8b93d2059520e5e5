/- The contracts of watershedkeep's below, under, within. -/
import Derived.Test.YthhjhfjildmbhabDoorRefCheck
import Derived.Test.YthhjhfjildmbhabDoorCoversPlain
import Derived.Test.YthhjhfjildmbhabDoorIntVals
namespace Go.Proofs.YthhjhfjildmbhabDoor
open Go.RowKit Go.Shelf

theorem kbelow_any (n : Int) (a : Option Addr) (cap : Nat) (us : List Nat) (i j n₀ : Nat) (hf : Fit us) (hi : i < us.length) (hj : j < 32) (w : World) (hw : IsWords n₀ w a us) (hn : n₀ ≤ w.heap.size) :
    Calls Tryd.prog 12 #[.agg #[.int .i64 n, .slice a us.length cap], .int .i64 i, .int .i64 j] w fun e w' => e = .returned (.bool (hasB (wd us i) j)) ∧ Below w.heap.size w w' := by
  obtain ⟨b, off, rfl, hb, hc⟩ := hw.at hi
  have hci := hc i hi
  have hfi := hf i
  have hbw : b < w.heap.size := by omega
  clear hc
  go_enter Tryd.func12, Tryd.ntmps12
  go_wp2_with (go_at_call 28; refine (Bit_any _ _ hfi (by omega) _).mono ?_; rintro e w' ⟨rfl, rfl⟩)
  go_ret
  exact ⟨rfl, (Below.refl _ _).alloc (Nat.le_refl _) _⟩
theorem kunder_any (n : Int) (a : Option Addr) (cap : Nat) (us : List Nat) (i j n₀ : Nat) (hf : Fit us) (hi : i < us.length) (hj : j < 32) (w : World) (hw : IsWords n₀ w a us) (hn : n₀ ≤ w.heap.size) :
    Calls Tryd.prog 19 #[.agg #[.int .i64 n, .slice a us.length cap], .int .i64 i, .int .i64 j] w fun e w' => e = .returned (.bool (underB us i j)) ∧ Below w.heap.size w w' := by
  have hb0 : Below w.heap.size w (w.alloc (.cells #[.int .i64 n, .slice a us.length cap] 24)) := (Below.refl _ _).alloc (Nat.le_refl _) _
  have hbe := kbelow_any n a cap us i j n₀ hf hi hj _ (hw.below (hb0.mono hn)) (by simp; omega)
  have Hb := hide hb0
  clear hb0
  by_cases hij : i = j
  · have hd : ((i : Int) != (j : Int)) = false := by rw [bne_eq_false_iff_eq]; omega
    have Hu := hide (underB_false (us := us) (i := i) (j := j) (fun h => h.1 hij))
    clear hij
    go_enter Tryd.func19, Tryd.ntmps19
    go_wp2
    go_ret
    exact ⟨ret_bool Hu.out.symm, Hb.out⟩
  · have hd : ((i : Int) != (j : Int)) = true := by rw [bne_iff_ne]; omega
    have Hu := hide (show hasB (wd us i) j = underB us i j by unfold underB; simp [hij])
    clear hij
    go_enter Tryd.func19, Tryd.ntmps19
    go_wp2_with (go_at_call 12; refine hbe.mono ?_; rintro e w1 ⟨rfl, hb1⟩)
    go_ret
    exact ⟨ret_bool Hu.out, Hb.out.trans (hb1.mono (by simp))⟩
theorem kwithin_true (n : Nat) (a : Option Addr) (cap : Nat) (l : List Nat) (n₀ : Nat) (h40 : l.length ≤ 1099511627776) (hall : ∀ i, i < l.length → wd l i < n) (w : World) (hw : IsInts n₀ w a l) :
    Calls Tryd.prog 11 #[.int .i64 n, .slice a l.length cap] w fun e w' => e = .returned (.bool true) ∧ w' = w := by
  go_enter Tryd.func11, Tryd.ntmps11
  go_wp2
  go_loop [9] (fun i => ∃ k : Nat, k ≤ l.length ∧ i = .int .i64 k) (fun i => l.length - (intOf i).toNat)
  case atStart => exact ⟨0, Nat.zero_le _, rfl⟩
  case round =>
    obtain ⟨k, hk, rfl⟩ := hrel
    by_cases hlt : k < l.length
    · obtain ⟨b, off, rfl, hb, hc⟩ := hw.at hlt
      have hck := hc k hlt
      clear hc
      have hx := hall k hlt
      have hd : decide (((wd l k : Nat) : Int) < 0) = false := by simp
      go_wp2
      go_round
      case rel => exact ⟨k + 1, by omega, by go_num⟩
      case measure => simp [intOf]; omega
    · go_wp2
      go_ret
      exact ⟨rfl, rfl⟩
end Go.Proofs.YthhjhfjildmbhabDoor
