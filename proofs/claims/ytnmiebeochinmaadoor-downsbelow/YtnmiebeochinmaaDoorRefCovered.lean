/- The contracts of the document's Under and Covered. -/
import Derived.Test.YtnmiebeochinmaaDoorRefCheck
import Derived.Test.YtnmiebeochinmaaDoorCoversPlain
import Derived.Test.YtnmiebeochinmaaDoorBoxMore
namespace Go.Proofs.YtnmiebeochinmaaDoor
open Go.RowKit Go.Shelf

theorem Under_any (n : Int) (a : Option Addr) (cap : Nat) (us : List Nat) (i j n₀ : Nat) (hf : Fit us) (hi : i < us.length) (hj : j < 32) (w : World) (hw : IsWords n₀ w a us) (hn : n₀ ≤ w.heap.size) :
    Calls Tryd.prog 25 #[.agg #[.int .i64 n, .slice a us.length cap], .int .i64 i, .int .i64 j] w fun e w' => e = .returned (.bool (underB us i j)) ∧ Below w.heap.size w w' := by
  obtain ⟨b, off, rfl, hb, hc⟩ := hw.at hi
  have hci := hc i hi
  have hfi := hf i
  have hbw : b < w.heap.size := by omega
  clear hc
  by_cases hij : i = j
  · have hd : ((i : Int) != (j : Int)) = false := by rw [bne_eq_false_iff_eq]; omega
    have Hu := hide (underB_false (us := us) (i := i) (j := j) (fun h => h.1 hij))
    clear hij
    go_enter Tryd.func25, Tryd.ntmps25
    go_wp2
    go_ret
    exact ⟨ret_bool Hu.out.symm, (Below.refl _ _).alloc (Nat.le_refl _) _⟩
  · have hd : ((i : Int) != (j : Int)) = true := by rw [bne_iff_ne]; omega
    have Hu := hide (show hasB (wd us i) j = underB us i j by unfold underB; simp [hij])
    clear hij
    go_enter Tryd.func25, Tryd.ntmps25
    go_wp2_with (go_at_call 24; refine (Bit_any _ _ hfi (by omega) _).mono ?_; rintro e w' ⟨rfl, rfl⟩)
    go_ret
    exact ⟨ret_bool Hu.out, (Below.refl _ _).alloc (Nat.le_refl _) _⟩

set_option maxRecDepth 100000 in
set_option maxHeartbeats 1000000 in
theorem Covered_any (a : Option Addr) (cap : Nat) (us : List Nat) (i j n₀ : Nat) (hf : Fit us) (hl : us.length ≤ 16) (hi : i < us.length) (hj : j < us.length) (w : World) (hw : IsWords n₀ w a us) (hn₀ : n₀ ≤ w.heap.size) :
    Calls Tryd.prog 35 #[.agg #[.int .i64 us.length, .slice a us.length cap], .int .i64 i, .int .i64 j] w fun e w' => e = .returned (.bool (coverB us i j)) ∧ Below w.heap.size w w' := by
  have hbox0 : InBox w.heap.size w (w.alloc (.cells #[.int .i64 us.length, .slice a us.length cap] 24)) us.length a us.length cap :=
    ⟨by simp, by simp, (Below.refl _ _).alloc (Nat.le_refl _) _, by simp⟩
  cases hu : underB us i j with
  | false =>
    have hun := Under_any us.length a cap us i j n₀ hf hi (by omega) _ (hw.below (hbox0.bel.mono hn₀)) (by have := hbox0.le; omega)
    rw [hu] at hun
    have Hc := hide (coverB_under hu)
    have HB := hide hbox0
    clear hu hbox0
    go_enter Tryd.func35, Tryd.ntmps35
    go_wp2_with (go_at_call 25; refine hun.mono ?_; rintro e w1 ⟨rfl, hb1⟩)
    go_ret
    exact ⟨ret_bool Hc.out.symm, (HB.out.step HB.out.le hb1).bel⟩
  | true =>
    have hun := Under_any us.length a cap us i j n₀ hf hi (by omega) _ (hw.below (hbox0.bel.mono hn₀)) (by have := hbox0.le; omega)
    rw [hu] at hun
    have HU := hide hu
    have HB := hide hbox0
    clear hu hbox0
    go_enter Tryd.func35, Tryd.ntmps35
    go_wp2_with (go_at_call 25; refine hun.mono ?_; rintro e w1 ⟨rfl, hb1⟩)
    have hbox1 := HB.out.step HB.out.le hb1
    clear hun
    go_loopw [7] (fun x wr => ∃ k : Nat, k ≤ us.length ∧ x = .int .i64 k ∧ (∀ y, y < k → ¬ (underB us i y = true ∧ underB us y j = true)) ∧ InBox w.heap.size w wr us.length a us.length cap) (fun x _ => us.length - (intOf x).toNat)
    case atStart => exact ⟨0, Nat.zero_le _, rfl, fun j h1 => by omega, hbox1⟩
    case round =>
      obtain ⟨k, hk, rfl, hall, hbox⟩ := hrel
      have hc0 := hbox.c0
      have hc1 := hbox.c1
      by_cases hlt : k < us.length
      · rcases (show (underB us i k = true ∧ underB us k j = true) ∨ (underB us i k = false ∧ Hid (¬ (underB us i k = true ∧ underB us k j = true))) ∨ (underB us i k = true ∧ underB us k j = false ∧ Hid (¬ (underB us i k = true ∧ underB us k j = true))) from by
          unfold Hid; cases underB us i k <;> cases underB us k j <;> simp) with ⟨t1, t2⟩ | ⟨t1, Ht⟩ | ⟨t1, t2, Ht⟩
        all_goals
          go_wp2_with (go_at_call 25; refine (Under_any _ _ _ us _ _ n₀ hf (by omega) (by omega) _ (hw.below (hbox.bel.mono hn₀)) (by have := hbox.le; omega)).mono ?_; rintro e w1 ⟨rfl, hb1⟩; replace hbox := hbox.step hbox.le hb1; have hc0 := hbox.c0; have hc1 := hbox.c1)
        · go_ret
          exact ⟨ret_bool (coverB_false hlt t1 t2).symm, hbox.bel⟩
        all_goals
          refine ⟨⟨k + 1, by omega, by go_num, fun y h1 => ?_, hbox⟩, by simp [intOf]; omega⟩
          by_cases e : y = k
          · rw [e]; exact Ht.out
          · exact hall y (by omega)
      · go_wp2
        go_ret
        exact ⟨ret_bool (coverB_true.2 ⟨HU.out, fun x hx => hall x (by omega)⟩).symm, hbox.bel⟩
end Go.Proofs.YtnmiebeochinmaaDoor
