/- The contracts of the document's Under and Covered. The contracts of the document's DownsDown and DownsMaximal. -/
import Derived.Test.YtdeglbmoiofpoaaDoorPart16
import Derived.Test.YtdeglbmoiofpoaaDoorPart20
import Derived.Test.YtdeglbmoiofpoaaDoorPart5
namespace Go.Proofs.YtdeglbmoiofpoaaDoor
open Go.RowKit Go.Shelf

end Go.Proofs.YtdeglbmoiofpoaaDoor

namespace Go.Proofs.YtdeglbmoiofpoaaDoor
open Go.RowKit Go.Shelf

theorem orW_again (x b : Nat) : orW (orW x b) b = orW x b := by unfold orW; rw [Nat.or_assoc, Nat.or_self]
theorem under_eq (us : List Nat) (i j : Nat) : underB us i j = (decide (i ≠ j) && hasB (wd us i) j) := by
  rw [Bool.eq_iff_iff, underB_true, Bool.and_eq_true, decide_eq_true_iff]

set_option maxRecDepth 100000 in
set_option maxHeartbeats 1000000 in
theorem DownsDown_any (a : Option Addr) (cap : Nat) (us : List Nat) (s : Nat) (hs : s < 4294967296) (n₀ : Nat) (hf : Fit us) (hl : us.length ≤ 16) (w : World) (hw : IsWords n₀ w a us) (hn₀ : n₀ ≤ w.heap.size) :
    Calls Tryd.prog 41 #[.agg #[.int .i64 us.length, .slice a us.length cap], .int .u32 s] w fun e w' => e = .returned (.int .u32 (wordOf (fun i => someB us s i us.length) us.length : Nat)) ∧ Below w.heap.size w w' := by
  go_enter Tryd.func41, Tryd.ntmps41
  go_wp2
  go_loopw [5, 6] (fun x i wr => ∃ k : Nat, k ≤ us.length ∧ i = .int .i64 k ∧ x = .int .u32 (wordOf (fun i => someB us s i us.length) k : Nat) ∧ InBox w.heap.size w wr us.length a us.length cap) (fun _ i _ => us.length - (intOf i).toNat)
  case atStart => exact ⟨0, Nat.zero_le _, rfl, rfl, ⟨by simp, by simp, (Below.refl _ _).alloc (Nat.le_refl _) _, by simp⟩⟩
  case round =>
    obtain ⟨k, hk, rfl, rfl, hbox⟩ := hrel
    have hc0 := hbox.c0
    have hc1 := hbox.c1
    by_cases hlt : k < us.length
    · have hst : wordOf (fun i => someB us s i us.length) (k + 1) = if someB us s k us.length then orW (wordOf (fun i => someB us s i us.length) k) (bitW k) else wordOf (fun i => someB us s i us.length) k := rfl
      have hwl := wordOf_lt (fun i => someB us s i us.length) (k := k) (by omega)
      have Hst := hide hst
      clear hst
      generalize wordOf (fun i => someB us s i us.length) k = x at *
      have hbr := bit_raw (i := k) (by omega)
      have hbl := bitW_lt (i := k) (by omega)
      have hor := bits_or32 x (bitW k) hwl hbl
      have hor2 := bits_or32 (orW x (bitW k)) (bitW k) (orW_lt hwl hbl) hbl
      rw [orW_again] at hor2
      go_wp2
      go_loopw [5, 7] (fun y j wr => ∃ j' : Nat, j' ≤ us.length ∧ j = .int .i64 j' ∧ y = .int .u32 ((if someB us s k j' then orW x (bitW k) else x : Nat) : Nat) ∧ InBox w.heap.size w wr us.length a us.length cap) (fun _ j _ => us.length - (intOf j).toNat)
      case atStart => exact ⟨0, Nat.zero_le _, rfl, rfl, hbox⟩
      case round =>
        clear hc0 hc1 hbox
        obtain ⟨j, hj, rfl, rfl, hbox⟩ := hrel
        have hc0 := hbox.c0
        have hc1 := hbox.c1
        by_cases hlj : j < us.length
        · have hbel := Below_any us.length a cap us k j n₀ hf hlt (by omega) wr (hw.below (hbox.bel.mono hn₀)) (by have := hbox.le; omega)
          have hss : someB us s k (j + 1) = (someB us s k j || (hasB s j && hasB (wd us k) j)) := rfl
          have hbit := fun W : World => Bit_any s j hs (by omega) W
          cases hsj : hasB s j with
          | false =>
            have HS : Hid (someB us s k (j + 1) = someB us s k j) := by rw [hss, hsj]; simp [Hid]
            rw [hsj] at hbit
            clear hss hsj
            go_wp2_with (go_at_call 44; refine (hbit _).mono ?_; rintro e w1 ⟨rfl, rfl⟩)
            exact ⟨⟨j + 1, by omega, by go_num, by rw [HS.out], hbox⟩, by simp [intOf]; omega⟩
          | true =>
            cases hb : hasB (wd us k) j with
            | false =>
              have HS : Hid (someB us s k (j + 1) = someB us s k j) := by rw [hss, hb]; simp [Hid]
              rw [hsj] at hbit
              rw [hb] at hbel
              clear hss hsj hb
              go_wp2_with (first | (go_at_call 44; refine (hbit _).mono ?_; rintro e w1 ⟨rfl, rfl⟩) | (go_at_call 38; refine hbel.mono ?_; rintro e w1 ⟨rfl, hb1⟩))
              exact ⟨⟨j + 1, by omega, by go_num, by rw [HS.out], hbox.step hbox.le hb1⟩, by simp [intOf]; omega⟩
            | true =>
              have HS : Hid (someB us s k (j + 1) = true) := by rw [hss, hsj, hb]; simp [Hid]
              rw [hsj] at hbit
              rw [hb] at hbel
              clear hss hsj hb
              cases hp : someB us s k j with
              | true =>
                clear hp
                simp only [if_true]
                go_wp2_with (first | (go_at_call 44; refine (hbit _).mono ?_; rintro e w1 ⟨rfl, rfl⟩) | (go_at_call 38; refine hbel.mono ?_; rintro e w1 ⟨rfl, hb1⟩))
                exact ⟨⟨j + 1, by omega, by go_num, by rw [HS.out]; rfl, hbox.step hbox.le hb1⟩, by simp [intOf]; omega⟩
              | false =>
                clear hp
                simp only [Bool.false_eq_true, if_false]
                go_wp2_with (first | (go_at_call 44; refine (hbit _).mono ?_; rintro e w1 ⟨rfl, rfl⟩) | (go_at_call 38; refine hbel.mono ?_; rintro e w1 ⟨rfl, hb1⟩))
                exact ⟨⟨j + 1, by omega, by go_num, by rw [HS.out]; rfl, hbox.step hbox.le hb1⟩, by simp [intOf]; omega⟩
        · obtain rfl : j = us.length := by omega
          go_wp2
          exact ⟨⟨k + 1, by omega, by go_num, by rw [Hst.out], hbox⟩, by simp [intOf]; omega⟩
    · obtain rfl : k = us.length := by omega
      go_wp2
      go_ret
      exact ⟨rfl, hbox.bel⟩

end Go.Proofs.YtdeglbmoiofpoaaDoor
