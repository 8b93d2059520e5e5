/- The contract of the document's join: the first element that both are below, and that is below all such; or -1. -/
import Derived.Test.YteoikfchmjnlfaaDoorJoinPlain
import Derived.Test.YteoikfchmjnlfaaDoorRefCheck
import Derived.Test.YteoikfchmjnlfaaDoorOwns
namespace Go.Proofs.YteoikfchmjnlfaaDoor
open Go.RowKit Go.Shelf

/-- z is above both, and below all of the first k that are -/
def leastTo (us : List Nat) (x y z k : Nat) : Bool := hasB (wd us x) z && hasB (wd us y) z && (List.range k).all fun v => !(hasB (wd us x) v && hasB (wd us y) v) || hasB (wd us z) v
theorem leastTo_succ (us : List Nat) (x y z k : Nat) : leastTo us x y z (k + 1) = (leastTo us x y z k && (!(hasB (wd us x) k && hasB (wd us y) k) || hasB (wd us z) k)) := by
  unfold leastTo
  rw [List.range_succ, List.all_append]
  simp [Bool.and_assoc]
theorem leastTo_iff {us : List Nat} {x y z : Nat} : leastTo us x y z us.length = true ↔ JoinAt us x y z := by
  unfold leastTo JoinAt leW
  rw [Bool.and_eq_true, Bool.and_eq_true, List.all_eq_true]
  constructor
  · rintro ⟨⟨h1, h2⟩, h3⟩
    refine ⟨h1, h2, fun v hv hx hy => ?_⟩
    have := h3 v (List.mem_range.2 hv)
    rw [hx, hy] at this
    simpa using this
  · rintro ⟨h1, h2, h3⟩
    refine ⟨⟨h1, h2⟩, fun v hv => ?_⟩
    have := h3 v (List.mem_range.1 hv)
    cases hx : hasB (wd us x) v with
    | false => rfl
    | true =>
      cases hy : hasB (wd us y) v with
      | false => rfl
      | true => rw [this hx hy]; rfl

set_option maxRecDepth 100000 in
set_option maxHeartbeats 2000000 in
theorem join_any (a : Option Addr) (cap : Nat) (us : List Nat) (x y n₀ : Nat) (hf : Fit us) (hl : us.length ≤ 16) (hx : x < us.length) (hy : y < us.length) (w : World) (hw : IsWords n₀ w a us) (hn₀ : n₀ ≤ w.heap.size) :
    Calls Tryd.prog 35 #[.agg #[.int .i64 us.length, .slice a us.length cap], .int .i64 x, .int .i64 y] w fun e w' => ∃ r : Int, e = .returned (.int .i64 r) ∧ Below w.heap.size w w' ∧ ((r = -1 ∧ ∀ z, z < us.length → ¬ JoinAt us x y z) ∨ ∃ z : Nat, z < us.length ∧ r = (z : Int) ∧ JoinAt us x y z) := by
  obtain ⟨r0, hb0, hs0⟩ := one_row w 24 (.int .i64 us.length) (.slice a us.length cap) rfl
  go_enter Tryd.func35, Tryd.ntmps35
  go_wp2
  generalize w.alloc (.cells #[.int .i64 us.length, .slice a us.length cap] 24) = w1 at *
  have hbl : ∀ (v : Bool) (i j : Nat) (W : World), i < us.length → j < us.length → hasB (wd us i) j = v → Below w1.heap.size w1 W → Calls Tryd.prog 36 #[.agg #[.int .i64 us.length, .slice a us.length cap], .int .i64 i, .int .i64 j] W fun e w' => e = .returned (.bool v) ∧ Below W.heap.size W w' ∧ Below w1.heap.size w1 w' ∧ Row w' w.heap.size 24 [.int .i64 us.length, .slice a us.length cap] := fun v i j W hi hj hv hB =>
    (Below_any us.length a cap us i j n₀ hf hi (by omega) W ((hw.below (hb0.mono hn₀)).below (hB.mono (by omega))) (by have := hB.size; omega)).mono (by
      rintro e w' ⟨rfl, hb⟩
      rw [hv]
      have hB' : Below w1.heap.size w1 w' := hB.trans (hb.mono hB.size)
      exact ⟨rfl, hb, hB', row_below r0 hB' r0.lt⟩)
  go_loopw [7] (fun i wr => ∃ k : Nat, k ≤ us.length ∧ i = .int .i64 k ∧ (∀ z, z < k → ¬ JoinAt us x y z) ∧ Below w1.heap.size w1 wr) (fun i _ => us.length - (intOf i).toNat)
  case atStart => exact ⟨0, Nat.zero_le _, rfl, fun z hz => by omega, Below.refl _ _⟩
  case round =>
    obtain ⟨k, hk, rfl, hno, hB⟩ := hrel
    have q0 := row_below r0 hB r0.lt
    have c00 := q0.cell (i := 0) rfl
    have c01 := q0.cell (i := 1) rfl
    by_cases hlt : k < us.length
    · cases h1 : hasB (wd us x) k with
      | false =>
        have HL := hide (show leastTo us x y k 0 = false by unfold leastTo; rw [h1]; rfl)
        have a1 := hbl _ x k wr hx hlt h1 hB
        clear h1
        go_wp2_with (go_at_call 36; refine a1.mono ?_; rintro e v2 ⟨rfl, _, hV2, _⟩)
        go_loopw [8, 9] (fun l j wr => ∃ j' : Nat, j' ≤ us.length ∧ j = .int .i64 j' ∧ l = .bool (leastTo us x y k j') ∧ Below w1.heap.size w1 wr) (fun _ j _ => us.length - (intOf j).toNat)
        case atStart => exact ⟨0, Nat.zero_le _, rfl, by rw [HL.out], hV2⟩
        case round =>
          clear q0 c00 c01
          obtain ⟨j, hj, rfl, rfl, hBj⟩ := hrel
          have q0 := row_below r0 hBj r0.lt
          have c00 := q0.cell (i := 0) rfl
          have c01 := q0.cell (i := 1) rfl
          by_cases hlj : j < us.length
          · have hsu := leastTo_succ us x y k j
            cases g1 : hasB (wd us x) j with
            | false =>
              rw [g1] at hsu
              have HS := hide hsu
              have b1 := hbl _ x j wr hx hlj g1 hBj
              clear hsu g1
              go_wp2_with (go_at_call 36; refine b1.mono ?_; rintro e w2 ⟨rfl, _, hB2, _⟩)
              exact ⟨⟨j + 1, by omega, by go_num, by rw [HS.out]; simp, hB2⟩, by simp [intOf]; omega⟩
            | true =>
              rw [g1] at hsu
              have b1 := hbl _ x j wr hx hlj g1 hBj
              clear g1
              cases g2 : hasB (wd us y) j with
              | false =>
                rw [g2] at hsu
                have HS := hide hsu
                have b2 := fun W hW => hbl _ y j W hy hlj g2 hW
                clear hsu g2
                go_wp2_with (first
                  | (go_at_call 36; refine b1.mono ?_; rintro e w2 ⟨rfl, _, hB2, p0⟩; have d00 := p0.cell (i := 0) rfl; have d01 := p0.cell (i := 1) rfl; have b2' := b2 w2 hB2; clear b1)
                  | (go_at_call 36; refine b2'.mono ?_; rintro e w3 ⟨rfl, _, hB3, _⟩))
                exact ⟨⟨j + 1, by omega, by go_num, by rw [HS.out]; simp, hB3⟩, by simp [intOf]; omega⟩
              | true =>
                rw [g2] at hsu
                have b2 := fun W hW => hbl _ y j W hy hlj g2 hW
                clear g2
                cases g3 : hasB (wd us k) j with
                | true =>
                  rw [g3] at hsu
                  have HS := hide hsu
                  have b3 := fun W hW => hbl _ k j W hlt hlj g3 hW
                  clear hsu g3
                  go_wp2_with (first
                    | (go_at_call 36; refine b1.mono ?_; rintro e w2 ⟨rfl, _, hB2, p0⟩; have d00 := p0.cell (i := 0) rfl; have d01 := p0.cell (i := 1) rfl; have b2' := b2 w2 hB2; clear b1)
                    | (go_at_call 36; refine b2'.mono ?_; rintro e w3 ⟨rfl, _, hB3, p3⟩; have d30 := p3.cell (i := 0) rfl; have d31 := p3.cell (i := 1) rfl; have b3' := b3 w3 hB3; clear b2')
                    | (go_at_call 36; refine b3'.mono ?_; rintro e w4 ⟨rfl, _, hB4, _⟩))
                  exact ⟨⟨j + 1, by omega, by go_num, by rw [HS.out]; simp, hB4⟩, by simp [intOf]; omega⟩
                | false =>
                  rw [g3] at hsu
                  have HS := hide hsu
                  have b3 := fun W hW => hbl _ k j W hlt hlj g3 hW
                  clear hsu g3
                  go_wp2_with (first
                    | (go_at_call 36; refine b1.mono ?_; rintro e w2 ⟨rfl, _, hB2, p0⟩; have d00 := p0.cell (i := 0) rfl; have d01 := p0.cell (i := 1) rfl; have b2' := b2 w2 hB2; clear b1)
                    | (go_at_call 36; refine b2'.mono ?_; rintro e w3 ⟨rfl, _, hB3, p3⟩; have d30 := p3.cell (i := 0) rfl; have d31 := p3.cell (i := 1) rfl; have b3' := b3 w3 hB3; clear b2')
                    | (go_at_call 36; refine b3'.mono ?_; rintro e w4 ⟨rfl, _, hB4, _⟩))
                  exact ⟨⟨j + 1, by omega, by go_num, by rw [HS.out]; simp, hB4⟩, by simp [intOf]; omega⟩
          · obtain rfl : j = us.length := by omega
            cases hz : leastTo us x y k us.length with
            | true =>
              have HJ := hide (leastTo_iff.1 hz)
              clear hz
              go_wp2
              go_ret
              exact ⟨_, rfl, hb0.trans (hBj.mono (by omega)), .inr ⟨k, hlt, rfl, HJ.out⟩⟩
            | false =>
              have HJ := hide (show ¬ JoinAt us x y k from fun h => by rw [leastTo_iff.2 h] at hz; cases hz)
              clear hz
              go_wp2
              exact ⟨⟨k + 1, by omega, by go_num, fun z hz => by
                by_cases e : z = k
                · rw [e]; exact HJ.out
                · exact hno z (by omega), hBj⟩, by simp [intOf]; omega⟩
      | true =>
        have a1 := hbl _ x k wr hx hlt h1 hB
        have Hh1 := hide h1
        clear h1
        cases h2 : hasB (wd us y) k with
        | false =>
          have HL := hide (show leastTo us x y k 0 = false by unfold leastTo; rw [h2]; simp)
          have a2 := fun W hW => hbl _ y k W hy hlt h2 hW
          clear h2
          go_wp2_with (first
            | (go_at_call 36; refine a1.mono ?_; rintro e v2 ⟨rfl, _, hV2, p0⟩; have d00 := p0.cell (i := 0) rfl; have d01 := p0.cell (i := 1) rfl; have a2' := a2 v2 hV2; clear a1)
            | (go_at_call 36; refine a2'.mono ?_; rintro e v3 ⟨rfl, _, hV3, _⟩))
          clear d00 d01
          go_loopw [8, 9] (fun l j wr => ∃ j' : Nat, j' ≤ us.length ∧ j = .int .i64 j' ∧ l = .bool (leastTo us x y k j') ∧ Below w1.heap.size w1 wr) (fun _ j _ => us.length - (intOf j).toNat)
          case atStart => exact ⟨0, Nat.zero_le _, rfl, by rw [HL.out], hV3⟩
          case round =>
            clear q0 c00 c01
            obtain ⟨j, hj, rfl, rfl, hBj⟩ := hrel
            have q0 := row_below r0 hBj r0.lt
            have c00 := q0.cell (i := 0) rfl
            have c01 := q0.cell (i := 1) rfl
            by_cases hlj : j < us.length
            · have hsu := leastTo_succ us x y k j
              cases g1 : hasB (wd us x) j with
              | false =>
                rw [g1] at hsu
                have HS := hide hsu
                have b1 := hbl _ x j wr hx hlj g1 hBj
                clear hsu g1
                go_wp2_with (go_at_call 36; refine b1.mono ?_; rintro e w2 ⟨rfl, _, hB2, _⟩)
                exact ⟨⟨j + 1, by omega, by go_num, by rw [HS.out]; simp, hB2⟩, by simp [intOf]; omega⟩
              | true =>
                rw [g1] at hsu
                have b1 := hbl _ x j wr hx hlj g1 hBj
                clear g1
                cases g2 : hasB (wd us y) j with
                | false =>
                  rw [g2] at hsu
                  have HS := hide hsu
                  have b2 := fun W hW => hbl _ y j W hy hlj g2 hW
                  clear hsu g2
                  go_wp2_with (first
                    | (go_at_call 36; refine b1.mono ?_; rintro e w2 ⟨rfl, _, hB2, p0⟩; have d00 := p0.cell (i := 0) rfl; have d01 := p0.cell (i := 1) rfl; have b2' := b2 w2 hB2; clear b1)
                    | (go_at_call 36; refine b2'.mono ?_; rintro e w3 ⟨rfl, _, hB3, _⟩))
                  exact ⟨⟨j + 1, by omega, by go_num, by rw [HS.out]; simp, hB3⟩, by simp [intOf]; omega⟩
                | true =>
                  rw [g2] at hsu
                  have b2 := fun W hW => hbl _ y j W hy hlj g2 hW
                  clear g2
                  cases g3 : hasB (wd us k) j with
                  | true =>
                    rw [g3] at hsu
                    have HS := hide hsu
                    have b3 := fun W hW => hbl _ k j W hlt hlj g3 hW
                    clear hsu g3
                    go_wp2_with (first
                      | (go_at_call 36; refine b1.mono ?_; rintro e w2 ⟨rfl, _, hB2, p0⟩; have d00 := p0.cell (i := 0) rfl; have d01 := p0.cell (i := 1) rfl; have b2' := b2 w2 hB2; clear b1)
                      | (go_at_call 36; refine b2'.mono ?_; rintro e w3 ⟨rfl, _, hB3, p3⟩; have d30 := p3.cell (i := 0) rfl; have d31 := p3.cell (i := 1) rfl; have b3' := b3 w3 hB3; clear b2')
                      | (go_at_call 36; refine b3'.mono ?_; rintro e w4 ⟨rfl, _, hB4, _⟩))
                    exact ⟨⟨j + 1, by omega, by go_num, by rw [HS.out]; simp, hB4⟩, by simp [intOf]; omega⟩
                  | false =>
                    rw [g3] at hsu
                    have HS := hide hsu
                    have b3 := fun W hW => hbl _ k j W hlt hlj g3 hW
                    clear hsu g3
                    go_wp2_with (first
                      | (go_at_call 36; refine b1.mono ?_; rintro e w2 ⟨rfl, _, hB2, p0⟩; have d00 := p0.cell (i := 0) rfl; have d01 := p0.cell (i := 1) rfl; have b2' := b2 w2 hB2; clear b1)
                      | (go_at_call 36; refine b2'.mono ?_; rintro e w3 ⟨rfl, _, hB3, p3⟩; have d30 := p3.cell (i := 0) rfl; have d31 := p3.cell (i := 1) rfl; have b3' := b3 w3 hB3; clear b2')
                      | (go_at_call 36; refine b3'.mono ?_; rintro e w4 ⟨rfl, _, hB4, _⟩))
                    exact ⟨⟨j + 1, by omega, by go_num, by rw [HS.out]; simp, hB4⟩, by simp [intOf]; omega⟩
            · obtain rfl : j = us.length := by omega
              cases hz : leastTo us x y k us.length with
              | true =>
                have HJ := hide (leastTo_iff.1 hz)
                clear hz
                go_wp2
                go_ret
                exact ⟨_, rfl, hb0.trans (hBj.mono (by omega)), .inr ⟨k, hlt, rfl, HJ.out⟩⟩
              | false =>
                have HJ := hide (show ¬ JoinAt us x y k from fun h => by rw [leastTo_iff.2 h] at hz; cases hz)
                clear hz
                go_wp2
                exact ⟨⟨k + 1, by omega, by go_num, fun z hz => by
                  by_cases e : z = k
                  · rw [e]; exact HJ.out
                  · exact hno z (by omega), hBj⟩, by simp [intOf]; omega⟩
        | true =>
          have HL := hide (show leastTo us x y k 0 = true by unfold leastTo; rw [h2, Hh1.out]; rfl)
          have a2 := fun W hW => hbl _ y k W hy hlt h2 hW
          clear h2
          go_wp2_with (first
            | (go_at_call 36; refine a1.mono ?_; rintro e v2 ⟨rfl, _, hV2, p0⟩; have d00 := p0.cell (i := 0) rfl; have d01 := p0.cell (i := 1) rfl; have a2' := a2 v2 hV2; clear a1)
            | (go_at_call 36; refine a2'.mono ?_; rintro e v3 ⟨rfl, _, hV3, _⟩))
          clear d00 d01
          go_loopw [8, 9] (fun l j wr => ∃ j' : Nat, j' ≤ us.length ∧ j = .int .i64 j' ∧ l = .bool (leastTo us x y k j') ∧ Below w1.heap.size w1 wr) (fun _ j _ => us.length - (intOf j).toNat)
          case atStart => exact ⟨0, Nat.zero_le _, rfl, by rw [HL.out], hV3⟩
          case round =>
            clear q0 c00 c01
            obtain ⟨j, hj, rfl, rfl, hBj⟩ := hrel
            have q0 := row_below r0 hBj r0.lt
            have c00 := q0.cell (i := 0) rfl
            have c01 := q0.cell (i := 1) rfl
            by_cases hlj : j < us.length
            · have hsu := leastTo_succ us x y k j
              cases g1 : hasB (wd us x) j with
              | false =>
                rw [g1] at hsu
                have HS := hide hsu
                have b1 := hbl _ x j wr hx hlj g1 hBj
                clear hsu g1
                go_wp2_with (go_at_call 36; refine b1.mono ?_; rintro e w2 ⟨rfl, _, hB2, _⟩)
                exact ⟨⟨j + 1, by omega, by go_num, by rw [HS.out]; simp, hB2⟩, by simp [intOf]; omega⟩
              | true =>
                rw [g1] at hsu
                have b1 := hbl _ x j wr hx hlj g1 hBj
                clear g1
                cases g2 : hasB (wd us y) j with
                | false =>
                  rw [g2] at hsu
                  have HS := hide hsu
                  have b2 := fun W hW => hbl _ y j W hy hlj g2 hW
                  clear hsu g2
                  go_wp2_with (first
                    | (go_at_call 36; refine b1.mono ?_; rintro e w2 ⟨rfl, _, hB2, p0⟩; have d00 := p0.cell (i := 0) rfl; have d01 := p0.cell (i := 1) rfl; have b2' := b2 w2 hB2; clear b1)
                    | (go_at_call 36; refine b2'.mono ?_; rintro e w3 ⟨rfl, _, hB3, _⟩))
                  exact ⟨⟨j + 1, by omega, by go_num, by rw [HS.out]; simp, hB3⟩, by simp [intOf]; omega⟩
                | true =>
                  rw [g2] at hsu
                  have b2 := fun W hW => hbl _ y j W hy hlj g2 hW
                  clear g2
                  cases g3 : hasB (wd us k) j with
                  | true =>
                    rw [g3] at hsu
                    have HS := hide hsu
                    have b3 := fun W hW => hbl _ k j W hlt hlj g3 hW
                    clear hsu g3
                    go_wp2_with (first
                      | (go_at_call 36; refine b1.mono ?_; rintro e w2 ⟨rfl, _, hB2, p0⟩; have d00 := p0.cell (i := 0) rfl; have d01 := p0.cell (i := 1) rfl; have b2' := b2 w2 hB2; clear b1)
                      | (go_at_call 36; refine b2'.mono ?_; rintro e w3 ⟨rfl, _, hB3, p3⟩; have d30 := p3.cell (i := 0) rfl; have d31 := p3.cell (i := 1) rfl; have b3' := b3 w3 hB3; clear b2')
                      | (go_at_call 36; refine b3'.mono ?_; rintro e w4 ⟨rfl, _, hB4, _⟩))
                    exact ⟨⟨j + 1, by omega, by go_num, by rw [HS.out]; simp, hB4⟩, by simp [intOf]; omega⟩
                  | false =>
                    rw [g3] at hsu
                    have HS := hide hsu
                    have b3 := fun W hW => hbl _ k j W hlt hlj g3 hW
                    clear hsu g3
                    go_wp2_with (first
                      | (go_at_call 36; refine b1.mono ?_; rintro e w2 ⟨rfl, _, hB2, p0⟩; have d00 := p0.cell (i := 0) rfl; have d01 := p0.cell (i := 1) rfl; have b2' := b2 w2 hB2; clear b1)
                      | (go_at_call 36; refine b2'.mono ?_; rintro e w3 ⟨rfl, _, hB3, p3⟩; have d30 := p3.cell (i := 0) rfl; have d31 := p3.cell (i := 1) rfl; have b3' := b3 w3 hB3; clear b2')
                      | (go_at_call 36; refine b3'.mono ?_; rintro e w4 ⟨rfl, _, hB4, _⟩))
                    exact ⟨⟨j + 1, by omega, by go_num, by rw [HS.out]; simp, hB4⟩, by simp [intOf]; omega⟩
            · obtain rfl : j = us.length := by omega
              cases hz : leastTo us x y k us.length with
              | true =>
                have HJ := hide (leastTo_iff.1 hz)
                clear hz
                go_wp2
                go_ret
                exact ⟨_, rfl, hb0.trans (hBj.mono (by omega)), .inr ⟨k, hlt, rfl, HJ.out⟩⟩
              | false =>
                have HJ := hide (show ¬ JoinAt us x y k from fun h => by rw [leastTo_iff.2 h] at hz; cases hz)
                clear hz
                go_wp2
                exact ⟨⟨k + 1, by omega, by go_num, fun z hz => by
                  by_cases e : z = k
                  · rw [e]; exact HJ.out
                  · exact hno z (by omega), hBj⟩, by simp [intOf]; omega⟩
    · go_wp2
      go_ret
      exact ⟨-1, rfl, hb0.trans (hB.mono (by omega)), .inl ⟨rfl, fun z hz => hno z (by omega)⟩⟩
end Go.Proofs.YteoikfchmjnlfaaDoor
