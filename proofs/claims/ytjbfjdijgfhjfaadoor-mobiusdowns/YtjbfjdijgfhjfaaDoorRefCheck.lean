/- The contract of the document's OrderCheck: the number of what is wrong. -/
import Derived.Test.YtjbfjdijgfhjfaaDoorRefLow
import Derived.WalkSmall
namespace Go.Proofs.YtjbfjdijgfhjfaaDoor
open Go.RowKit Go.Shelf

/-- an order lies in the box that a call has laid for its parameter -/
structure InBox (B : Nat) (w wr : World) (n : Int) (a : Option Addr) (len cap : Nat) : Prop where
  c0 : wr.cell? ⟨B, 0, none⟩ = some (.int .i64 n)
  c1 : wr.cell? ⟨B, 1, none⟩ = some (.slice a len cap)
  bel : Below w.heap.size w wr
  lt : B < wr.heap.size
theorem InBox.step {B : Nat} {w wr w' : World} {n : Int} {a : Option Addr} {len cap : Nat} (h : InBox B w wr n a len cap) (hw : w.heap.size ≤ wr.heap.size) (hb : Below wr.heap.size wr w') : InBox B w w' n a len cap :=
  ⟨(hb.cell (p := ⟨B, 0, none⟩) h.lt).trans h.c0, (hb.cell (p := ⟨B, 1, none⟩) h.lt).trans h.c1, h.bel.trans (hb.mono hw), Nat.lt_of_lt_of_le h.lt hb.size⟩
theorem InBox.drewN {B : Nat} {w wr : World} {n : Int} {a : Option Addr} {len cap : Nat} (h : InBox B w wr n a len cap) (m : Nat) : InBox B w (wr.drewN m) n a len cap :=
  h.step h.bel.size (below_drewN (Below.refl _ _) m)
theorem InBox.le {B : Nat} {w wr : World} {n : Int} {a : Option Addr} {len cap : Nat} (h : InBox B w wr n a len cap) : w.heap.size ≤ wr.heap.size := h.bel.size

theorem OrderCheck_large (n : Int) (a : Option Addr) (cap : Nat) (us : List Nat) (w : World) (hn : n < 0 ∨ 16 < n) :
    Calls Tryd.prog 28 #[.agg #[.int .i64 n, .slice a us.length cap]] w fun e w' => e = .returned (.int .i64 (codeOf n us)) ∧ Below w.heap.size w w' := by
  have Hc := hide (code_large (us := us) hn)
  rcases hn with hn | hn
  · have hd : decide (n < 0) = true := by simpa using hn
    go_enter Tryd.func28, Tryd.ntmps28
    go_wp2
    go_ret
    exact ⟨ret_int Hc.out.symm, (Below.refl _ _).alloc (Nat.le_refl _) _⟩
  · have hd : decide (n < 0) = false := by simp; omega
    go_enter Tryd.func28, Tryd.ntmps28
    go_wp2
    go_ret
    exact ⟨ret_int Hc.out.symm, (Below.refl _ _).alloc (Nat.le_refl _) _⟩
theorem OrderCheck_len (n : Int) (a : Option Addr) (cap : Nat) (us : List Nat) (w : World) (h0 : 0 ≤ n) (h1 : n ≤ 16) (hl : (us.length : Int) ≠ n) :
    Calls Tryd.prog 28 #[.agg #[.int .i64 n, .slice a us.length cap]] w fun e w' => e = .returned (.int .i64 (codeOf n us)) ∧ Below w.heap.size w w' := by
  have Hc := hide (code_len (us := us) (n := n) (by omega) hl)
  have hd : decide (n < 0) = false := by simp; omega
  have hne : ((us.length : Int) != n) = true := by rw [bne_iff_ne]; exact hl
  go_enter Tryd.func28, Tryd.ntmps28
  go_wp2
  go_ret
  exact ⟨ret_int Hc.out.symm, (Below.refl _ _).alloc (Nat.le_refl _) _⟩
theorem pair_bad {us : List Nat} {i j : Nat} (hi : i < us.length) (hj : j < us.length) (h : ¬ goodPair us i j) : isOrdB us = false :=
  isOrdB_false.2 fun ho => h ((ho i hi) j hj).1
theorem tri_bad {us : List Nat} {i j k : Nat} (hi : i < us.length) (hj : j < us.length) (hk : k < us.length) (h : ¬ goodTri us i j k) : isOrdB us = false :=
  isOrdB_false.2 fun ho => h (((ho i hi) j hj).2 k hk)

theorem pair_cases (us : List Nat) (i j : Nat) :
    (((i : Int) == (j : Int)) = true ∧ ((i : Int) != (j : Int)) = false ∧ hasB (wd us i) i = false ∧ Hid (¬ goodPair us i j)) ∨
    (((i : Int) == (j : Int)) = false ∧ ((i : Int) != (j : Int)) = true ∧ hasB (wd us i) j = true ∧ hasB (wd us j) i = true ∧ Hid (¬ goodPair us i j)) ∨
    (((i : Int) == (j : Int)) = true ∧ ((i : Int) != (j : Int)) = false ∧ hasB (wd us i) i = true ∧ Hid (goodPair us i j)) ∨
    (((i : Int) == (j : Int)) = false ∧ ((i : Int) != (j : Int)) = true ∧ hasB (wd us i) j = false ∧ Hid (goodPair us i j)) ∨
    (((i : Int) == (j : Int)) = false ∧ ((i : Int) != (j : Int)) = true ∧ hasB (wd us i) j = true ∧ hasB (wd us j) i = false ∧ Hid (goodPair us i j)) := by
  by_cases hij : i = j
  · have h1 : ((i : Int) == (j : Int)) = true := by rw [beq_iff_eq]; omega
    have h2 : ((i : Int) != (j : Int)) = false := by rw [bne_eq_false_iff_eq]; omega
    cases hii : hasB (wd us i) i with
    | false => exact .inl ⟨h1, h2, rfl, fun h => by rw [h.1 hij] at hii; cases hii⟩
    | true => exact .inr (.inr (.inl ⟨h1, h2, rfl, ⟨fun _ => hii, fun h => absurd hij h⟩⟩))
  · have h1 : ((i : Int) == (j : Int)) = false := by rw [beq_eq_false_iff_ne]; omega
    have h2 : ((i : Int) != (j : Int)) = true := by rw [bne_iff_ne]; omega
    cases h3 : hasB (wd us i) j with
    | false => exact .inr (.inr (.inr (.inl ⟨h1, h2, rfl, ⟨fun h => absurd h hij, fun _ h => by rw [h3] at h; cases h⟩⟩)))
    | true =>
      cases h4 : hasB (wd us j) i with
      | false => exact .inr (.inr (.inr (.inr ⟨h1, h2, rfl, rfl, ⟨fun h => absurd h hij, fun _ _ => h4⟩⟩)))
      | true => exact .inr (.inl ⟨h1, h2, rfl, rfl, fun h => by rw [h.2 hij h3] at h4; cases h4⟩)
theorem tri_cases (us : List Nat) (i j k : Nat) :
    (hasB (wd us i) j = true ∧ hasB (wd us j) k = true ∧ hasB (wd us i) k = false ∧ Hid (¬ goodTri us i j k)) ∨
    (hasB (wd us i) j = false ∧ Hid (goodTri us i j k)) ∨
    (hasB (wd us i) j = true ∧ hasB (wd us j) k = false ∧ Hid (goodTri us i j k)) ∨
    (hasB (wd us i) j = true ∧ hasB (wd us j) k = true ∧ hasB (wd us i) k = true ∧ Hid (goodTri us i j k)) := by
  cases h1 : hasB (wd us i) j with
  | false => exact .inr (.inl ⟨rfl, fun h => by rw [h1] at h; cases h⟩)
  | true =>
    cases h2 : hasB (wd us j) k with
    | false => exact .inr (.inr (.inl ⟨rfl, rfl, fun _ h => by rw [h2] at h; cases h⟩))
    | true =>
      cases h3 : hasB (wd us i) k with
      | false => exact .inl ⟨rfl, rfl, rfl, fun h => by rw [h h1 h2] at h3; cases h3⟩
      | true => exact .inr (.inr (.inr ⟨rfl, rfl, rfl, fun _ _ => h3⟩))

set_option maxRecDepth 100000 in
set_option maxHeartbeats 2000000 in
theorem OrderCheck_loops (a : Option Addr) (cap : Nat) (us : List Nat) (n₀ : Nat) (hf : Fit us) (hl : us.length ≤ 16) (w : World) (hw : IsWords n₀ w a us) (hn₀ : n₀ ≤ w.heap.size) :
    Calls Tryd.prog 28 #[.agg #[.int .i64 us.length, .slice a us.length cap]] w fun e w' => e = .returned (.int .i64 (codeOf us.length us)) ∧ Below w.heap.size w w' := by
  have hd : decide ((us.length : Int) < 0) = false := by simp
  have hd2 : ((us.length : Int) != (us.length : Int)) = false := by simp
  have hd3 : decide ((16 : Int) < (us.length : Int)) = false := by simp; omega
  go_enter Tryd.func28, Tryd.ntmps28
  go_wp2
  go_loopw [3] (fun i wr => ∃ k : Nat, k ≤ us.length ∧ i = .int .i64 k ∧ (∀ i', i' < k → outsideB (wd us i') us.length = false) ∧ InBox w.heap.size w wr us.length a us.length cap) (fun i _ => us.length - (intOf i).toNat)
  case atStart => exact ⟨0, Nat.zero_le _, rfl, fun j h1 => by omega, ⟨by simp, by simp, (Below.refl _ _).alloc (Nat.le_refl _) _, by simp⟩⟩
  case round =>
    clear hd hd2 hd3
    obtain ⟨k, hk, rfl, hall, hbox⟩ := hrel
    have hc0 := hbox.c0
    have hc1 := hbox.c1
    by_cases hlt : k < us.length
    · obtain ⟨b, off, ha, hb, hc⟩ := (hw.below (hbox.bel.mono hn₀)).at hlt
      subst ha
      have hck := hc k hlt
      clear hc
      cases ho : outsideB (wd us k) us.length with
      | true =>
        have hout := fun W : World => Outside_any (wd us k) us.length (hf k) hl W
        simp only [ho] at hout
        have Ho := hide ho; clear ho
        go_wp2
        go_quiet ((go_at_call 45; exact Calls.quiet_of_same (hout _)))
        have ho := Ho.out
        go_wp2
        go_ret
        refine ⟨ret_int (code_arg (by omega) rfl (insideB_false.2 fun hin => ?_)).symm, (hbox.drewN _).bel⟩
        rw [outsideB_false.2 fun i h1 h2 => ?_] at ho
        · cases ho
        · cases hb : hasB (wd us k) i with
          | false => rfl
          | true => have := hin k hlt i h1 hb; omega
      | false =>
        have hout := fun W : World => Outside_any (wd us k) us.length (hf k) hl W
        simp only [ho] at hout
        have Ho := hide ho; clear ho
        go_wp2
        go_quiet ((go_at_call 45; exact Calls.quiet_of_same (hout _)))
        have ho := Ho.out
        go_wp2
        refine ⟨⟨k + 1, by omega, by go_num, fun j h1 => ?_, hbox.drewN _⟩, by simp [intOf]; omega⟩
        by_cases e : j = k
        · rw [e]; exact ho
        · exact hall j (by omega)
    · have Hin := hide (insideB_true.2 (show Inside us from fun i hi j hj hb => by
        apply Nat.lt_of_not_le; intro hle
        rw [outsideB_false.1 (hall i (by omega)) j hj hle] at hb; cases hb))
      clear hall
      go_wp2
      go_loopw [4] (fun i wr => ∃ i' : Nat, i' ≤ us.length ∧ i = .int .i64 i' ∧ (∀ i'', i'' < i' → goodRow us i'') ∧ InBox w.heap.size w wr us.length a us.length cap) (fun i _ => us.length - (intOf i).toNat)
      case atStart => exact ⟨0, Nat.zero_le _, rfl, fun j h1 => by omega, hbox⟩
      case round =>
        clear hc0 hc1 hbox
        obtain ⟨i, hi, rfl, hrows, hbox⟩ := hrel
        have hc0 := hbox.c0
        have hc1 := hbox.c1
        by_cases hli : i < us.length
        · go_wp2
          go_loopw [5] (fun j wr => ∃ j' : Nat, j' ≤ us.length ∧ j = .int .i64 j' ∧ (∀ j'', j'' < j' → goodPair us i j'' ∧ ∀ k, k < us.length → goodTri us i j'' k) ∧ InBox w.heap.size w wr us.length a us.length cap) (fun j _ => us.length - (intOf j).toNat)
          case atStart => exact ⟨0, Nat.zero_le _, rfl, fun j h1 => by omega, hbox⟩
          case round =>
            clear hc0 hc1 hbox
            obtain ⟨j, hj, rfl, hpairs, hbox⟩ := hrel
            have hc0 := hbox.c0
            have hc1 := hbox.c1
            by_cases hlj : j < us.length
            · rcases pair_cases us i j with ⟨h1, h2, hii, Hgp⟩ | ⟨h1, h2, hij, hji, Hgp⟩ | ⟨h1, h2, hii, Hgp⟩ | ⟨h1, h2, hij, Hgp⟩ | ⟨h1, h2, hij, hji, Hgp⟩
              all_goals
                go_wp2_with (go_at_call 46; refine (Below_any _ _ _ us _ _ n₀ hf (by omega) (by omega) _ (hw.below (hbox.bel.mono hn₀)) (by have := hbox.le; omega)).mono ?_; rintro e w1 ⟨rfl, hb1⟩; replace hbox := hbox.step hbox.le hb1; have hc0 := hbox.c0; have hc1 := hbox.c1)
              · go_ret
                exact ⟨ret_int (code_form (by omega) rfl Hin.out (pair_bad hli hlj Hgp.out)).symm, hbox.bel⟩
              · go_ret
                exact ⟨ret_int (code_form (by omega) rfl Hin.out (pair_bad hli hlj Hgp.out)).symm, hbox.bel⟩
              all_goals
                go_loopw [6] (fun k wr => ∃ k' : Nat, k' ≤ us.length ∧ k = .int .i64 k' ∧ (∀ k'', k'' < k' → goodTri us i j k'') ∧ InBox w.heap.size w wr us.length a us.length cap) (fun k _ => us.length - (intOf k).toNat)
                case atStart => exact ⟨0, Nat.zero_le _, rfl, fun j h1 => by omega, hbox⟩
                case round =>
                  clear h1 h2
                  try clear hii
                  try clear hij
                  try clear hji
                  clear hc0 hc1 hbox
                  obtain ⟨k', hk', rfl, htris, hbox⟩ := hrel
                  have hc0 := hbox.c0
                  have hc1 := hbox.c1
                  by_cases hlk : k' < us.length
                  · rcases tri_cases us i j k' with ⟨t1, t2, t3, Hgt⟩ | ⟨t1, Hgt⟩ | ⟨t1, t2, Hgt⟩ | ⟨t1, t2, t3, Hgt⟩
                    all_goals
                      go_wp2_with (go_at_call 46; refine (Below_any _ _ _ us _ _ n₀ hf (by omega) (by omega) _ (hw.below (hbox.bel.mono hn₀)) (by have := hbox.le; omega)).mono ?_; rintro e w1 ⟨rfl, hb1⟩; replace hbox := hbox.step hbox.le hb1; have hc0 := hbox.c0; have hc1 := hbox.c1)
                    · go_ret
                      exact ⟨ret_int (code_form (by omega) rfl Hin.out (tri_bad hli hlj hlk Hgt.out)).symm, hbox.bel⟩
                    all_goals
                      refine ⟨⟨k' + 1, by omega, by go_num, fun k'' h1 => ?_, hbox⟩, by simp [intOf]; omega⟩
                      by_cases e : k'' = k'
                      · rw [e]; exact Hgt.out
                      · exact htris k'' (by omega)
                  · go_wp2
                    refine ⟨⟨j + 1, by omega, by go_num, fun j' h1 => ?_, hbox⟩, by simp [intOf]; omega⟩
                    by_cases e : j' = j
                    · rw [e]; exact ⟨Hgp.out, fun k hk => htris k (by omega)⟩
                    · exact hpairs j' (by omega)
            · go_wp2
              refine ⟨⟨i + 1, by omega, by go_num, fun j' h1 => ?_, hbox⟩, by simp [intOf]; omega⟩
              by_cases e : j' = i
              · rw [e]; exact fun j'' h2 => hpairs j'' (by omega)
              · exact hrows j' (by omega)
        · go_wp2
          go_ret
          exact ⟨ret_int (code_ok (by omega) rfl Hin.out (isOrdB_true.2 fun j hj => hrows j (by omega))).symm, hbox.bel⟩

/-- **the document's OrderCheck tells the number of what is wrong, for every order** -/
theorem OrderCheck_any (n : Int) (a : Option Addr) (cap : Nat) (us : List Nat) (n₀ : Nat) (hf : Fit us) (w : World) (hw : IsWords n₀ w a us) (hn₀ : n₀ ≤ w.heap.size) :
    Calls Tryd.prog 28 #[.agg #[.int .i64 n, .slice a us.length cap]] w fun e w' => e = .returned (.int .i64 (codeOf n us)) ∧ Below w.heap.size w w' := by
  by_cases h1 : n < 0 ∨ 16 < n
  · exact OrderCheck_large n a cap us w h1
  · by_cases h2 : (us.length : Int) = n
    · subst h2
      exact OrderCheck_loops a cap us n₀ hf (by omega) w hw hn₀
    · exact OrderCheck_len n a cap us w (by omega) (by omega) h2
end Go.Proofs.YtjbfjdijgfhjfaaDoor
