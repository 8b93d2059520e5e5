/- The contracts of the program's nearest, and of slices.Index at words. -/
import Derived.Test.YtjbfjdijgfhjfaaDoorLatTab
import Derived.Test.YtjbfjdijgfhjfaaDoorIntVals
import Derived.OwnWalk
namespace Go.Proofs.YtjbfjdijgfhjfaaDoor
open Go.RowKit Go.Shelf

set_option maxHeartbeats 400000 in
theorem Index_any (a : Option Addr) (cap : Nat) (us : List Nat) (x n₀ : Nat) (hl : us.length ≤ 16) (w : World) (hw : IsWords n₀ w a us) :
    Calls Tryd.prog 57 #[.slice a us.length cap, .int .u32 (x : Nat)] w fun e w' => w' = w ∧ ∃ r : Int, e = .returned (.int .i64 r) ∧ ((r = -1 ∧ ∀ i, i < us.length → wd us i ≠ x) ∨ ∃ i : Nat, i < us.length ∧ r = (i : Int) ∧ wd us i = x ∧ ∀ j, j < i → wd us j ≠ x) := by
  go_enter Tryd.func57, Tryd.ntmps57
  go_wp2
  go_loop [8] (fun i => ∃ k : Nat, k ≤ us.length ∧ i = .int .i64 k ∧ ∀ j, j < k → wd us j ≠ x) (fun i => us.length - (intOf i).toNat)
  case atStart => exact ⟨0, Nat.zero_le _, rfl, fun j h1 => by omega⟩
  case round =>
    obtain ⟨k, hk, rfl, hall⟩ := hrel
    by_cases hlt : k < us.length
    · obtain ⟨b, off, rfl, hb, hc⟩ := hw.at hlt
      have hck := hc k hlt
      clear hc
      by_cases he : wd us k = x
      · have hd : ((x : Int) == ((wd us k : Nat) : Int)) = true := by rw [beq_iff_eq]; omega
        have He := hide he
        clear he
        go_wp2
        go_ret
        exact ⟨rfl, _, rfl, .inr ⟨k, hlt, rfl, He.out, hall⟩⟩
      · have hd : ((x : Int) == ((wd us k : Nat) : Int)) = false := by rw [beq_eq_false_iff_ne]; omega
        have He := hide he
        clear he
        go_wp2
        go_round
        case rel => exact ⟨k + 1, by omega, by go_num, fun j h1 => by
          by_cases e : j = k
          · rw [e]; exact He.out
          · exact hall j (by omega)⟩
        case measure => simp [intOf]; omega
    · go_wp2
      go_ret
      exact ⟨rfl, _, rfl, .inl ⟨rfl, fun i hi => hall i (by omega)⟩⟩

theorem first_ex (P : Nat → Prop) : ∀ n : Nat, (∃ i, i < n ∧ P i) → ∃ i, i < n ∧ P i ∧ ∀ j, j < i → ¬ P j
  | 0, ⟨i, hi, _⟩ => by omega
  | n + 1, ⟨i, hi, hp⟩ => by
    by_cases h : ∃ i, i < n ∧ P i
    · obtain ⟨i', h1, h2, h3⟩ := first_ex P n h
      exact ⟨i', by omega, h2, h3⟩
    · have : i = n := by
        apply Classical.byContradiction
        intro hne
        exact h ⟨i, by omega, hp⟩
      subst this
      exact ⟨i, hi, hp, fun j hj hpj => h ⟨j, hj, hpj⟩⟩
theorem Index_none (a : Option Addr) (cap : Nat) (us : List Nat) (x n₀ : Nat) (hl : us.length ≤ 16) (w : World) (hw : IsWords n₀ w a us) (hno : ∀ i, i < us.length → wd us i ≠ x) :
    Calls Tryd.prog 57 #[.slice a us.length cap, .int .u32 (x : Nat)] w fun e w' => e = .returned (.int .i64 (-1)) ∧ w' = w :=
  (Index_any a cap us x n₀ hl w hw).mono (by
    rintro e w' ⟨hww, r, rfl, ⟨rfl, _⟩ | ⟨i, hi, _, he, _⟩⟩
    · exact ⟨rfl, hww⟩
    · exact absurd he (hno i hi))
theorem Index_first (a : Option Addr) (cap : Nat) (us : List Nat) (x n₀ k : Nat) (hl : us.length ≤ 16) (w : World) (hw : IsWords n₀ w a us) (hk : k < us.length) (he : wd us k = x) (hno : ∀ i, i < k → wd us i ≠ x) :
    Calls Tryd.prog 57 #[.slice a us.length cap, .int .u32 (x : Nat)] w fun e w' => e = .returned (.int .i64 (k : Nat)) ∧ w' = w :=
  (Index_any a cap us x n₀ hl w hw).mono (by
    rintro e w' ⟨hww, r, rfl, ⟨rfl, hn⟩ | ⟨i, hi, rfl, hei, hfi⟩⟩
    · exact absurd he (hn k hk)
    · obtain rfl : i = k := by
        rcases Nat.lt_trichotomy i k with h | h | h
        · exact absurd hei (hno i h)
        · exact h
        · exact absurd he (hfi k h)
      exact ⟨rfl, hww⟩)

set_option maxRecDepth 100000 in
set_option maxHeartbeats 1000000 in
theorem nearest_any (a : Option Addr) (cap : Nat) (us : List Nat) (n₀ : Nat) (hf : Fit us) (hl : us.length ≤ 16) (w : World) (hw : IsWords n₀ w a us) (hn₀ : n₀ ≤ w.heap.size) :
    Calls Tryd.prog 48 #[.slice a us.length cap] w fun e w' => Below w.heap.size w w' ∧ ((NoNear us ∧ e = .returned (.tuple #[.slice none 0 0, .bool false])) ∨ ∃ av cv js, e = .returned (.tuple #[.slice av (us.length * us.length) cv, .bool true]) ∧ NearTo us js (us.length * us.length) ∧ w'.ownsRow w.heap.size 3 1 (.slice av (us.length * us.length) cv) (us.length * us.length) (ivals js)) := by
  obtain ⟨i0, hi, hz0, hz1, hz2⟩ := info_parts info_int
  have h256 : us.length * us.length ≤ 256 := Nat.mul_le_mul hl hl
  have hmul : IntKind.i64.wrap ((us.length : Int) * (us.length : Int)) = ((us.length * us.length : Nat) : Int) := by
    rw [← Int.natCast_mul]; exact IntWalk.i64_in _ (by omega)
  go_enter Tryd.func48, Tryd.ntmps48
  go_wp2_with (at_make; refine wpList_make_own _ rfl _ _ 25 rfl w.heap.size 3 i0 (.int .i64 0) 1 Tryd.underlying25 hi hz0 hz1 .i64 .i64 _ (us.length * us.length) rfl rfl (by first | rfl | exact hmul | simp [hmul]) (by rw [hz2]; omega) (by unfold maxLen; omega) (Nat.le_refl _) ?_; intro w1 hown hgrow)
  have hB1 : Below w.heap.size w w1 := (Below.refl _ _).grown hgrow (Nat.le_refl _) fun j ej => by cases ej
  clear hmul hgrow
  go_loopw [4, 18] (fun lst i wr => ∃ (k : Nat) (av : Option Addr) (cv : Nat) (js : List Nat), k ≤ us.length ∧ i = .int .i64 k ∧ lst = .slice av (k * us.length) cv ∧ Below w.heap.size w wr ∧ wr.ownsRow w.heap.size 3 1 (.slice av (k * us.length) cv) (k * us.length) (ivals js) ∧ NearTo us js (k * us.length)) (fun _ i _ => us.length - (intOf i).toNat)
  case atStart => exact ⟨0, some ⟨w.heap.size, 0, none⟩, us.length * us.length, [], Nat.zero_le _, rfl, by rw [Nat.zero_mul], hB1, by rw [Nat.zero_mul]; exact hown, by rw [Nat.zero_mul]; exact NearTo.start us⟩
  case round =>
    clear hown hB1
    obtain ⟨k, av, cv, js, hk, rfl, rfl, hB, hown, hN⟩ := hrel
    by_cases hlt : k < us.length
    · obtain ⟨b, off, rfl, hb, hc⟩ := (hw.below (hB.mono hn₀)).at hlt
      have hck := hc k hlt
      have hfk := hf k
      clear hc
      go_wp2
      go_loopw [4, 24] (fun lst i wr => ∃ (j : Nat) (av : Option Addr) (cv : Nat) (js : List Nat), j ≤ us.length ∧ i = .int .i64 j ∧ lst = .slice av (k * us.length + j) cv ∧ Below w.heap.size w wr ∧ wr.ownsRow w.heap.size 3 1 (.slice av (k * us.length + j) cv) (k * us.length + j) (ivals js) ∧ NearTo us js (k * us.length + j)) (fun _ i _ => us.length - (intOf i).toNat)
      case atStart => exact ⟨0, av, cv, js, Nat.zero_le _, rfl, rfl, hB, hown, hN⟩
      case round =>
        clear hB hown hN hck
        obtain ⟨j, av, cv, js, hj, rfl, rfl, hB, hown, hN⟩ := hrel
        by_cases hlj : j < us.length
        · have hwr := hw.below (hB.mono hn₀)
          obtain ⟨b', off', eb, _, hc⟩ := hwr.at hlj
          cases eb
          have hcj := hc j hlj
          have hfj := hf j
          have hand := bits_and32 (wd us k) (wd us j) hfk hfj
          have hpl := place_lt hlt hlj
          have hbsz := hB.size
          by_cases hex : ∃ i, i < us.length ∧ wd us i = andW (wd us k) (wd us j)
          · obtain ⟨i, hi', he', hfi⟩ := first_ex _ _ hex
            have hix := Index_first (some ⟨b, off, none⟩) cap us (andW (wd us k) (wd us j)) n₀ i hl wr hwr hi' he' hfi
            have Hix := hide he'
            clear hex he' hfi hc hwr
            go_wp2_with (first
              | (go_at_call 57; refine hix.mono ?_; rintro e w2 ⟨rfl, hww⟩; rw [hww]; clear hww w2)
              | (at_builtin; refine wpList_append_own _ rfl _ _ 25 rfl w.heap.size 3 i0 (.int .i64 0) 1 8 Tryd.underlying25 hi hz0 hz1 hz2 rfl (by decide) _ _ _ rfl (hown.alloc _) ⟨wr.heap.size, 0, none⟩ 1 1 [.int .i64 (i : Nat)] rfl rfl (cell_one_new _ _ _) (fun u hu => by simp at hu; subst hu; rfl) (by unfold maxLen; omega) (by omega) (by simp; omega) ?_; intro v' w3 hown3 hgrow3 _; obtain ⟨g', cap', rfl⟩ := ownsRow_succ hown3))
            have hB3 : Below w.heap.size w w3 := (hB.alloc hbsz (.cells #[.int .i64 (i : Nat)] 3)).grown hgrow3 (by simp; omega) fun q eq => by
              apply Nat.le_of_not_lt; intro hql
              exact ownBlock_ge hown (b := q) hql eq.symm
            exact ⟨⟨j + 1, some ⟨g', 0, none⟩, cap', js ++ [i], by omega, by go_num, rfl, hB3, by rw [ivals_snoc]; exact hown3, hN.snoc hlj hi' Hix.out⟩, by simp [intOf]; omega⟩
          · have hno : ∀ i, i < us.length → wd us i ≠ andW (wd us k) (wd us j) := fun i hi he => hex ⟨i, hi, he⟩
            have hix := Index_none (some ⟨b, off, none⟩) cap us (andW (wd us k) (wd us j)) n₀ hl wr hwr hno
            have Hno := hide hno
            clear hex hno hc hwr
            go_wp2_with (go_at_call 57; refine hix.mono ?_; rintro e w2 ⟨rfl, hww⟩; rw [hww]; clear hww w2)
            go_ret2
            exact ⟨hB, .inl ⟨⟨k, j, hlt, hlj, Hno.out⟩, rfl⟩⟩
        · obtain rfl : j = us.length := by omega
          have e1 : k * us.length + us.length = (k + 1) * us.length := by rw [Nat.add_mul]; omega
          rw [e1] at hown hN
          go_wp2
          rw [e1]
          exact ⟨⟨k + 1, av, cv, js, by omega, by go_num, rfl, hB, hown, hN⟩, by simp [intOf]; omega⟩
    · obtain rfl : k = us.length := by omega
      go_wp2
      go_ret2
      exact ⟨hB, .inr ⟨av, cv, js, rfl, hN, hown⟩⟩
/-- the same, told by one answer -/
theorem nearest_det (a : Option Addr) (cap : Nat) (us : List Nat) (jb : Bool) (hjb : nearB us = jb) (n₀ : Nat) (hf : Fit us) (hl : us.length ≤ 16) (w : World) (hw : IsWords n₀ w a us) (hn₀ : n₀ ≤ w.heap.size) :
    Calls Tryd.prog 48 #[.slice a us.length cap] w fun e w' => ∃ av lv cv, e = .returned (.tuple #[.slice av lv cv, .bool jb]) ∧ Below w.heap.size w w' ∧ (jb = true → lv = us.length * us.length ∧ ∃ js, NearTo us js (us.length * us.length) ∧ w'.ownsRow w.heap.size 3 1 (.slice av (us.length * us.length) cv) (us.length * us.length) (ivals js)) := by
  subst hjb
  exact (nearest_any a cap us n₀ hf hl w hw hn₀).mono (by
    rintro e w' ⟨hb, ⟨hno, rfl⟩ | ⟨av, cv, js, rfl, hN, hown⟩⟩
    · rw [nearB_false.2 hno]
      exact ⟨_, _, _, rfl, hb, fun h => by cases h⟩
    · rw [nearB_true.2 hN.none]
      exact ⟨av, _, cv, rfl, hb, fun _ => ⟨rfl, js, hN, hown⟩⟩)
end Go.Proofs.YtjbfjdijgfhjfaaDoor
