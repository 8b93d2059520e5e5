/- Plain: each element of a lattice is the join of those below it that cover just one. The contracts of the program's nearest, and of slices.Index at words. -/
import Derived.Test.YtdomcjfgmnpbmaaDoorPart18
import Derived.Test.YtdomcjfgmnpbmaaDoorPart17
import Derived.Test.YtdomcjfgmnpbmaaDoorPart11
import Derived.OwnWalk
namespace Go.Proofs.YtdomcjfgmnpbmaaDoor

/-- the elements that x covers, and those that cover x: how many -/
def lowCnt (us : List Nat) (x : Nat) : Nat := ((List.range us.length).filter fun c => coverB us c x).length
def highCnt (us : List Nat) (x : Nat) : Nat := ((List.range us.length).filter fun c => coverB us x c).length
def lowIrr (us : List Nat) : List Nat := (List.range us.length).filter fun x => decide (lowCnt us x = 1)
def highIrr (us : List Nat) : List Nat := (List.range us.length).filter fun x => decide (highCnt us x = 1)
theorem mem_lowIrr {us : List Nat} {x : Nat} : x ∈ lowIrr us ↔ x < us.length ∧ lowCnt us x = 1 := by unfold lowIrr; rw [List.mem_filter, List.mem_range]; simp
theorem mem_highIrr {us : List Nat} {x : Nat} : x ∈ highIrr us ↔ x < us.length ∧ highCnt us x = 1 := by unfold highIrr; rw [List.mem_filter, List.mem_range]; simp
theorem one_of_all {l : List Nat} (hd : l.Nodup) {c : Nat} (hc : c ∈ l) (h : ∀ x ∈ l, x = c) : l.length = 1 := by
  match l, hd, hc, h with
  | [x], _, _, _ => rfl
  | x :: y :: l, hd, _, h =>
    exfalso
    have e1 := h x (List.mem_cons_self ..)
    have e2 := h y (List.mem_cons_of_mem _ (List.mem_cons_self ..))
    rw [List.nodup_cons] at hd
    exact hd.1 (by rw [e1, ← e2]; exact List.mem_cons_self ..)
theorem two_low {us : List Nat} (ho : IsOrd us) {z x : Nat} (hz : z < us.length) (hx : x < us.length) (h : underB us z x = true) (hn : lowCnt us x ≠ 1) : ∃ c d, c < us.length ∧ d < us.length ∧ c ≠ d ∧ coverB us c x = true ∧ coverB us d x = true := by
  obtain ⟨c, hc, hcv, _⟩ := cover_ex ho hz hx h
  apply Classical.byContradiction
  intro hno
  refine hn (one_of_all (List.Nodup.sublist List.filter_sublist List.nodup_range) (List.mem_filter.2 ⟨List.mem_range.2 hc, hcv⟩) fun d hd => ?_)
  obtain ⟨h1, h2⟩ := List.mem_filter.1 hd
  apply Classical.byContradiction
  intro hne
  exact hno ⟨c, d, hc, List.mem_range.1 h1, fun e => hne e.symm, hcv, h2⟩
/-- what is above all irreducible elements below x is above x -/
theorem irr_le {us : List Nat} {le : Nat → Nat → Prop} {j m : Nat → Nat → Nat} {b t : Nat} (ho : IsOrd us) (L : Lat us.length le j m b t) (hle : ∀ x y, x < us.length → y < us.length → (le x y ↔ leW us x y)) : ∀ (k : Nat) {x u : Nat}, downs us x ≤ k → x < us.length → u < us.length → (∀ y, y ∈ lowIrr us → le y x → le y u) → le x u
  | 0, x, u, hk, hx, hu, h => by
    exfalso
    have : x ∈ (List.range us.length).filter fun z => hasB (wd us z) x := List.mem_filter.2 ⟨List.mem_range.2 hx, leW_refl ho hx⟩
    have := List.length_pos_of_mem this
    unfold downs at hk
    omega
  | k + 1, x, u, hk, hx, hu, h => by
    by_cases h1 : lowCnt us x = 1
    · exact h x (mem_lowIrr.2 ⟨hx, h1⟩) (L.refl hx)
    by_cases hb : b = x
    · rw [← hb]; exact L.ble hu
    have hub : underB us b x = true := underB_true.2 ⟨hb, (hle _ _ L.blt hx).1 (L.ble hx)⟩
    obtain ⟨c, d, hc, hd, hne, hcc, hdc⟩ := two_low ho L.blt hx hub h1
    have cx := (coverB_true.1 hcc).1
    have dx := (coverB_true.1 hdc).1
    have lcx := (hle _ _ hc hx).2 (underB_true.1 cx).2
    have ldx := (hle _ _ hd hx).2 (underB_true.1 dx).2
    have ic := irr_le ho L hle k (x := c) (u := u) (by have := downs_lt ho hc hx cx; omega) hc hu fun y hy hyc => h y hy (L.trans (mem_lowIrr.1 hy).1 hc hx hyc lcx)
    have id := irr_le ho L hle k (x := d) (u := u) (by have := downs_lt ho hd hx dx; omega) hd hu fun y hy hyd => h y hy (L.trans (mem_lowIrr.1 hy).1 hd hx hyd ldx)
    have hj := L.jlt hc hd
    have hjx : le (j c d) x := (L.jle hc hd hx).2 ⟨lcx, ldx⟩
    have key : ∀ e, e < us.length → coverB us e x = true → le e (j c d) → j c d ≠ x → e = j c d := by
      intro e he hce hej hnx
      apply Classical.byContradiction
      intro hne'
      exact (coverB_true.1 hce).2 _ hj ⟨underB_true.2 ⟨hne', (hle _ _ he hj).1 hej⟩, underB_true.2 ⟨hnx, (hle _ _ hj hx).1 hjx⟩⟩
    have ex : j c d = x := by
      apply Classical.byContradiction
      intro hnx
      exact hne ((key c hc hcc (L.jl hc hd) hnx).trans (key d hd hdc (L.jr hc hd) hnx).symm)
    rw [← ex]
    exact (L.jle hc hd hu).2 ⟨ic, id⟩
/-- joined with those of a list that are chosen -/
def genF (j : Nat → Nat → Nat) (sel : Nat → Bool) (b : Nat) (l : List Nat) : Nat := l.foldl (fun acc y => if sel y then j acc y else acc) b
theorem genF_snoc (j : Nat → Nat → Nat) (sel : Nat → Bool) (b : Nat) (l : List Nat) (y : Nat) : genF j sel b (l ++ [y]) = if sel y then j (genF j sel b l) y else genF j sel b l := by unfold genF; rw [List.foldl_append]; rfl
theorem genF_spec {n : Nat} {le : Nat → Nat → Prop} {j m : Nat → Nat → Nat} {b t : Nat} (L : Lat n le j m b t) (sel : Nat → Bool) {x : Nat} (hx : x < n) (hsel : ∀ y, y < n → (sel y = true ↔ le y x)) : ∀ (l : List Nat) {s : Nat}, (∀ y ∈ l, y < n) → s < n → le s x → l.foldl (fun acc y => if sel y then j acc y else acc) s < n ∧ le (l.foldl (fun acc y => if sel y then j acc y else acc) s) x ∧ le s (l.foldl (fun acc y => if sel y then j acc y else acc) s) ∧ ∀ y ∈ l, le y x → le y (l.foldl (fun acc y => if sel y then j acc y else acc) s)
  | [], s, _, hs, hsx => ⟨hs, hsx, L.refl hs, fun y hy => by cases hy⟩
  | y :: l, s, hl, hs, hsx => by
    have hy := hl y (List.mem_cons_self ..)
    have hl' : ∀ y ∈ l, y < n := fun z hz => hl z (List.mem_cons_of_mem _ hz)
    rw [List.foldl_cons]
    by_cases h : sel y = true
    · have hyx := (hsel y hy).1 h
      have hjs := L.jlt hs hy
      simp only [h, if_true]
      obtain ⟨h1, h2, h3, h4⟩ := genF_spec L sel hx hsel l (s := j s y) hl' hjs ((L.jle hs hy hx).2 ⟨hsx, hyx⟩)
      refine ⟨h1, h2, L.trans hs hjs h1 (L.jl hs hy) h3, fun z hz hzx => ?_⟩
      rcases List.mem_cons.1 hz with e | e
      · subst e; exact L.trans hy hjs h1 (L.jr hs hy) h3
      · exact h4 z e hzx
    · have h' : sel y = false := by simpa using h
      simp only [h', Bool.false_eq_true, if_false]
      obtain ⟨h1, h2, h3, h4⟩ := genF_spec L sel hx hsel l (s := s) hl' hs hsx
      refine ⟨h1, h2, h3, fun z hz hzx => ?_⟩
      rcases List.mem_cons.1 hz with e | e
      · subst e; exact absurd ((hsel z hy).2 hzx) h
      · exact h4 z e hzx
theorem gen_low {us : List Nat} {le : Nat → Nat → Prop} {j m : Nat → Nat → Nat} {b t : Nat} (ho : IsOrd us) (L : Lat us.length le j m b t) (hle : ∀ x y, x < us.length → y < us.length → (le x y ↔ leW us x y)) {x : Nat} (hx : x < us.length) (sel : Nat → Bool) (hsel : ∀ y, y < us.length → (sel y = true ↔ le y x)) : genF j sel b (lowIrr us) = x := by
  obtain ⟨h1, h2, _, h4⟩ := genF_spec L sel hx hsel (lowIrr us) (s := b) (fun y hy => (mem_lowIrr.1 hy).1) L.blt (L.ble hx)
  exact L.anti h1 hx h2 (irr_le ho L hle _ (Nat.le_refl _) hx h1 h4)
theorem high_low {us ds : List Nat} (hT : Tur us us.length [] ds) : highIrr us = lowIrr ds := by
  have hl := hT.len
  unfold highIrr lowIrr
  rw [hl]
  apply List.filter_congr
  intro x hx
  have hx' := List.mem_range.1 hx
  have : highCnt us x = lowCnt ds x := by
    unfold highCnt lowCnt
    rw [hl]
    congr 1
    apply List.filter_congr
    intro c hc
    exact (tur_cover hT (List.mem_range.1 hc) hx').symm
  rw [this]
theorem gen_high {us ds : List Nat} {j m : Nat → Nat → Nat} {b t : Nat} (ho : IsOrd us) (hT : Tur us us.length [] ds) (L : Lat us.length (leW us) j m b t) {x : Nat} (hx : x < us.length) (sel : Nat → Bool) (hsel : ∀ y, y < us.length → (sel y = true ↔ leW us x y)) : genF m sel t (highIrr us) = x := by
  have hl := hT.len
  rw [high_low hT]
  have L' : Lat ds.length (fun x y => leW us y x) m j t b := by rw [hl]; exact L.turn
  exact gen_low (tur_ord ho hT) L' (fun x y h1 h2 => by rw [hl] at h1 h2; exact (tur_le hT h1 h2).symm) (by rw [hl]; exact hx) sel (fun y hy => by rw [hl] at hy; exact hsel y hy)
end Go.Proofs.YtdomcjfgmnpbmaaDoor

namespace Go.Proofs.YtdomcjfgmnpbmaaDoor
open Go.RowKit Go.Shelf

set_option maxHeartbeats 400000 in
theorem Index_any (a : Option Addr) (cap : Nat) (us : List Nat) (x n₀ : Nat) (hl : us.length ≤ 16) (w : World) (hw : IsWords n₀ w a us) :
    Calls Tryd.prog 71 #[.slice a us.length cap, .int .u32 (x : Nat)] w fun e w' => w' = w ∧ ∃ r : Int, e = .returned (.int .i64 r) ∧ ((r = -1 ∧ ∀ i, i < us.length → wd us i ≠ x) ∨ ∃ i : Nat, i < us.length ∧ r = (i : Int) ∧ wd us i = x ∧ ∀ j, j < i → wd us j ≠ x) := by
  go_enter Tryd.func71, Tryd.ntmps71
  go_wp2
  go_loop [8] (fun i => ∃ k : Nat, k ≤ us.length ∧ i = .int .i64 k ∧ ∀ j, j < k → wd us j ≠ x) (fun i => us.length - (intOf i).toNat)
  case atStart => exact ⟨0, Nat.zero_le _, rfl, fun j h1 => by omega⟩
  case round =>
    obtain ⟨k, hk, rfl, hall⟩ := hrel
    by_cases hlt : k < us.length
    · obtain ⟨b, off, rfl, hb, hc⟩ := hw.at hlt
      have hck := hc k hlt
      clear hc
      by_cases he : wd us k = x
      · have hd : ((x : Int) == ((wd us k : Nat) : Int)) = true := by rw [beq_iff_eq]; omega
        have He := hide he
        clear he
        go_wp2
        go_ret
        exact ⟨rfl, _, rfl, .inr ⟨k, hlt, rfl, He.out, hall⟩⟩
      · have hd : ((x : Int) == ((wd us k : Nat) : Int)) = false := by rw [beq_eq_false_iff_ne]; omega
        have He := hide he
        clear he
        go_wp2
        go_round
        case rel => exact ⟨k + 1, by omega, by go_num, fun j h1 => by
          by_cases e : j = k
          · rw [e]; exact He.out
          · exact hall j (by omega)⟩
        case measure => simp [intOf]; omega
    · go_wp2
      go_ret
      exact ⟨rfl, _, rfl, .inl ⟨rfl, fun i hi => hall i (by omega)⟩⟩

theorem first_ex (P : Nat → Prop) : ∀ n : Nat, (∃ i, i < n ∧ P i) → ∃ i, i < n ∧ P i ∧ ∀ j, j < i → ¬ P j
  | 0, ⟨i, hi, _⟩ => by omega
  | n + 1, ⟨i, hi, hp⟩ => by
    by_cases h : ∃ i, i < n ∧ P i
    · obtain ⟨i', h1, h2, h3⟩ := first_ex P n h
      exact ⟨i', by omega, h2, h3⟩
    · have : i = n := by
        apply Classical.byContradiction
        intro hne
        exact h ⟨i, by omega, hp⟩
      subst this
      exact ⟨i, hi, hp, fun j hj hpj => h ⟨j, hj, hpj⟩⟩
theorem Index_none (a : Option Addr) (cap : Nat) (us : List Nat) (x n₀ : Nat) (hl : us.length ≤ 16) (w : World) (hw : IsWords n₀ w a us) (hno : ∀ i, i < us.length → wd us i ≠ x) :
    Calls Tryd.prog 71 #[.slice a us.length cap, .int .u32 (x : Nat)] w fun e w' => e = .returned (.int .i64 (-1)) ∧ w' = w :=
  (Index_any a cap us x n₀ hl w hw).mono (by
    rintro e w' ⟨hww, r, rfl, ⟨rfl, _⟩ | ⟨i, hi, _, he, _⟩⟩
    · exact ⟨rfl, hww⟩
    · exact absurd he (hno i hi))
theorem Index_first (a : Option Addr) (cap : Nat) (us : List Nat) (x n₀ k : Nat) (hl : us.length ≤ 16) (w : World) (hw : IsWords n₀ w a us) (hk : k < us.length) (he : wd us k = x) (hno : ∀ i, i < k → wd us i ≠ x) :
    Calls Tryd.prog 71 #[.slice a us.length cap, .int .u32 (x : Nat)] w fun e w' => e = .returned (.int .i64 (k : Nat)) ∧ w' = w :=
  (Index_any a cap us x n₀ hl w hw).mono (by
    rintro e w' ⟨hww, r, rfl, ⟨rfl, hn⟩ | ⟨i, hi, rfl, hei, hfi⟩⟩
    · exact absurd he (hn k hk)
    · obtain rfl : i = k := by
        rcases Nat.lt_trichotomy i k with h | h | h
        · exact absurd hei (hno i h)
        · exact h
        · exact absurd he (hfi k h)
      exact ⟨rfl, hww⟩)

set_option maxRecDepth 100000 in
set_option maxHeartbeats 1000000 in
theorem nearest_any (a : Option Addr) (cap : Nat) (us : List Nat) (n₀ : Nat) (hf : Fit us) (hl : us.length ≤ 16) (w : World) (hw : IsWords n₀ w a us) (hn₀ : n₀ ≤ w.heap.size) :
    Calls Tryd.prog 54 #[.slice a us.length cap] w fun e w' => Below w.heap.size w w' ∧ ((NoNear us ∧ e = .returned (.tuple #[.slice none 0 0, .bool false])) ∨ ∃ av cv js, e = .returned (.tuple #[.slice av (us.length * us.length) cv, .bool true]) ∧ NearTo us js (us.length * us.length) ∧ w'.ownsRow w.heap.size 3 1 (.slice av (us.length * us.length) cv) (us.length * us.length) (ivals js)) := by
  obtain ⟨i0, hi, hz0, hz1, hz2⟩ := info_parts info_int
  have h256 : us.length * us.length ≤ 256 := Nat.mul_le_mul hl hl
  have hmul : IntKind.i64.wrap ((us.length : Int) * (us.length : Int)) = ((us.length * us.length : Nat) : Int) := by
    rw [← Int.natCast_mul]; exact IntWalk.i64_in _ (by omega)
  go_enter Tryd.func54, Tryd.ntmps54
  go_wp2_with (at_make; refine wpList_make_own _ rfl _ _ 43 rfl w.heap.size 3 i0 (.int .i64 0) 1 Tryd.underlying43 hi hz0 hz1 .i64 .i64 _ (us.length * us.length) rfl rfl (by first | rfl | exact hmul | simp [hmul]) (by rw [hz2]; omega) (by unfold maxLen; omega) (Nat.le_refl _) ?_; intro w1 hown hgrow)
  have hB1 : Below w.heap.size w w1 := (Below.refl _ _).grown hgrow (Nat.le_refl _) fun j ej => by cases ej
  clear hmul hgrow
  go_loopw [4, 18] (fun lst i wr => ∃ (k : Nat) (av : Option Addr) (cv : Nat) (js : List Nat), k ≤ us.length ∧ i = .int .i64 k ∧ lst = .slice av (k * us.length) cv ∧ Below w.heap.size w wr ∧ wr.ownsRow w.heap.size 3 1 (.slice av (k * us.length) cv) (k * us.length) (ivals js) ∧ NearTo us js (k * us.length)) (fun _ i _ => us.length - (intOf i).toNat)
  case atStart => exact ⟨0, some ⟨w.heap.size, 0, none⟩, us.length * us.length, [], Nat.zero_le _, rfl, by rw [Nat.zero_mul], hB1, by rw [Nat.zero_mul]; exact hown, by rw [Nat.zero_mul]; exact NearTo.start us⟩
  case round =>
    clear hown hB1
    obtain ⟨k, av, cv, js, hk, rfl, rfl, hB, hown, hN⟩ := hrel
    by_cases hlt : k < us.length
    · obtain ⟨b, off, rfl, hb, hc⟩ := (hw.below (hB.mono hn₀)).at hlt
      have hck := hc k hlt
      have hfk := hf k
      clear hc
      go_wp2
      go_loopw [4, 24] (fun lst i wr => ∃ (j : Nat) (av : Option Addr) (cv : Nat) (js : List Nat), j ≤ us.length ∧ i = .int .i64 j ∧ lst = .slice av (k * us.length + j) cv ∧ Below w.heap.size w wr ∧ wr.ownsRow w.heap.size 3 1 (.slice av (k * us.length + j) cv) (k * us.length + j) (ivals js) ∧ NearTo us js (k * us.length + j)) (fun _ i _ => us.length - (intOf i).toNat)
      case atStart => exact ⟨0, av, cv, js, Nat.zero_le _, rfl, rfl, hB, hown, hN⟩
      case round =>
        clear hB hown hN hck
        obtain ⟨j, av, cv, js, hj, rfl, rfl, hB, hown, hN⟩ := hrel
        by_cases hlj : j < us.length
        · have hwr := hw.below (hB.mono hn₀)
          obtain ⟨b', off', eb, _, hc⟩ := hwr.at hlj
          cases eb
          have hcj := hc j hlj
          have hfj := hf j
          have hand := bits_and32 (wd us k) (wd us j) hfk hfj
          have hpl := place_lt hlt hlj
          have hbsz := hB.size
          by_cases hex : ∃ i, i < us.length ∧ wd us i = andW (wd us k) (wd us j)
          · obtain ⟨i, hi', he', hfi⟩ := first_ex _ _ hex
            have hix := Index_first (some ⟨b, off, none⟩) cap us (andW (wd us k) (wd us j)) n₀ i hl wr hwr hi' he' hfi
            have Hix := hide he'
            clear hex he' hfi hc hwr
            go_wp2_with (first
              | (go_at_call 71; refine hix.mono ?_; rintro e w2 ⟨rfl, hww⟩; rw [hww]; clear hww w2)
              | (at_builtin; refine wpList_append_own _ rfl _ _ 43 rfl w.heap.size 3 i0 (.int .i64 0) 1 8 Tryd.underlying43 hi hz0 hz1 hz2 rfl (by decide) _ _ _ rfl (hown.alloc _) ⟨wr.heap.size, 0, none⟩ 1 1 [.int .i64 (i : Nat)] rfl rfl (cell_one_new _ _ _) (fun u hu => by simp at hu; subst hu; rfl) (by unfold maxLen; omega) (by omega) (by simp; omega) ?_; intro v' w3 hown3 hgrow3 _; obtain ⟨g', cap', rfl⟩ := ownsRow_succ hown3))
            have hB3 : Below w.heap.size w w3 := (hB.alloc hbsz (.cells #[.int .i64 (i : Nat)] 3)).grown hgrow3 (by simp; omega) fun q eq => by
              apply Nat.le_of_not_lt; intro hql
              exact ownBlock_ge hown (b := q) hql eq.symm
            exact ⟨⟨j + 1, some ⟨g', 0, none⟩, cap', js ++ [i], by omega, by go_num, rfl, hB3, by rw [ivals_snoc]; exact hown3, hN.snoc hlj hi' Hix.out⟩, by simp [intOf]; omega⟩
          · have hno : ∀ i, i < us.length → wd us i ≠ andW (wd us k) (wd us j) := fun i hi he => hex ⟨i, hi, he⟩
            have hix := Index_none (some ⟨b, off, none⟩) cap us (andW (wd us k) (wd us j)) n₀ hl wr hwr hno
            have Hno := hide hno
            clear hex hno hc hwr
            go_wp2_with (go_at_call 71; refine hix.mono ?_; rintro e w2 ⟨rfl, hww⟩; rw [hww]; clear hww w2)
            go_ret2
            exact ⟨hB, .inl ⟨⟨k, j, hlt, hlj, Hno.out⟩, rfl⟩⟩
        · obtain rfl : j = us.length := by omega
          have e1 : k * us.length + us.length = (k + 1) * us.length := by rw [Nat.add_mul]; omega
          rw [e1] at hown hN
          go_wp2
          rw [e1]
          exact ⟨⟨k + 1, av, cv, js, by omega, by go_num, rfl, hB, hown, hN⟩, by simp [intOf]; omega⟩
    · obtain rfl : k = us.length := by omega
      go_wp2
      go_ret2
      exact ⟨hB, .inr ⟨av, cv, js, rfl, hN, hown⟩⟩
/-- the same, told by one answer -/
theorem nearest_det (a : Option Addr) (cap : Nat) (us : List Nat) (jb : Bool) (hjb : nearB us = jb) (n₀ : Nat) (hf : Fit us) (hl : us.length ≤ 16) (w : World) (hw : IsWords n₀ w a us) (hn₀ : n₀ ≤ w.heap.size) :
    Calls Tryd.prog 54 #[.slice a us.length cap] w fun e w' => ∃ av lv cv, e = .returned (.tuple #[.slice av lv cv, .bool jb]) ∧ Below w.heap.size w w' ∧ (jb = true → lv = us.length * us.length ∧ ∃ js, NearTo us js (us.length * us.length) ∧ w'.ownsRow w.heap.size 3 1 (.slice av (us.length * us.length) cv) (us.length * us.length) (ivals js)) := by
  subst hjb
  exact (nearest_any a cap us n₀ hf hl w hw hn₀).mono (by
    rintro e w' ⟨hb, ⟨hno, rfl⟩ | ⟨av, cv, js, rfl, hN, hown⟩⟩
    · rw [nearB_false.2 hno]
      exact ⟨_, _, _, rfl, hb, fun h => by cases h⟩
    · rw [nearB_true.2 hN.none]
      exact ⟨av, _, cv, rfl, hb, fun _ => ⟨rfl, js, hN, hown⟩⟩)
end Go.Proofs.YtdomcjfgmnpbmaaDoor
