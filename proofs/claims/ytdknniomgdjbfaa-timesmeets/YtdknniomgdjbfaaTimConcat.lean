/- The contract of slices.Concat at two lists of lists of numbers. -/
import Derived.Test.YtdknniomgdjbfaaShelfGrow
import Derived.Test.YtdknniomgdjbfaaTimClone
import Derived.Laws.AppendOwnNone
namespace Go.Proofs.Ytdknniomgdjbfaa
open Go.RowKit Go.Shelf

theorem ints_info : ∃ i0, Try.prog.info? 23 = some i0 ∧ i0.zero = some (.slice none 0 0) ∧ i0.size = 1 ∧ i0.bytes = 24 := by
  obtain ⟨i0, hi, hz0, hz1, hz2⟩ := info_parts info_zs
  exact ⟨i0, hi, hz0, hz1, hz2⟩
/-- Grow of nothing: a row of its own, with no element -/
theorem grow_any (n : Nat) (hn : n ≤ 128) (w : World) :
    Calls Try.prog 48 #[.slice none 0 0, .int .i64 n] w fun e w' => ∃ av cv, e = .returned (.slice av 0 cv) ∧ Below w.heap.size w w' ∧ w'.ownsRow w.heap.size 23 1 (.slice av 0 cv) 0 [] := by
  obtain ⟨i0, hi, hz0, hz1, hz2⟩ := ints_info
  by_cases h0 : n = 0
  · subst h0
    have h := Any8.slices_Grow_room Try.growT none 0 0 0 w (by omega) (by omega) (by omega) (by omega)
    change Calls Try.prog 48 _ _ _ at h
    refine h.mono ?_
    rintro e w' ⟨h1, rfl⟩
    exact ⟨none, 0, h1, Below.refl _ _, World.ownsRow_nil ..⟩
  · have h := Any8.slices_Grow_grow Try.growT i0 (.slice none 0 0) hi hz0 (by omega) none 0 0 n [] w (by omega) (by omega) (by rw [hz2]; omega) (by omega) (by simp) (fun _ => rfl) (fun a ha => by cases ha)
    change Calls Try.prog 48 _ _ _ at h
    refine h.mono ?_
    rintro e w' ⟨h1, rfl⟩
    have hG := grownCap_ge w (0 + n) 0 (Try.growT_ren.t 25)
    have hM := grownCap_le_maxLen w (0 + n) 0 (Try.growT_ren.t 25) (by unfold maxLen; omega)
    generalize grownCap w (0 + n) 0 (Try.growT_ren.t 25) = G at *
    have hm := World.ownsRow_made (base := w.heap.size) (e := 23) (size := 1) w.drew (#[] ++ Builtin.zeroCells (Value.slice none 0 0).cells (0 + n - 0) ++ Builtin.zeroCells (Value.slice none 0 0).cells (G - (0 + n))) G (by simp) hM (by
      rw [Array.size_append, Array.size_append, size_zeroCells, size_zeroCells]
      have : (Value.slice none 0 0).cells.size = 1 := rfl
      rw [this]
      simp; omega)
    exact ⟨_, _, h1, ((Below.refl _ _).drew).alloc (by simp) _, hm⟩

/-- an own row's value is a slice -/
theorem own_slice {W : World} {base : Nat} {t : TypeId} {v : Value} {k : Nat} {xs : List Value} (h : W.ownsRow base t 1 v k xs) : ∃ av cv, v = .slice av k cv := by
  rcases h.2 with ⟨h1, h2⟩ | ⟨g, c, cur, h1, _⟩
  · exact ⟨none, 0, by rw [h1, h2]⟩
  · exact ⟨_, _, h1⟩

set_option maxRecDepth 100000 in
set_option maxHeartbeats 4000000 in
theorem concat_any (a : Option Addr) (ca : Nat) (L : List Sl) (b : Option Addr) (cb : Nat) (M : List Sl) (n₀ : Nat) (h64 : L.length + M.length ≤ 64) (w : World) (hL : Outer n₀ w a L) (hM : Outer n₀ w b M) (hna : a = none → ca = 0) (hnb : b = none → cb = 0) (hn₀ : n₀ ≤ w.heap.size) :
    Calls Try.prog 34 #[.slice (some ⟨w.heap.size, 0, none⟩) 2 2] (w.alloc (.cells #[.slice a L.length ca, .slice b M.length cb] 22)) fun e w' => ∃ av cv, e = .returned (.slice av (L.length + M.length) cv) ∧ Below w.heap.size w w' ∧ Outer w'.heap.size w' av (L ++ M) := by
  obtain ⟨i0, hi, hz0, hz1, hz2⟩ := ints_info
  obtain ⟨r0, hb0, hs0⟩ := one_row w 22 (.slice a L.length ca) (.slice b M.length cb) rfl
  have lt0 := r0.lt
  have c0 := r0.cell (i := 0) rfl
  have c1 := r0.cell (i := 1) rfl
  have hg := fun W => grow_any (L.length + M.length) (by omega) W
  obtain ⟨w0, hw0⟩ : ∃ V, V = w.alloc (.cells #[.slice a L.length ca, .slice b M.length cb] 22) := ⟨_, rfl⟩
  rw [← hw0] at r0 hb0 hs0 lt0 c0 c1 ⊢
  clear hw0
  have HL := hide (show ∀ W, Below w0.heap.size w0 W → Outer n₀ W a L ∧ (a = none → ca = 0) from fun W hW => ⟨(hL.below (hb0.mono hn₀)).below (hW.mono (by omega)), hna⟩)
  have HM := hide (show ∀ W, Below w0.heap.size w0 W → Outer n₀ W b M ∧ (b = none → cb = 0) from fun W hW => ⟨(hM.below (hb0.mono hn₀)).below (hW.mono (by omega)), hnb⟩)
  clear hna hnb
  go_enter Try.func34, Try.ntmps34
  go_wp2_with fail
  go_loop [3, 11] (fun sz i => (i = .int .i64 (0 : Nat) ∧ sz = .int .i64 (0 : Nat)) ∨ (i = .int .i64 (1 : Nat) ∧ sz = .int .i64 (L.length : Nat)) ∨ (i = .int .i64 (2 : Nat) ∧ sz = .int .i64 ((L.length + M.length : Nat) : Int))) (fun _ i => 2 - (intOf i).toNat)
  case atStart => exact .inl ⟨rfl, rfl⟩
  case round =>
    rcases hrel with ⟨rfl, rfl⟩ | ⟨rfl, rfl⟩ | ⟨rfl, rfl⟩
    · have hng : decide ((L.length : Int) < 0) = false := decide_eq_false (by omega)
      go_wp2_with fail
      go_round
      case rel => exact .inr (.inl ⟨by go_num, by simp⟩)
      case measure => simp [intOf]
    · have hng : decide ((L.length : Int) + (M.length : Int) < 0) = false := decide_eq_false (by omega)
      go_wp2_with fail
      go_round
      case rel => exact .inr (.inr ⟨by go_num, by simp⟩)
      case measure => simp [intOf]
    · have hg0 := hg w0
      have hN : ∃ N, N = L.length + M.length := ⟨_, rfl⟩
      obtain ⟨N, hN⟩ := hN
      have HN0 := hide hN
      rw [← hN] at hg0 ⊢
      clear hg c0 c1 hN
      go_wp2_with fail
      with_reducible refine hg0.mono ?_
      rintro e w1 ⟨av1, cv1, rfl, hb1, hown1⟩
      have r1 := row_below r0 hb1 lt0
      clear hg0
      go_wp2_with fail
      go_loopw [6, 27] (fun nw i wr => (i = .int .i64 (0 : Nat) ∧ ∃ av cv, nw = .slice av 0 cv ∧ Below w0.heap.size w0 wr ∧ wr.ownsRow w0.heap.size 23 1 (.slice av 0 cv) 0 (svals [])) ∨ (i = .int .i64 (1 : Nat) ∧ ∃ av cv, nw = .slice av L.length cv ∧ Below w0.heap.size w0 wr ∧ wr.ownsRow w0.heap.size 23 1 (.slice av L.length cv) L.length (svals L)) ∨ (i = .int .i64 (2 : Nat) ∧ ∃ av cv, nw = .slice av (L.length + M.length) cv ∧ Below w0.heap.size w0 wr ∧ wr.ownsRow w0.heap.size 23 1 (.slice av (L.length + M.length) cv) (L.length + M.length) (svals (L ++ M)))) (fun _ i _ => 2 - (intOf i).toNat)
      case atStart => exact .inl ⟨rfl, av1, cv1, rfl, hb1, hown1⟩
      case round =>
        clear hown1 r1 hb1
        rcases hrel with ⟨rfl, av, cv, rfl, hB, hown⟩ | ⟨rfl, av, cv, rfl, hB, hown⟩ | ⟨rfl, av, cv, rfl, hB, hown⟩
        · have hBr := hB
          have hsr := hB.size
          have rW := row_below r0 hB lt0
          have c0 := rW.cell (i := 0) rfl
          obtain ⟨hOL, hna⟩ := HL.out wr hBr
          cases a with
          | none =>
            have hL0 : L = [] := by
              rcases hOL with h | ⟨_, _, h, _⟩
              · exact h
              · cases h
            have hc0 := hna rfl
            have HK := hide (show 0 = L.length ∧ svals [] = svals L from ⟨by simp [hL0], by simp [hL0]⟩)
            have e1 : (Value.slice none L.length ca) = .slice none 0 0 := by rw [hL0, hc0]; rfl
            rw [e1] at c0
            clear hL0 hc0 e1
            go_wp2_with (at_builtin; refine wpList_append_own_none rfl _ _ 22 rfl w0.heap.size 23 i0 1 Try.underlying22 hi _ 0 _ rfl hown rfl ?_)
            go_roundw
            case rel => exact .inr (.inl ⟨by go_num, av, cv, by rw [← HK.out.1], hB, by rw [← HK.out.1, ← HK.out.2]; exact hown⟩)
            case measure => simp [intOf]
          | some ad =>
            have HN := hide (show (∀ j u, (svals L)[j]? = some u → wr.cell? (ad.add j) = some u) from fun j u hj => by
              have hjl : j < L.length := by have := (List.getElem?_eq_some_iff.1 hj).1; rw [svals_len] at this; exact this
              rw [svals_at hjl] at hj
              cases hj
              obtain ⟨bq, oq, hq, _, hcq⟩ := hOL.at hjl
              cases hq
              have := hcq j hjl
              rw [Addr.add_lit]
              exact this)
            go_wp2_with (at_builtin; refine wpList_append_own _ rfl _ _ 22 rfl w0.heap.size 23 i0 (.slice none 0 0) 1 24 Try.underlying22 hi hz0 hz1 hz2 rfl (by decide) _ 0 _ rfl hown ad L.length ca (svals L) rfl (by rw [svals_len]; omega) HN.out (fun u hu => by unfold svals at hu; obtain ⟨x, _, rfl⟩ := List.mem_map.1 hu; rfl) (by unfold maxLen; omega) (by omega) (by omega) ?_; intro v' w3 hown3 hgrow3 _; obtain ⟨av3, cv3, rfl⟩ := own_slice hown3)
            have hB3 : Below w0.heap.size w0 w3 := hB.grown hgrow3 hsr fun q eq => by
              apply Nat.le_of_not_lt; intro hql
              exact ownBlock_ge hown (b := q) hql eq.symm
            go_wp2_with fail
            go_roundw
            case rel => exact .inr (.inl ⟨by go_num, av3, cv3, by first | rfl | simp, hB3, by simpa [svals] using hown3⟩)
            case measure => simp [intOf]
        · have hBr := hB
          have hsr := hB.size
          have rW := row_below r0 hB lt0
          have c0 := rW.cell (i := 1) rfl
          obtain ⟨hOM, hna⟩ := HM.out wr hBr
          cases b with
          | none =>
            have hL0 : M = [] := by
              rcases hOM with h | ⟨_, _, h, _⟩
              · exact h
              · cases h
            have hc0 := hna rfl
            have HK := hide (show L.length = (L.length + M.length) ∧ svals L = svals (L ++ M) from ⟨by simp [hL0], by simp [hL0]⟩)
            have e1 : (Value.slice none M.length cb) = .slice none 0 0 := by rw [hL0, hc0]; rfl
            rw [e1] at c0
            clear hL0 hc0 e1
            go_wp2_with (at_builtin; refine wpList_append_own_none rfl _ _ 22 rfl w0.heap.size 23 i0 1 Try.underlying22 hi _ L.length _ rfl hown rfl ?_)
            go_roundw
            case rel => exact .inr (.inr ⟨by go_num, av, cv, by rw [← HK.out.1], hB, by rw [← HK.out.1, ← HK.out.2]; exact hown⟩)
            case measure => simp [intOf]
          | some ad =>
            have HN := hide (show (∀ j u, (svals M)[j]? = some u → wr.cell? (ad.add j) = some u) from fun j u hj => by
              have hjl : j < M.length := by have := (List.getElem?_eq_some_iff.1 hj).1; rw [svals_len] at this; exact this
              rw [svals_at hjl] at hj
              cases hj
              obtain ⟨bq, oq, hq, _, hcq⟩ := hOM.at hjl
              cases hq
              have := hcq j hjl
              rw [Addr.add_lit]
              exact this)
            go_wp2_with (at_builtin; refine wpList_append_own _ rfl _ _ 22 rfl w0.heap.size 23 i0 (.slice none 0 0) 1 24 Try.underlying22 hi hz0 hz1 hz2 rfl (by decide) _ L.length _ rfl hown ad M.length cb (svals M) rfl (by rw [svals_len]; omega) HN.out (fun u hu => by unfold svals at hu; obtain ⟨x, _, rfl⟩ := List.mem_map.1 hu; rfl) (by unfold maxLen; omega) (by omega) (by omega) ?_; intro v' w3 hown3 hgrow3 _; obtain ⟨av3, cv3, rfl⟩ := own_slice hown3)
            have hB3 : Below w0.heap.size w0 w3 := hB.grown hgrow3 hsr fun q eq => by
              apply Nat.le_of_not_lt; intro hql
              exact ownBlock_ge hown (b := q) hql eq.symm
            go_wp2_with fail
            go_roundw
            case rel => exact .inr (.inr ⟨by go_num, av3, cv3, by first | rfl | simp, hB3, by simpa [svals] using hown3⟩)
            case measure => simp [intOf]
        · have hO := ownsRow_outer hown
          go_wp2_with fail
          go_ret
          exact ⟨av, cv, by rw [HN0.out]; rfl, hb0.trans (hB.mono (by omega)), hO⟩
end Go.Proofs.Ytdknniomgdjbfaa
