/- The contract of the program's Make: what is wrong, that it is no lattice, or its tables and ends. -/
import Derived.Test.YtjbfjdijgfhjfaaDoorTabNone
namespace Go.Proofs.YtjbfjdijgfhjfaaDoor
open Go.RowKit Go.Shelf

/-- a table's answer becomes Make's -/
theorem Make_of (n : Int) (a : Option Addr) (len cap : Nat) (w : World) (R : Value → Value → Value → Value → Int → World → Prop)
    (hR : ∀ v2 v3 v4 v5 c W W', R v2 v3 v4 v5 c W → Below W.heap.size W W' → R v2 v3 v4 v5 c W')
    (hS : ∀ v2 v3 v4 v5 c W, R v2 v3 v4 v5 c W → R v2 v3 v4 v5 c ((((W.setCell ⟨w.heap.size + 1, 0, none⟩ v2).setCell ⟨w.heap.size + 1, 1, none⟩ v3).setCell ⟨w.heap.size + 1, 2, none⟩ v4).setCell ⟨w.heap.size + 1, 3, none⟩ v5))
    (ht : ∀ W, Below w.heap.size w W → W.heap.size = w.heap.size + 2 → Calls Tryd.prog 31 #[.agg #[.int .i64 n, .slice a len cap]] W fun e w' => ∃ (v0 : Int) (l0 : Nat) (a0 : Option Addr) (c0 : Nat) (a1 : Option Addr) (l1 c1 : Nat) (a2 : Option Addr) (l2 c2 : Nat) (z4 z5 c : Int), e = .returned (.tuple #[.agg #[.int .i64 v0, .slice a0 l0 c0, .slice a1 l1 c1, .slice a2 l2 c2, .int .i64 z4, .int .i64 z5], .int .i64 c]) ∧ Below W.heap.size W w' ∧ R (.slice a1 l1 c1) (.slice a2 l2 c2) (.int .i64 z4) (.int .i64 z5) c w') :
    Calls Tryd.prog 17 #[.agg #[.int .i64 n, .slice a len cap]] w fun e w' => ∃ (a1 : Option Addr) (l1 c1 : Nat) (a2 : Option Addr) (l2 c2 : Nat) (z4 z5 c : Int), e = .returned (.tuple #[.agg #[.slice a1 l1 c1, .slice a2 l2 c2, .int .i64 z4, .int .i64 z5], .int .i64 c]) ∧ Below w.heap.size w w' ∧ R (.slice a1 l1 c1) (.slice a2 l2 c2) (.int .i64 z4) (.int .i64 z5) c w' := by
  obtain ⟨r0, r1, hb0, hs0⟩ := rows24 w 24 27 (.int .i64 n) (.slice a len cap) (.slice none 0 0) (.slice none 0 0) (.int .i64 0) (.int .i64 0) rfl
  have hta := ht _ hb0 hs0
  have Hb := hide hb0
  clear hb0 ht
  go_enter Tryd.func17, Tryd.ntmps17
  go_wp2_with (go_at_call 31; refine hta.mono ?_; rintro e w1 ⟨v0, l0, a0, c0, a1, l1, c1, a2, l2, c2, z4, z5, c, rfl, hb1, hr⟩; have q1 := row_below r1 hb1 r1.lt; have hlt1 := q1.lt; have k0 := q1.cell (i := 0) rfl; have k1 := q1.cell (i := 1) rfl; have k2 := q1.cell (i := 2) rfl; have k3 := q1.cell (i := 3) rfl; have f0 := q1.frozen 0; have f1 := q1.frozen 1; have f2 := q1.frozen 2; have f3 := q1.frozen 3)
  have q2 := (row_set4 q1 (.slice a1 l1 c1) (.slice a2 l2 c2) (.int .i64 z4) (.int .i64 z5)).alloc (.cells #[.int .i64 v0, .slice a0 l0 c0, .slice a1 l1 c1, .slice a2 l2 c2, .int .i64 z4, .int .i64 z5] 73)
  have e0 := q2.cell (i := 0) rfl
  have e1 := q2.cell (i := 1) rfl
  have e2 := q2.cell (i := 2) rfl
  have e3 := q2.cell (i := 3) rfl
  refine bodyPost_ret (v := .tuple #[.agg #[.slice a1 l1 c1, .slice a2 l2 c2, .int .i64 z4, .int .i64 z5], .int .i64 c]) (by simp [results, Tryd.results17, go_sem, e0, e1, e2, e3]) rfl ⟨a1, l1, c1, a2, l2, c2, z4, z5, c, rfl, ?_, ?_⟩
  · exact (below_set4 (Hb.out.trans (hb1.mono (by simp; omega))) (by simp) _ _ _ _).alloc (by simp; omega) _
  · exact hR _ _ _ _ _ _ _ (hS _ _ _ _ _ _ hr) ((Below.refl _ _).alloc (Nat.le_refl _) _)

theorem Make_err (n : Int) (a : Option Addr) (len cap : Nat) (c : Int) (w : World) (ht : ∀ W, Below w.heap.size w W → W.heap.size = w.heap.size + 2 → Calls Tryd.prog 31 #[.agg #[.int .i64 n, .slice a len cap]] W fun e w' => e = tabErr c ∧ Below W.heap.size W w') :
    Calls Tryd.prog 17 #[.agg #[.int .i64 n, .slice a len cap]] w fun e w' => e = latErr c ∧ Below w.heap.size w w' :=
  (Make_of n a len cap w (fun v2 v3 v4 v5 c' _ => v2 = .slice none 0 0 ∧ v3 = .slice none 0 0 ∧ v4 = .int .i64 0 ∧ v5 = .int .i64 0 ∧ c' = c) (fun _ _ _ _ _ _ _ h _ => h) (fun _ _ _ _ _ _ h => h) (fun W h1 h2 => (ht W h1 h2).mono (by
    rintro e w' ⟨rfl, hb⟩
    exact ⟨_, _, _, _, _, _, _, _, _, _, _, _, _, rfl, hb, rfl, rfl, rfl, rfl, rfl⟩))).mono (by
    rintro e w' ⟨a1, l1, c1, a2, l2, c2, z4, z5, c', rfl, hb, h1, h2, h3, h4, rfl⟩
    cases h1; cases h2; cases h3; cases h4
    exact ⟨rfl, hb⟩)
theorem Make_bad (n : Int) (a : Option Addr) (cap : Nat) (us : List Nat) (n₀ : Nat) (hf : Fit us) (w : World) (hT : TabAt w) (hw : IsWords n₀ w a us) (hg : 0 < n₀) (hn₀ : n₀ ≤ w.heap.size) (hc : codeOf n us ≠ 0) :
    Calls Tryd.prog 17 #[.agg #[.int .i64 n, .slice a us.length cap]] w fun e w' => e = latErr (codeOf n us) ∧ Below w.heap.size w w' :=
  Make_err n a us.length cap _ w fun W h1 h2 => TableOf_bad n a cap us n₀ hf W (hT.below h1 (by omega)) (hw.below (h1.mono hn₀)) hg (by omega) hc
theorem Make_none (n : Int) (a : Option Addr) (cap : Nat) (us ds : List Nat) (n₀ : Nat) (hf : Fit us) (w : World) (hT : TabAt w) (hw : IsWords n₀ w a us) (hg : 0 < n₀) (hn₀ : n₀ ≤ w.heap.size) (hc : codeOf n us = 0) (hD : Tur us us.length [] ds) (hno : latB us ds = false) :
    Calls Tryd.prog 17 #[.agg #[.int .i64 n, .slice a us.length cap]] w fun e w' => e = latErr 5 ∧ Below w.heap.size w w' :=
  Make_err n a us.length cap _ w fun W h1 h2 => TableOf_none n a cap us ds n₀ hf W (hT.below h1 (by omega)) (hw.below (h1.mono hn₀)) hg (by omega) hc hD hno
theorem Make_ok (n : Int) (a : Option Addr) (cap : Nat) (us ds : List Nat) (n₀ : Nat) (hf : Fit us) (w : World) (hT : TabAt w) (hw : IsWords n₀ w a us) (hg : 0 < n₀) (hn₀ : n₀ ≤ w.heap.size) (hc : codeOf n us = 0) (hD : Tur us us.length [] ds) (hl : latB us ds = true) :
    Calls Tryd.prog 17 #[.agg #[.int .i64 n, .slice a us.length cap]] w fun e w' => ∃ aj cj am cm js ms, e = .returned (.tuple #[.agg #[.slice aj (us.length * us.length) cj, .slice am (us.length * us.length) cm, .int .i64 (gath (at2 ms us.length) 0 us.length : Nat), .int .i64 (gath (at2 js us.length) 0 us.length : Nat)], .int .i64 0]) ∧ Below w.heap.size w w' ∧ w'.ownsRow w.heap.size 3 1 (.slice aj (us.length * us.length) cj) (us.length * us.length) (ivals js) ∧ w'.ownsRow w.heap.size 3 1 (.slice am (us.length * us.length) cm) (us.length * us.length) (ivals ms) ∧ NearTo us js (us.length * us.length) ∧ NearTo ds ms (us.length * us.length) := by
  obtain ⟨h1, h2, h3⟩ := latB_parts hl
  have hz := n_zero hc
  rw [decide_eq_false h1] at hz
  refine (Make_of n a us.length cap w (fun v2 v3 v4 v5 c' W => ∃ aj cj am cm js ms, v2 = .slice aj (us.length * us.length) cj ∧ v3 = .slice am (us.length * us.length) cm ∧ v4 = .int .i64 (gath (at2 ms us.length) 0 us.length : Nat) ∧ v5 = .int .i64 (gath (at2 js us.length) 0 us.length : Nat) ∧ c' = 0 ∧ W.ownsRow (w.heap.size + 2) 3 1 (.slice aj (us.length * us.length) cj) (us.length * us.length) (ivals js) ∧ W.ownsRow (w.heap.size + 2) 3 1 (.slice am (us.length * us.length) cm) (us.length * us.length) (ivals ms) ∧ NearTo us js (us.length * us.length) ∧ NearTo ds ms (us.length * us.length)) ?_ ?_ ?_).mono ?_
  · rintro _ _ _ _ _ W W' ⟨aj, cj, am, cm, js, ms, e1, e2, e3, e4, e5, o1, o2, n1, n2⟩ hb
    exact ⟨aj, cj, am, cm, js, ms, e1, e2, e3, e4, e5, ownsRow_below o1 hb, ownsRow_below o2 hb, n1, n2⟩
  · rintro _ _ _ _ _ W ⟨aj, cj, am, cm, js, ms, e1, e2, e3, e4, e5, o1, o2, n1, n2⟩
    exact ⟨aj, cj, am, cm, js, ms, e1, e2, e3, e4, e5, own_set4 o1 (by omega) _ _ _ _, own_set4 o2 (by omega) _ _ _ _, n1, n2⟩
  · intro W hb hs
    refine (TableOf_ok n a cap us ds n₀ hf W (hT.below hb (by omega)) (hw.below (hb.mono hn₀)) hg (by omega) hc hD hz h2 h3).mono ?_
    rintro e w' ⟨ca, cc, aj, cj, am, cm, js, ms, rfl, hb', o0, o1, o2, n1, n2⟩
    rw [hs] at o1 o2
    exact ⟨_, _, _, _, _, _, _, _, _, _, _, _, _, rfl, hb', aj, cj, am, cm, js, ms, rfl, rfl, rfl, rfl, rfl, o1, o2, n1, n2⟩
  · rintro e w' ⟨a1, l1, c1, a2, l2, c2, z4, z5, c, rfl, hb, aj, cj, am, cm, js, ms, e1, e2, e3, e4, rfl, o1, o2, n1, n2⟩
    cases e1; cases e2; cases e3; cases e4
    exact ⟨_, _, _, _, js, ms, rfl, hb, ownsRow_base o1 (Nat.le_add_right _ _), ownsRow_base o2 (Nat.le_add_right _ _), n1, n2⟩
end Go.Proofs.YtjbfjdijgfhjfaaDoor
