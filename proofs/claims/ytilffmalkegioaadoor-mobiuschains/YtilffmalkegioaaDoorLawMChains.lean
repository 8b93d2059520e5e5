/- The walk of the law MobiusChains: it answers true, and writes nothing that was there. -/
import Derived.Test.YtilffmalkegioaaDoorMobChains
import Derived.Test.YtilffmalkegioaaDoorMobRefC
import Derived.Test.YtilffmalkegioaaDoorMobRef
import Derived.Test.YtilffmalkegioaaDoorRefCheck
namespace Go.Proofs.YtilffmalkegioaaDoor
open Go.RowKit Go.Shelf

theorem ZInts.step {A B : World} {a : Option Addr} {l : List Int} (h : ZInts A.heap.size A a l) (hb : Below A.heap.size A B) : ZInts B.heap.size B a l := (h.below hb).mono hb.size
set_option maxRecDepth 100000 in
set_option maxHeartbeats 4000000 in
theorem mchains_bad (n : Int) (a : Option Addr) (cap : Nat) (us : List Nat) (x y : Int) (n₀ : Nat) (hf : Fit us) (w : World) (hT : TabAt w) (hw : IsWords n₀ w a us) (hg : 0 < n₀) (hn₀ : n₀ ≤ w.heap.size) (hc : codeOf n us ≠ 0) :
    Calls Tryd.prog 7 #[.agg #[.int .i64 n, .slice a us.length cap], .int .i64 x, .int .i64 y] w fun e w' => e = .returned (.bool true) ∧ Below w.heap.size w w' := by
  have e1 : (codeOf n us == 0) = false := by rw [beq_eq_false_iff_ne]; exact hc
  have e2 : (codeOf n us != 0) = true := by rw [bne_iff_ne]; exact hc
  have k1 := fun W hT hw hg => Chains_bad n a cap us (.int .i64 x) (.int .i64 y) W.heap.size hf W hT hw hg (Nat.le_refl _) hc
  have k3 := fun W hw => OrderCheck_any n a cap us W.heap.size hf W hw (Nat.le_refl _)
  unfold mobErr at k1
  generalize codeOf n us = c at *
  clear hc
  obtain ⟨W0, hW0⟩ : ∃ V, w.alloc (.cells #[.int .i64 n, .slice a us.length cap] 24) = V := ⟨_, rfl⟩
  obtain ⟨r0, hB, hs0⟩ := one_row w 24 (.int .i64 n) (.slice a us.length cap) hW0
  replace hw := (hw.below (hB.mono hn₀)).mono (show n₀ ≤ W0.heap.size by omega)
  replace hT := hT.below hB (by omega)
  replace hg : 0 < W0.heap.size := by omega
  clear hs0 hn₀
  have c0 := r0.cell (i := 0) rfl
  have c1 := r0.cell (i := 1) rfl
  go_enter Tryd.func7, Tryd.ntmps7
  go_wp2_with fail
  clear hW0
  refine (k1 _ hT hw hg).mono ?_
  rintro e w1 ⟨rfl, hb⟩
  clear c0 c1
  replace r0 := row_below r0 hb r0.lt
  replace hw := (hw.below hb).mono hb.size
  replace hT := hT.below hb hg
  replace hg := Nat.lt_of_lt_of_le hg hb.size
  replace hB := hB.trans (hb.mono hB.size)
  have c0 := r0.cell (i := 0) rfl
  have c1 := r0.cell (i := 1) rfl
  clear hb
  go_wp2_with fail
  refine (k3 _ hw).mono ?_
  rintro e w2 ⟨rfl, hb⟩
  clear c0 c1
  replace r0 := row_below r0 hb r0.lt
  replace hw := (hw.below hb).mono hb.size
  replace hT := hT.below hb hg
  replace hg := Nat.lt_of_lt_of_le hg hb.size
  replace hB := hB.trans (hb.mono hB.size)
  have c0 := r0.cell (i := 0) rfl
  have c1 := r0.cell (i := 1) rfl
  clear hb
  go_wp2_with fail
  go_ret
  exact ⟨rfl, hB⟩

set_option maxRecDepth 100000 in
set_option maxHeartbeats 4000000 in
theorem mchains_arg (n : Nat) (a : Option Addr) (cap : Nat) (us : List Nat) (x y : Int) (n₀ : Nat) (hn : n = us.length) (hf : Fit us) (w : World) (hT : TabAt w) (hw : IsWords n₀ w a us) (hg : 0 < n₀) (hn₀ : n₀ ≤ w.heap.size) (hc : codeOf n us = 0) (hno : ¬ ((0 ≤ x ∧ x < n) ∧ 0 ≤ y ∧ y < n)) :
    Calls Tryd.prog 7 #[.agg #[.int .i64 n, .slice a n cap], .int .i64 x, .int .i64 y] w fun e w' => e = .returned (.bool true) ∧ Below w.heap.size w w' := by
  have k1 := fun W hT hw hg => Chains_arg n a cap us x y W.heap.size hn hf W hT hw hg (Nat.le_refl _) hc hno
  have k3 := fun W hw => OrderCheck_any n a cap us W.heap.size hf W hw (Nat.le_refl _)
  unfold mobErr at k1
  rw [hc, ← hn] at k3
  clear hc hn
  obtain ⟨W0, hW0⟩ : ∃ V, w.alloc (.cells #[.int .i64 n, .slice a n cap] 24) = V := ⟨_, rfl⟩
  obtain ⟨r0, hB, hs0⟩ := one_row w 24 (.int .i64 n) (.slice a n cap) hW0
  replace hw := (hw.below (hB.mono hn₀)).mono (show n₀ ≤ W0.heap.size by omega)
  replace hT := hT.below hB (by omega)
  replace hg : 0 < W0.heap.size := by omega
  clear hs0 hn₀
  have c0 := r0.cell (i := 0) rfl
  have c1 := r0.cell (i := 1) rfl
  go_enter Tryd.func7, Tryd.ntmps7
  go_wp2_with fail
  clear hW0
  refine (k1 _ hT hw hg).mono ?_
  rintro e w1 ⟨rfl, hb⟩
  clear c0 c1
  replace r0 := row_below r0 hb r0.lt
  replace hw := (hw.below hb).mono hb.size
  replace hT := hT.below hb hg
  replace hg := Nat.lt_of_lt_of_le hg hb.size
  replace hB := hB.trans (hb.mono hB.size)
  have c0 := r0.cell (i := 0) rfl
  have c1 := r0.cell (i := 1) rfl
  clear hb
  go_wp2_with fail
  refine (k3 _ hw).mono ?_
  rintro e w2 ⟨rfl, hb⟩
  clear c0 c1
  replace r0 := row_below r0 hb r0.lt
  replace hw := (hw.below hb).mono hb.size
  replace hT := hT.below hb hg
  replace hg := Nat.lt_of_lt_of_le hg hb.size
  replace hB := hB.trans (hb.mono hB.size)
  have c0 := r0.cell (i := 0) rfl
  have c1 := r0.cell (i := 1) rfl
  clear hb k1 k3
  by_cases h1 : x < 0
  · have g1 : decide (x < 0) = true := by simp [h1]
    clear h1 hno
    go_wp2_with fail
    go_ret
    exact ⟨rfl, hB⟩
  · have g1 : decide (x < 0) = false := by simp; omega
    by_cases h3 : y < 0
    · have g3 : decide (y < 0) = true := by simp [h3]
      clear h1 h3 hno
      go_wp2_with fail
      go_ret
      exact ⟨rfl, hB⟩
    · have g3 : decide (y < 0) = false := by simp; omega
      by_cases h2 : (n : Int) ≤ x
      · have g2 : decide ((n : Int) ≤ x) = true := by simp [h2]
        clear h1 h2 h3 hno
        go_wp2_with fail
        go_ret
        exact ⟨rfl, hB⟩
      · have g2 : decide ((n : Int) ≤ x) = false := by simp; omega
        have g4 : decide ((n : Int) ≤ y) = true := by simp; omega
        clear h1 h2 h3 hno
        go_wp2_with fail
        go_ret
        exact ⟨rfl, hB⟩

set_option maxRecDepth 100000 in
set_option maxHeartbeats 4000000 in
theorem mchains_in (n : Nat) (a : Option Addr) (cap : Nat) (us : List Nat) (x y : Nat) (n₀ : Nat) (hn : n = us.length) (hf : Fit us) (w : World) (hT : TabAt w) (hw : IsWords n₀ w a us) (hg : 0 < n₀) (hn₀ : n₀ ≤ w.heap.size) (hc : codeOf n us = 0) (hx : x < n) (hy : y < n) :
    Calls Tryd.prog 7 #[.agg #[.int .i64 n, .slice a n cap], .int .i64 x, .int .i64 y] w fun e w' => e = .returned (.bool true) ∧ Below w.heap.size w w' := by
  have hl : n ≤ 16 := by have := (code_zero hc).2.1; omega
  have k1 := fun W hT hw hg => Chains_ok n a cap us x y W.heap.size hn hf W hT hw hg (Nat.le_refl _) hc hx hy
  have k3 := fun W hw => OrderCheck_any n a cap us W.heap.size hf W hw (Nat.le_refl _)
  have k4 := fun W hw => RChains_any n a cap us x y W.heap.size hn hf hl hx hy W hw (Nat.le_refl _)
  have hsame : vecL n (fun k => chF us k x y) = vecL n (fun k => chE us k x y) := by
    subst hn
    exact vecL_is (vecL_len _ _) fun k hk => by rw [bd_vecL _ hk]; exact ch_same us k x hx y hy
  rw [hsame] at k4
  rw [hc, ← hn] at k3
  have g1 : decide ((x : Int) < 0) = false := by simp
  have g3 : decide ((y : Int) < 0) = false := by simp
  have g2 : decide ((n : Int) ≤ (x : Int)) = false := by simp; omega
  have g4 : decide ((n : Int) ≤ (y : Int)) = false := by simp; omega
  have hlc := vecL_len n (fun k => chE us k x y)
  generalize vecL n (fun k => chE us k x y) = C at *
  clear hc hn hsame
  obtain ⟨W0, hW0⟩ : ∃ V, w.alloc (.cells #[.int .i64 n, .slice a n cap] 24) = V := ⟨_, rfl⟩
  obtain ⟨r0, hB, hs0⟩ := one_row w 24 (.int .i64 n) (.slice a n cap) hW0
  replace hw := (hw.below (hB.mono hn₀)).mono (show n₀ ≤ W0.heap.size by omega)
  replace hT := hT.below hB (by omega)
  replace hg : 0 < W0.heap.size := by omega
  clear hs0 hn₀
  have c0 := r0.cell (i := 0) rfl
  have c1 := r0.cell (i := 1) rfl
  go_enter Tryd.func7, Tryd.ntmps7
  go_wp2_with fail
  clear hW0
  refine (k1 _ hT hw hg).mono ?_
  rintro e w1 ⟨q, rfl, hp, hb, hr⟩
  clear c0 c1
  replace r0 := row_below r0 hb r0.lt
  replace hw := (hw.below hb).mono hb.size
  replace hT := hT.below hb hg
  replace hg := Nat.lt_of_lt_of_le hg hb.size
  replace hB := hB.trans (hb.mono hB.size)
  have c0 := r0.cell (i := 0) rfl
  have c1 := r0.cell (i := 1) rfl
  have z1 := hr.b hr.lt
  clear hr hp
  clear hb
  go_wp2_with fail
  refine (k3 _ hw).mono ?_
  rintro e w2 ⟨rfl, hb⟩
  clear c0 c1
  replace r0 := row_below r0 hb r0.lt
  replace hw := (hw.below hb).mono hb.size
  replace z1 := z1.step hb
  replace hT := hT.below hb hg
  replace hg := Nat.lt_of_lt_of_le hg hb.size
  replace hB := hB.trans (hb.mono hB.size)
  have c0 := r0.cell (i := 0) rfl
  have c1 := r0.cell (i := 1) rfl
  clear hb
  go_wp2_with fail
  refine (k4 _ hw).mono ?_
  rintro e w3 ⟨av, cv, rfl, hb, hown⟩
  clear c0 c1
  replace r0 := row_below r0 hb r0.lt
  replace hw := (hw.below hb).mono hb.size
  replace z1 := z1.step hb
  replace hT := hT.below hb hg
  replace hg := Nat.lt_of_lt_of_le hg hb.size
  replace hB := hB.trans (hb.mono hB.size)
  have c0 := r0.cell (i := 0) rfl
  have c1 := r0.cell (i := 1) rfl
  have z2 := ownsRow_b hown
  clear hown
  clear hb
  go_wp2_with fail
  refine (Longs_same _ _ _ _ C n _ hlc (by omega) _ z1 z2 (Nat.le_refl _)).mono ?_
  rintro e w4 ⟨rfl, hb⟩
  clear c0 c1
  replace r0 := row_below r0 hb r0.lt
  replace hw := (hw.below hb).mono hb.size
  replace z1 := z1.step hb
  replace z2 := z2.step hb
  replace hT := hT.below hb hg
  replace hg := Nat.lt_of_lt_of_le hg hb.size
  replace hB := hB.trans (hb.mono hB.size)
  have c0 := r0.cell (i := 0) rfl
  have c1 := r0.cell (i := 1) rfl
  clear hb
  go_wp2_with fail
  go_ret
  exact ⟨rfl, hB⟩

/-- **MobiusChains answers true, for every order and any two numbers, and writes nothing that was there** -/
theorem mchains_any (n : Int) (a : Option Addr) (cap : Nat) (us : List Nat) (x y : Int) (n₀ : Nat) (hf : Fit us) (w : World) (hT : TabAt w) (hw : IsWords n₀ w a us) (hg : 0 < n₀) (hn₀ : n₀ ≤ w.heap.size) :
    Calls Tryd.prog 7 #[.agg #[.int .i64 n, .slice a us.length cap], .int .i64 x, .int .i64 y] w fun e w' => e = .returned (.bool true) ∧ Below w.heap.size w w' := by
  by_cases hc : codeOf n us = 0
  · obtain rfl := (code_zero hc).2.2.1
    by_cases h : (0 ≤ x ∧ x < us.length) ∧ 0 ≤ y ∧ y < us.length
    · obtain ⟨x, rfl⟩ : ∃ k : Nat, x = (k : Int) := ⟨x.toNat, by omega⟩
      obtain ⟨y, rfl⟩ : ∃ k : Nat, y = (k : Int) := ⟨y.toNat, by omega⟩
      exact mchains_in us.length a cap us x y n₀ rfl hf w hT hw hg hn₀ hc (by omega) (by omega)
    · exact mchains_arg us.length a cap us x y n₀ rfl hf w hT hw hg hn₀ hc h
  · exact mchains_bad n a cap us x y n₀ hf w hT hw hg hn₀ hc
end Go.Proofs.YtilffmalkegioaaDoor
