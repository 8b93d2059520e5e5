/- The walk of the law DownsBelow: it answers true, and writes nothing that was there. -/
import Derived.Test.YtnmiebeochinmaaDoorRefBirk
import Derived.Test.YtnmiebeochinmaaDoorRefMakeOk
import Derived.Test.YtnmiebeochinmaaDoorSameW
import Derived.Test.YtnmiebeochinmaaDoorTurEx
namespace Go.Proofs.YtnmiebeochinmaaDoor
open Go.RowKit Go.Shelf

set_option maxRecDepth 100000 in
set_option maxHeartbeats 1000000 in
theorem dbelow_err (n : Int) (a : Option Addr) (len cap : Nat) (c : Int) (hc : c ≠ 0) (w : World) (h1 : ∀ W, Below w.heap.size w W → Calls Tryd.prog 15 #[.agg #[.int .i64 n, .slice a len cap]] W fun e w' => e = birkErr c ∧ Below W.heap.size W w') (h2 : ∀ W, Below w.heap.size w W → Calls Tryd.prog 16 #[.agg #[.int .i64 n, .slice a len cap]] W fun e w' => e = latErr c ∧ Below W.heap.size W w') :
    Calls Tryd.prog 4 #[.agg #[.int .i64 n, .slice a len cap]] w fun e w' => e = .returned (.bool true) ∧ Below w.heap.size w w' := by
  obtain ⟨r0, hb0, hs0⟩ := one_row w 24 (.int .i64 n) (.slice a len cap) rfl
  have s1 := h1 _ hb0
  unfold birkErr at s1
  unfold latErr at h2
  have e1 : (c != 0) = true := by rw [bne_iff_ne]; exact hc
  have e2 : (c == c) = true := by simp
  have lt0 := r0.lt
  clear h1 hc
  go_enter Tryd.func4, Tryd.ntmps4
  go_wp2_with fail
  refine s1.mono ?_
  rintro e w1 ⟨rfl, hb1⟩
  have q0 := row_below r0 hb1 lt0
  have j0 := q0.cell (i := 0) rfl
  have j1 := q0.cell (i := 1) rfl
  have hB1 : Below w.heap.size w w1 := hb0.trans (hb1.mono (by omega))
  go_wp2_with fail
  refine (h2 w1 hB1).mono ?_
  rintro e w2 ⟨rfl, hb2⟩
  go_wp2_with fail
  go_ret
  exact ⟨rfl, (hB1.trans (hb2.mono hB1.size)).alloc (by have := hb2.size; have := hB1.size; omega) _⟩

set_option maxRecDepth 100000 in
set_option maxHeartbeats 1000000 in
theorem dbelow_ok (a : Option Addr) (cap : Nat) (us ds : List Nat) (n₀ : Nat) (hf : Fit us) (w : World) (hT : TabAt w) (hw : IsWords n₀ w a us) (hg : 0 < n₀) (hn₀ : n₀ ≤ w.heap.size) (hc : codeOf us.length us = 0) (hD : Tur us us.length [] ds) (hl : latB us ds = true) :
    Calls Tryd.prog 4 #[.agg #[.int .i64 us.length, .slice a us.length cap]] w fun e w' => e = .returned (.bool true) ∧ Below w.heap.size w w' := by
  have hl16 : us.length ≤ 16 := by have := code_zero hc; omega
  obtain ⟨r0, hb0, hs0⟩ := one_row w 24 (.int .i64 us.length) (.slice a us.length cap) rfl
  have s1 := Birk_ok a cap us ds n₀ hf _ (hT.below hb0 (by omega)) (hw.below (hb0.mono hn₀)) hg (by omega) hc hD hl
  have h2 : ∀ W, Below w.heap.size w W → Calls Tryd.prog 16 #[.agg #[.int .i64 us.length, .slice a us.length cap]] W fun e w' => ∃ (a1 : Option Addr) (l1 c1 : Nat) (a2 : Option Addr) (l2 c2 : Nat) (z1 z2 : Int), e = .returned (.tuple #[.agg #[.slice a1 l1 c1, .slice a2 l2 c2, .int .i64 z1, .int .i64 z2], .int .i64 0]) ∧ Below W.heap.size W w' := fun W hW =>
    (RefMake_ok us.length a cap us ds n₀ hf W (hw.below (hW.mono hn₀)) (by have := hW.size; omega) hc hD hl).mono (by
      rintro e w' ⟨aj, cj, am, cm, js, ms, rfl, hb, _⟩
      exact ⟨_, _, _, _, _, _, _, _, rfl, hb⟩)
  have h3 : ∀ W, Below w.heap.size w W → _ := fun W hW => RefBirk_any a cap us n₀ hf hl16 W (hw.below (hW.mono hn₀)) (by have := hW.size; omega)
  have hbl : (birkL us (lowIrr us) us.length).length = us.length := birkL_len _ _ _
  have lt0 := r0.lt
  clear hc hl hD
  generalize birkL us (lowIrr us) us.length = L at *
  go_enter Tryd.func4, Tryd.ntmps4
  go_wp2_with fail
  refine s1.mono ?_
  rintro e w1 ⟨g, rfl, hb1, hge, rg⟩
  clear s1
  have q0 := row_below r0 hb1 lt0
  have lq0 := q0.lt
  have j0 := q0.cell (i := 0) rfl
  have j1 := q0.cell (i := 1) rfl
  have hB1 : Below w.heap.size w w1 := hb0.trans (hb1.mono (by omega))
  go_wp2_with fail
  refine (h2 w1 hB1).mono ?_
  rintro e w2 ⟨a1, l1, c1, a2, l2, c2, z1, z2, rfl, hb2⟩
  clear h2 j0 j1
  have hs2 := hb2.size
  obtain ⟨V, hV⟩ : ∃ V, V = w2.alloc (.cells #[.slice a1 l1 c1, .slice a2 l2 c2, .int .i64 z1, .int .i64 z2] 38) := ⟨_, rfl⟩
  have hA : Below w2.heap.size w2 V := by rw [hV]; exact (Below.refl _ _).alloc (Nat.le_refl _) _
  have hBV : Below w.heap.size w V := (hB1.trans (hb2.mono hB1.size)).trans (hA.mono (by have := hB1.size; omega))
  have q1 := row_below q0 hb2 lq0
  have lq1 := q1.lt
  have j0 := q1.cell (i := 0) rfl
  have j1 := q1.cell (i := 1) rfl
  have rg2 := row_below rg hb2 rg.lt
  have rgV := row_below rg2 hA rg2.lt
  have s3 := h3 V hBV
  clear h3
  go_wp2_with fail
  rw [← hV]
  clear hV
  refine s3.mono ?_
  rintro e w3 ⟨av, cv, rfl, hb3, hwv⟩
  have rg3 := row_below rgV hb3 rgV.lt
  have hsm := Words_any (some ⟨g, 0, none⟩) av us.length cv L L w3.heap.size (by omega) w3 (rg3.words rg3.lt) hwv
  rw [hbl] at hsm
  have hself : sameB L L = true := by unfold sameB; simp
  rw [hself] at hsm
  go_wp2_with fail
  refine hsm.mono ?_
  rintro e w4 ⟨rfl, hb4⟩
  go_wp2_with fail
  go_ret
  exact ⟨rfl, (hBV.trans (hb3.mono hBV.size)).trans (hb4.mono (by have := hb3.size; have := hBV.size; omega))⟩

/-- **DownsBelow answers true, for every order, and writes nothing that was there** -/
theorem dbelow_any (n : Int) (a : Option Addr) (cap : Nat) (us : List Nat) (n₀ : Nat) (hf : Fit us) (w : World) (hT : TabAt w) (hw : IsWords n₀ w a us) (hg : 0 < n₀) (hn₀ : n₀ ≤ w.heap.size) :
    Calls Tryd.prog 4 #[.agg #[.int .i64 n, .slice a us.length cap]] w fun e w' => e = .returned (.bool true) ∧ Below w.heap.size w w' := by
  have hTW : ∀ {W}, Below w.heap.size w W → TabAt W := fun hW => hT.below hW (by omega)
  have hwW : ∀ {W}, Below w.heap.size w W → IsWords n₀ W a us := fun hW => hw.below (hW.mono hn₀)
  have hnW : ∀ {W}, Below w.heap.size w W → n₀ ≤ W.heap.size := fun hW => by have := hW.size; omega
  have hcomp : ∀ {W X}, Below w.heap.size w W → Below W.heap.size W X → Below w.heap.size w X := fun hW hX => hW.trans (hX.mono hW.size)
  by_cases hc : codeOf n us = 0
  · obtain ⟨ds, hD⟩ := tur_ex hf (by have := code_zero hc; omega)
    cases hl : latB us ds with
    | true =>
      have en := (code_zero hc).2.2.1.symm
      subst en
      exact dbelow_ok a cap us ds n₀ hf w hT hw hg hn₀ hc hD hl
    | false => exact dbelow_err n a us.length cap 5 (by decide) w (fun W hW => Birk_err n a us.length cap 5 (by decide) W fun Y hY => Irr_err n a us.length cap 5 (by decide) Y fun X hX => TableOf_none n a cap us ds n₀ hf X (hTW (hcomp (hcomp hW hY) hX)) (hwW (hcomp (hcomp hW hY) hX)) hg (hnW (hcomp (hcomp hW hY) hX)) hc hD hl) (fun W hW => RefMake_none n a cap us ds n₀ hf W (hwW hW) (hnW hW) hc hD hl)
  · exact dbelow_err n a us.length cap _ hc w (fun W hW => Birk_err n a us.length cap _ hc W fun Y hY => Irr_err n a us.length cap _ hc Y fun X hX => TableOf_bad n a cap us n₀ hf X (hTW (hcomp (hcomp hW hY) hX)) (hwW (hcomp (hcomp hW hY) hX)) hg (hnW (hcomp (hcomp hW hY) hX)) hc) (fun W hW => RefMake_bad n a cap us n₀ hf W (hwW hW) (hnW hW) hc)
end Go.Proofs.YtnmiebeochinmaaDoor
