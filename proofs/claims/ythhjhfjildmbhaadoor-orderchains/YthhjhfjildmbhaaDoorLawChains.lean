/- The walk of the law OrderChains: it answers true, and writes nothing that was there. -/
import Derived.Test.YthhjhfjildmbhaaDoorRefHeights
import Derived.Test.YthhjhfjildmbhaaDoorRefChain
import Derived.Test.YthhjhfjildmbhaaDoorChain
namespace Go.Proofs.YthhjhfjildmbhaaDoor
open Go.RowKit Go.Shelf

theorem IsInts.mono {n₀ n₁ : Nat} (hn : n₀ ≤ n₁) {A : World} {a : Option Addr} {l : List Nat} (h : IsInts n₀ A a l) : IsInts n₁ A a l := by
  rcases h with h | ⟨b, off, h1, h2, h3⟩
  · exact .inl h
  · exact .inr ⟨b, off, h1, by omega, h3⟩

set_option maxRecDepth 100000 in
set_option maxHeartbeats 1000000 in
theorem chains_bad (n : Int) (a : Option Addr) (cap : Nat) (us : List Nat) (n₀ : Nat) (hf : Fit us) (w : World) (hT : TabAt w) (hw : IsWords n₀ w a us) (hg : 0 < n₀) (hn₀ : n₀ ≤ w.heap.size) (hc : codeOf n us ≠ 0) :
    Calls Tryd.prog 7 #[.agg #[.int .i64 n, .slice a us.length cap]] w fun e w' => e = .returned (.bool true) ∧ Below w.heap.size w w' := by
  obtain ⟨r0, hb0, hs0⟩ := one_row w 24 (.int .i64 n) (.slice a us.length cap) rfl
  have hT1 := hT.below hb0 (by omega)
  have hw1 := hw.below (hb0.mono hn₀)
  have hck := Heights_bad n a cap us n₀ hf _ hT1 hw1 hg (by omega) hc
  have c00 := r0.cell (i := 0) rfl
  have c01 := r0.cell (i := 1) rfl
  go_enter Tryd.func7, Tryd.ntmps7
  go_wp2_with fail
  refine hck.mono ?_
  rintro e w1 ⟨rfl, hb1⟩
  have q1 := row_below r0 hb1 r0.lt
  have hB1 : Below w.heap.size w w1 := hb0.trans (hb1.mono (by omega))
  have ltQ := q1.lt
  have d00 := q1.cell (i := 0) rfl
  have d01 := q1.cell (i := 1) rfl
  clear hck c00 c01 hb1 hb0 hT1 hw1
  go_wp2_with fail
  refine (Chain_bad n a cap us n₀ hf w1 (hT.below hB1 (by omega)) (hw.below (hB1.mono hn₀)) hg (by omega) hc).mono ?_
  rintro e w2 ⟨rfl, hb2⟩
  have q2 := row_below q1 hb2 ltQ
  have hs2 := hb2.size
  have hB2 : Below w.heap.size w w2 := hB1.trans (hb2.mono (by omega))
  have hoc := OrderCheck_any n a cap us n₀ hf w2 (hw.below (hB2.mono hn₀)) (by omega)
  have e00 := q2.cell (i := 0) rfl
  have e01 := q2.cell (i := 1) rfl
  clear d00 d01 hb2
  go_wp2_with fail
  refine hoc.mono ?_
  rintro e w3 ⟨rfl, hb3⟩
  have hne : (codeOf n us != 0) = true := by rw [bne_iff_ne]; exact hc
  have hself : (codeOf n us == codeOf n us) = true := by simp
  have HB := hide (hB2.trans (hb3.mono (by omega)))
  clear hoc e00 e01 hb3
  go_wp2
  go_ret
  exact ⟨rfl, HB.out⟩

set_option maxRecDepth 100000 in
set_option maxHeartbeats 1000000 in
theorem chains_ok (n : Int) (a : Option Addr) (cap : Nat) (us : List Nat) (n₀ : Nat) (hf : Fit us) (w : World) (hT : TabAt w) (hw : IsWords n₀ w a us) (hg : 0 < n₀) (hn₀ : n₀ ≤ w.heap.size) (hc : codeOf n us = 0) :
    Calls Tryd.prog 7 #[.agg #[.int .i64 n, .slice a us.length cap]] w fun e w' => e = .returned (.bool true) ∧ Below w.heap.size w w' := by
  obtain ⟨_, h16, hlen, _, hord⟩ := code_zero hc
  have hl16 : us.length ≤ 16 := by omega
  obtain ⟨r0, hb0, hs0⟩ := one_row w 24 (.int .i64 n) (.slice a us.length cap) rfl
  have hT1 := hT.below hb0 (by omega)
  have hw1 := hw.below (hb0.mono hn₀)
  have hck := Heights_ok n a cap us n₀ hf _ hT1 hw1 hg (by omega) hc
  have c00 := r0.cell (i := 0) rfl
  have c01 := r0.cell (i := 1) rfl
  have Hlen := hide hlen; clear hlen
  have Hc := hide hc; clear hc
  go_enter Tryd.func7, Tryd.ntmps7
  go_wp2_with fail
  refine hck.mono ?_
  rintro e w1 ⟨B, hs, rfl, hb1, hBle, rH, hhl, hsm, hht⟩
  have q1 := row_below r0 hb1 r0.lt
  have hB1 : Below w.heap.size w w1 := hb0.trans (hb1.mono (by omega))
  have ltQ := q1.lt
  have ltH := rH.lt
  have d00 := q1.cell (i := 0) rfl
  have d01 := q1.cell (i := 1) rfl
  clear hck c00 c01 hb1 hb0 hT1 hw1 r0
  go_wp2_with fail
  refine (Chain_ok n a cap us n₀ hf w1 (hT.below hB1 (by omega)) (hw.below (hB1.mono hn₀)) hg (by omega) Hc.out).mono ?_
  rintro e w2 ⟨av, cv, gs, M, rfl, hb2, hown, hgt, htop, hMl⟩
  have q2 := row_below q1 hb2 ltQ
  have rH2 := row_below rH hb2 ltH
  have hs2 := hb2.size
  have hB2 : Below w.heap.size w w2 := hB1.trans (hb2.mono (by omega))
  have hoc := OrderCheck_any n a cap us n₀ hf w2 (hw.below (hB2.mono hn₀)) (by omega)
  rw [Hc.out] at hoc
  have e00 := q2.cell (i := 0) rfl
  have e01 := q2.cell (i := 1) rfl
  clear d00 d01 hb2
  go_wp2_with fail
  refine hoc.mono ?_
  rintro e w3 ⟨rfl, hb3⟩
  have q3 := row_below q2 hb3 (by omega)
  have rH3 := row_below rH2 hb3 (by omega)
  have hs3 := hb3.size
  have hB3 : Below w.heap.size w w3 := hB2.trans (hb3.mono (by omega))
  have iC3 := (ownsRow_ints hown).below hb3
  have hlen := Hlen.out
  subst hlen
  have hor := OrderHeights_any a cap us (wd hs) n₀ hf hl16 hht (fun x _ => hsm x) w3 (hw.below (hB3.mono hn₀)) (by omega)
  have f00 := q3.cell (i := 0) rfl
  have f01 := q3.cell (i := 1) rfl
  clear hoc e00 e01 hown hb3
  go_wp2_with fail
  refine hor.mono ?_
  rintro e w4 ⟨hs', rfl, hb4, rH', hhl', heq⟩
  obtain rfl : hs' = hs := wd_ext (by omega) (fun i hi => heq i (by omega))
  have q4 := row_below q3 hb4 (by omega)
  have rH4 := row_below rH3 hb4 (by omega)
  have hs4 := hb4.size
  have hB4 : Below w.heap.size w w4 := hB3.trans (hb4.mono (by omega))
  have iC4 := iC3.below (hb4.mono hs3)
  have hpa := TimesSame_any (some ⟨B, 0, none⟩) (some ⟨w3.heap.size + 1, 0, none⟩) us.length us.length hs' hs' w4.heap.size rfl (by omega) w4 (rowInts rH4 (by omega)) (rowInts rH' rH'.lt)
  rw [hhl', show sameIB hs' hs' = true by simp [sameIB]] at hpa
  have g00 := q4.cell (i := 0) rfl
  have g01 := q4.cell (i := 1) rfl
  clear hor f00 f01 hb4
  go_wp2_with fail
  refine hpa.mono ?_
  rintro e w5 ⟨rfl, hb5⟩
  have q5 := row_below q4 hb5 (by omega)
  have hs5 := hb5.size
  have hB5 : Below w.heap.size w w5 := hB4.trans (hb5.mono (by omega))
  have iC5 := iC4.below (hb5.mono (by omega))
  have hoc := OrderChain_any a cap us (wd gs) n₀ hf hl16 hord hgt (fun x hx => by have := htop.1 x hx; omega) w5 (hw.below (hB5.mono hn₀)) (by omega)
  have k00 := q5.cell (i := 0) rfl
  have k01 := q5.cell (i := 1) rfl
  clear hpa g00 g01 hb5
  go_wp2_with fail
  refine hoc.mono ?_
  rintro e w6 ⟨av2, cv2, all, rfl, hb6, iA, hAo⟩
  have hall := chain_from hgt htop hAo
  have hs6 := hb6.size
  have hB6 : Below w.heap.size w w6 := hB5.trans (hb6.mono (by omega))
  have iC6 := (iC5.below (hb6.mono (by omega))).mono (show w2.heap.size ≤ w6.heap.size by omega)
  have hlc : all.length = M := by rw [hall, chainF_len]
  rw [← hall] at iC6
  have hpb := TimesSame_any av av2 cv cv2 all all w6.heap.size rfl (by omega) w6 iC6 iA
  rw [show sameIB all all = true by simp [sameIB], hlc] at hpb
  rw [hlc]
  clear hoc k00 k01 hb6
  go_wp2_with fail
  refine hpb.mono ?_
  rintro e w7 ⟨rfl, hb7⟩
  go_wp2
  go_ret
  exact ⟨rfl, hB6.trans (hb7.mono (by omega))⟩

/-- **OrderChains answers true, for every order, and writes nothing that was there** -/
theorem chains_any (n : Int) (a : Option Addr) (cap : Nat) (us : List Nat) (n₀ : Nat) (hf : Fit us) (w : World) (hT : TabAt w) (hw : IsWords n₀ w a us) (hg : 0 < n₀) (hn₀ : n₀ ≤ w.heap.size) :
    Calls Tryd.prog 7 #[.agg #[.int .i64 n, .slice a us.length cap]] w fun e w' => e = .returned (.bool true) ∧ Below w.heap.size w w' := by
  by_cases hc : codeOf n us = 0
  · exact chains_ok n a cap us n₀ hf w hT hw hg hn₀ hc
  · exact chains_bad n a cap us n₀ hf w hT hw hg hn₀ hc
end Go.Proofs.YthhjhfjildmbhaaDoor
