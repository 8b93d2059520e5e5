/- The contract of package polar's Complete. Plain: each word without its own element. -/
import Derived.Test.YtdeglbmoiofpoaaDoorPart14
import Derived.Test.YtdeglbmoiofpoaaDoorPart16
import Derived.Test.YtdeglbmoiofpoaaDoorPart10
import Derived.Test.YtdeglbmoiofpoaaDoorPart18
import Derived.Test.YtdeglbmoiofpoaaDoorPart4
namespace Go.Proofs.YtdeglbmoiofpoaaDoor
open Go.RowKit Go.Shelf

theorem wd_injC {L : List Nat} (h : L.Nodup) {i j : Nat} (hi : i < L.length) (hj : j < L.length) (e : wd L i = wd L j) : i = j := by
  unfold wd at e
  rw [List.getD_eq_getElem?_getD, List.getD_eq_getElem?_getD, List.getElem?_eq_getElem hi, List.getElem?_eq_getElem hj] at e
  exact (List.getElem_inj h).1 e
theorem rowsP_con (n : Nat) (us : List Nat) : rowsP (conP n us) = conL n us := by
  unfold rowsP conP; rw [List.map_map]; exact List.map_id _
/-- what lies below j is what the column j has -/
theorem tur_dn {us ds : List Nat} (h : Tur us us.length [] ds) {j : Nat} (hj : j < us.length) (hl : us.length ≤ 16) : wd ds j = dnW us (bitW j) := word_ext' fun i => by
  rw [h.has j hj i, mem_dn (bitW_lt (by omega))]
  simp only [List.not_mem_nil, decide_false, Bool.and_false, Bool.or_false, Bool.and_eq_true, decide_eq_true_iff]
  refine and_congr_right fun _ => ?_
  constructor
  · intro h k hk
    rw [hasB_bitW, decide_eq_true_iff] at hk
    subst hk; exact h
  · intro h
    exact h j (by rw [hasB_bitW]; simp)
/-- where the column j lies among all -/
theorem col_place {us : List Nat} (hl : us.length ≤ 16) {j : Nat} (hj : j < us.length) : ∃ i, i < (conL us.length us).length ∧ wd (conL us.length us) i = dnW us (bitW j) := by
  refine mem_wd ((mem_conL hl).2 ⟨bitW j, bitW_lt (by omega), fun i hi => ?_, rfl⟩)
  rw [hasB_bitW, decide_eq_true_iff] at hi
  subst hi; exact hj
theorem col_places {us : List Nat} (hl : us.length ≤ 16) : ∃ f : Nat → Nat, ∀ j, j < us.length → f j < (conL us.length us).length ∧ wd (conL us.length us) (f j) = dnW us (bitW j) := by
  refine ⟨fun j => if h : j < us.length then (col_place hl h).choose else 0, fun j hj => ?_⟩
  simp only [dif_pos hj]
  exact (col_place hl hj).choose_spec
theorem ord_codeC {us : List Nat} (hf : Fit us) (h : codeOf us.length us = 0) : codeC us.length us = 0 := by
  obtain ⟨_, h16, _, hin, _⟩ := code_zero h
  exact codeC_ok (by omega) (by omega) (outAny_false.2 fun i hi => outside_of fun j hj => hin i hi j (hasB_lt (hf i) hj) hj)

/-- what Complete answers, where the order may be -/
def ComAns (us : List Nat) (w : World) (e : Ending) (w' : World) : Prop :=
  Below w.heap.size w w' ∧ ((16 < (conL us.length us).length ∧ e = .returned (.tuple #[.agg #[.int .i64 0, .slice none 0 0], .slice none 0 0, .int .i64 1])) ∨ ((conL us.length us).length ≤ 16 ∧ ∃ (g h : Nat) (f : Nat → Nat), e = .returned (.tuple #[.agg #[.int .i64 ((conL us.length us).length : Nat), .slice (some ⟨g, 0, none⟩) (conL us.length us).length (conL us.length us).length], .slice (some ⟨h, 0, none⟩) us.length us.length, .int .i64 0]) ∧ w.heap.size ≤ g ∧ w.heap.size ≤ h ∧ Row w' g 65 (wvals (inclL (conL us.length us))) ∧ Row w' h 3 (zvals ((List.range us.length).map fun j => ((f j : Nat) : Int))) ∧ (∀ j, j < us.length → f j < (conL us.length us).length ∧ wd (conL us.length us) (f j) = dnW us (bitW j))))

set_option maxRecDepth 100000 in
set_option maxHeartbeats 1000000 in
theorem Com_bad (n : Int) (a : Option Addr) (cap : Nat) (us : List Nat) (n₀ : Nat) (hf : Fit us) (w : World) (hT : TabAt w) (hw : IsWords n₀ w a us) (hg : 0 < n₀) (hn₀ : n₀ ≤ w.heap.size) (hc : codeOf n us ≠ 0) :
    Calls Tryd.prog 7 #[.agg #[.int .i64 n, .slice a us.length cap]] w fun e w' => e = .returned (.tuple #[.agg #[.int .i64 0, .slice none 0 0], .slice none 0 0, .int .i64 (codeOf n us)]) ∧ Below w.heap.size w w' := by
  obtain ⟨r0, r1, hb0, hs0⟩ := two_rows w 24 (.int .i64 n) (.slice a us.length cap) (.int .i64 0) (.slice none 0 0) rfl
  have hck := Dual_bad n a cap us n₀ hf _ (hT.below hb0 (by omega)) (hw.below (hb0.mono hn₀)) hg (by omega) hc
  generalize codeOf n us = c at *
  have hne : (c != 0) = true := by rw [bne_iff_ne]; exact hc
  have Hb := hide hb0
  clear hb0 hc hs0
  go_enter Tryd.func7, Tryd.ntmps7
  go_wp2_with (go_at_call 31; refine hck.mono ?_)
  rintro e w1 ⟨rfl, hb1⟩
  have hs1 := hb1.size
  have q1 := (row_below r1 hb1 r1.lt).alloc (.cells #[.int .i64 0, .slice none 0 0] 24)
  have k0 := q1.cell (i := 0) rfl
  have k1 := q1.cell (i := 1) rfl
  have f0 := q1.frozen 0
  have f1 := q1.frozen 1
  go_wp2
  have q2 := (q1.set 0 (.int .i64 0)).set 1 (.slice none 0 0)
  have e0 := q2.cell (i := 0) (v := .int .i64 0) rfl
  have e1 := q2.cell (i := 1) (v := .slice none 0 0) rfl
  refine bodyPost_ret (v := .tuple #[.agg #[.int .i64 0, .slice none 0 0], .slice none 0 0, .int .i64 c]) (by simp [results, Tryd.results7, go_sem, e0, e1]) rfl ⟨rfl, ?_⟩
  exact (((Hb.out.trans (hb1.mono (by simp; omega))).alloc (by simp at hs1; omega) _).setCell (p := ⟨w.heap.size + 1, 0, none⟩) (by simp) _).setCell (p := ⟨w.heap.size + 1, 1, none⟩) (by simp) _

set_option maxRecDepth 100000 in
set_option maxHeartbeats 4000000 in
theorem Com_ok (a : Option Addr) (cap : Nat) (us : List Nat) (n₀ : Nat) (hf : Fit us) (w : World) (hT : TabAt w) (hw : IsWords n₀ w a us) (hg : 0 < n₀) (hn₀ : n₀ ≤ w.heap.size) (hc : codeOf us.length us = 0) :
    Calls Tryd.prog 7 #[.agg #[.int .i64 us.length, .slice a us.length cap]] w (ComAns us w) := by
  obtain ⟨r0, r1, hb0, hs0⟩ := two_rows w 24 (.int .i64 us.length) (.slice a us.length cap) (.int .i64 0) (.slice none 0 0) rfl
  have hl16 : us.length ≤ 16 := by have := code_zero hc; omega
  have hck := Dual_ok us.length a cap us n₀ hf _ (hT.below hb0 (by omega)) (hw.below (hb0.mono hn₀)) hg (by omega) hc
  have hcC := ord_codeC hf hc
  have hz0 : w.heap.size ≤ ((w.alloc (.cells #[.int .i64 us.length, .slice a us.length cap] 24)).alloc (.cells #[.int .i64 0, .slice none 0 0] 24)).heap.size := by omega
  have hw0 := hw.below (hb0.mono hn₀)
  have Hb := hide hb0
  clear hb0 hc hT hw
  go_enter Tryd.func7, Tryd.ntmps7
  go_wp2_with (go_at_call 31; refine hck.mono ?_)
  rintro e w1 ⟨g, ds, rfl, hb1, hg1, rD, hTur⟩
  have hs1 := hb1.size
  have HB1 := hide (Hb.out.trans (hb1.mono hz0))
  have hw1 := hw0.below (hb1.mono (by omega))
  have q0 := row_below r0 hb1 r0.lt
  have q1 := row_below r1 hb1 r1.lt
  have lD := rD.lt
  have HTur := hide hTur
  have hdl := hTur.len
  clear hck hb1 r0 r1 hw0 hTur Hb
  obtain ⟨r2, hb2, hs2⟩ := one_row w1 24 (.int .i64 us.length) (.slice (some ⟨g, 0, none⟩) us.length us.length) rfl
  have p0 := row_below q0 hb2 q0.lt
  have p1 := row_below q1 hb2 q1.lt
  have pD := row_below rD hb2 lD
  have hw2 := hw1.below (hb2.mono (by omega))
  have HB2 := hide (HB1.out.trans (hb2.mono (by omega)))
  have hR2 : Rdy a us n₀ _ := ⟨hf, hw2, by omega⟩
  have hcon := Concepts_any us.length a cap us n₀ _ hR2
  have j0 := p0.cell (i := 0) rfl
  have j1 := p0.cell (i := 1) rfl
  clear q0 q1 rD hb2 hw1 hR2 hw2
  go_wp2_with (go_at_call 32; refine hcon.mono ?_)
  rintro e w3 ⟨hAns, hb3⟩
  have hs3 := hb3.size
  rw [hs2] at hs3
  have HB3 := hide (HB2.out.trans (hb3.mono (by omega)))
  have s1 := row_below p1 hb3 p1.lt
  have s2 := row_below r2 hb3 r2.lt
  have sD := row_below pD hb3 pD.lt
  clear hcon hb3 p0 p1 pD r2 j0 j1
  unfold ConPost at hAns
  rw [hcC] at hAns
  clear hcC
  have htn : ((us.length : Nat) : Int).toNat = us.length := Int.toNat_natCast _
  rw [htn] at hAns
  clear htn
  rcases hAns with ⟨h, _⟩ | ⟨_, hbig, rfl⟩ | ⟨_, P, B, cp, hP, hsm, rfl, hcs, hBl⟩
  · exact absurd rfl h
  · have HL := hide hbig
    clear hbig
    have q1 := s1.alloc (.cells #[.slice none 0 0] 58)
    have k0 := q1.cell (i := 0) rfl
    have k1 := q1.cell (i := 1) rfl
    have f0 := q1.frozen 0
    have f1 := q1.frozen 1
    go_wp2
    have q2 := (q1.set 0 (.int .i64 0)).set 1 (.slice none 0 0)
    have e0 := q2.cell (i := 0) (v := .int .i64 0) rfl
    have e1 := q2.cell (i := 1) (v := .slice none 0 0) rfl
    refine bodyPost_ret (v := .tuple #[.agg #[.int .i64 0, .slice none 0 0], .slice none 0 0, .int .i64 1]) (by simp [results, Tryd.results7, go_sem, e0, e1]) rfl ⟨?_, .inl ⟨by have := HL.out; omega, rfl⟩⟩
    exact ((HB3.out.alloc (by omega) _).setCell (p := ⟨w.heap.size + 1, 0, none⟩) (by simp) _).setCell (p := ⟨w.heap.size + 1, 1, none⟩) (by simp) _
  · have hPl : P.length = (conL us.length us).length := by rw [hP, conP_len]
    have hrP : rowsP P = conL us.length us := by rw [hP, rowsP_con]
    have HP := hide hPl
    have HR := hide hrP
    obtain ⟨f, hff⟩ := col_places hl16
    have HF := hide hff
    have hltP : ∀ i, i < P.length → wd (rowsP P) i < 4294967296 := fun i hi => by
      rw [hrP]
      exact Ext.lt hl16 ((mem_conL hl16).1 (wd_mem (by omega)))
    have hneP : ∀ i j, i < P.length → j < P.length → wd (rowsP P) i = wd (rowsP P) j → i = j := fun i j hi hj h => by
      rw [hrP] at h
      exact wd_injC (nodup_of_rising (rising_conL _ _)) (by omega) (by omega) h
    have hfP : ∀ j, j < us.length → f j < P.length ∧ wd ds j = wd (rowsP P) (f j) := fun j hj => by
      have := HF.out j hj
      rw [hrP, tur_dn HTur.out hj hl16]
      exact ⟨by omega, this.2.symm⟩
    have HLT := hide hltP
    have HNE := hide hneP
    have HFP := hide hfP
    clear hltP hneP hfP hff hrP hPl hP
    obtain ⟨N, hN⟩ : ∃ N, P.length = N := ⟨_, rfl⟩
    have HN := hide hN
    rw [hN] at hsm
    have rL := Row.new w3 58 [.slice (some ⟨B, 0, none⟩) N cp]
    have hb4 : Below w3.heap.size w3 (w3.alloc (.cells #[.slice (some ⟨B, 0, none⟩) N cp] 58)) := (Below.refl _ _).alloc (Nat.le_refl _) _
    have cL := rL.cell (i := 0) rfl
    have t1 := s1.alloc (.cells #[.slice (some ⟨B, 0, none⟩) N cp] 58)
    have t2 := s2.alloc (.cells #[.slice (some ⟨B, 0, none⟩) N cp] 58)
    have tD := sD.alloc (.cells #[.slice (some ⟨B, 0, none⟩) N cp] 58)
    have hcs4 := hcs.below hb4 hBl
    have HB4 := hide (HB3.out.trans (hb4.mono (by omega)))
    have hs4 : (w3.alloc (.cells #[.slice (some ⟨B, 0, none⟩) N cp] 58)).heap.size = w3.heap.size + 1 := by simp
    clear hb4 s1 s2 sD hcs
    by_cases h16 : 16 < N
    · have k0 := t1.cell (i := 0) rfl
      have k1 := t1.cell (i := 1) rfl
      have f0 := t1.frozen 0
      have f1 := t1.frozen 1
      rw [hN]
      clear hN
      go_wp2
      have q2 := (t1.set 0 (.int .i64 0)).set 1 (.slice none 0 0)
      have e0 := q2.cell (i := 0) (v := .int .i64 0) rfl
      have e1 := q2.cell (i := 1) (v := .slice none 0 0) rfl
      refine bodyPost_ret (v := .tuple #[.agg #[.int .i64 0, .slice none 0 0], .slice none 0 0, .int .i64 1]) (by simp [results, Tryd.results7, go_sem, e0, e1]) rfl ⟨?_, .inl ⟨by have := HP.out; have := HN.out; omega, rfl⟩⟩
      exact (HB4.out.setCell (p := ⟨w.heap.size + 1, 0, none⟩) (by simp) _).setCell (p := ⟨w.heap.size + 1, 1, none⟩) (by simp) _
    · have hord := ordered_any w3.heap.size B N cp (by omega) P hN (by rw [← hN]; exact HLT.out) _ cL hcs4 (by omega) (by omega)
      rw [hN]
      clear hN
      go_wp2_with (go_at_call 33; refine hord.mono ?_)
      rintro e w5 ⟨g2, rfl, hb5, hg2, rG⟩
      have hs5 := hb5.size
      rw [hs4] at hs5 hg2
      have lG := rG.lt
      obtain ⟨r6, hb6, hs6⟩ := one_row w5 24 (.int .i64 N) (.slice (some ⟨g2, 0, none⟩) N N) rfl
      obtain ⟨w6, h6⟩ : ∃ V, V = w5.alloc (.cells #[.int .i64 N, .slice (some ⟨g2, 0, none⟩) N N] 24) := ⟨_, rfl⟩
      rw [← h6] at r6 hb6 hs6
      have u1 := row_below (row_below t1 hb5 t1.lt) hb6 (by have := t1.lt; omega)
      have u2 := row_below (row_below t2 hb5 t2.lt) hb6 (by have := t2.lt; omega)
      have uD := row_below (row_below tD hb5 tD.lt) hb6 (by have := tD.lt; omega)
      have uL := row_below (row_below rL hb5 rL.lt) hb6 (by have := rL.lt; omega)
      have uG := row_below rG hb6 lG
      have hcs6 := (hcs4.below hb5 (by omega)).below hb6 (by omega)
      have hb46 := hb5.trans (hb6.mono hb5.size)
      have HB6 := hide (HB4.out.trans (hb46.mono (by omega)))
      clear hb46 hb5 hb6 hord t1 t2 tD rL rG hcs4 cL
      go_wp2_with fail
      rw [← h6]
      clear h6
      have hmx : Tryd.prog.follows .mixedOrders = true := by kernel_rfl
      have hBl6 : B < w6.heap.size := by omega
      have hp := placesOf_any B N cp P HN.out (by omega) (by rw [← HN.out]; exact HLT.out) (by rw [← HN.out]; exact HNE.out) (some ⟨g, 0, none⟩) us.length us.length hl16 ds hdl f (by rw [← HN.out]; exact HFP.out) w6.drew hcs6 hBl6 w6.heap.size (show IsWords w6.heap.size w6.drew (some ⟨g, 0, none⟩) ds from uD.words uD.lt) (Nat.le_refl _)
      have d1 : Row w6.drew (w.heap.size + 1) 24 [.int .i64 0, .slice none 0 0] := u1
      have d2 : Row w6.drew w1.heap.size 24 [.int .i64 us.length, .slice (some ⟨g, 0, none⟩) us.length us.length] := u2
      have dL : Row w6.drew w3.heap.size 58 [.slice (some ⟨B, 0, none⟩) N cp] := uL
      have d6 : Row w6.drew w5.heap.size 24 [.int .i64 N, .slice (some ⟨g2, 0, none⟩) N N] := r6
      have dG : Row w6.drew g2 65 (wvals (inclL (rowsP P))) := uG
      have a1 := d1.lt
      have aL := dL.lt
      have a6 := d6.lt
      have aG := dG.lt
      have a2 := d2.lt
      have x0 := d2.cell (i := 0) rfl
      have x1 := d2.cell (i := 1) rfl
      have y0 := dL.cell (i := 0) rfl
      have z0 := d6.cell (i := 0) rfl
      have z1 := d6.cell (i := 1) rfl
      have hnG : g2 ≠ w.heap.size + 1 := by omega
      clear u1 u2 uL r6 uG uD hcs6
      first | go_region_with (go_at_call 36; refine hp.mono ?_; rintro e w7 ⟨h, rfl, hb7, hh, rH⟩; have p1 := row_below d1 hb7 a1; have p2 := row_below d2 hb7 a2; have pL := row_below dL hb7 aL; have p6 := row_below d6 hb7 a6; have m0 := p2.cell (i := 0) rfl; have m1 := p2.cell (i := 1) rfl; have n0 := pL.cell (i := 0) rfl; have o0 := p6.cell (i := 0) rfl; have o1 := p6.cell (i := 1) rfl; have k0 := p1.cell (i := 0) rfl; have k1 := p1.cell (i := 1) rfl; have f0 := p1.frozen 0; have f1 := p1.frozen 1) | fail
      all_goals
        go_wp2
        have q2 := (p1.set 0 (.int .i64 N)).set 1 (.slice (some ⟨g2, 0, none⟩) N N)
        have e0 := q2.cell (i := 0) (v := .int .i64 N) rfl
        have e1 := q2.cell (i := 1) (v := .slice (some ⟨g2, 0, none⟩) N N) rfl
        have hh' : w6.heap.size ≤ h := hh
        have hnH : h ≠ w.heap.size + 1 := by have : w.heap.size + 1 < w6.heap.size := a1; omega
        have hNe : N = (conL us.length us).length := by rw [← HN.out]; exact HP.out
        have pG := row_below dG hb7 aG
        refine bodyPost_ret (v := .tuple #[.agg #[.int .i64 N, .slice (some ⟨g2, 0, none⟩) N N], .slice (some ⟨h, 0, none⟩) us.length us.length, .int .i64 0]) (by simp [results, Tryd.results7, go_sem, e0, e1]) rfl ⟨?_, .inr ⟨by omega, g2, h, f, by rw [← hNe], by omega, by omega, ?_, ?_, HF.out⟩⟩
        · exact (((HB6.out.drew).trans (hb7.mono (show w.heap.size ≤ w6.heap.size by omega))).setCell (p := ⟨w.heap.size + 1, 0, none⟩) (by simp) _).setCell (p := ⟨w.heap.size + 1, 1, none⟩) (by simp) _
        · rw [← HR.out]; exact (pG.other hnG _ _).other hnG _ _
        · exact (rH.other hnH _ _).other hnH _ _
end Go.Proofs.YtdeglbmoiofpoaaDoor

namespace Go.Proofs.YtdeglbmoiofpoaaDoor
open Go.RowKit Go.Shelf

/-- each word without its own element -/
def othL (us : List Nat) : List Nat := us.mapIdx fun i u => andN u (bitW i)
theorem othL_len (us : List Nat) : (othL us).length = us.length := by unfold othL; simp
theorem wd_othL {us : List Nat} {i : Nat} (h : i < us.length) : wd (othL us) i = andN (wd us i) (bitW i) := by
  unfold othL wd; simp [List.getD_eq_getElem?_getD, List.getElem?_mapIdx, List.getElem?_eq_getElem h]
theorem wd_out {us : List Nat} {i : Nat} (h : us.length ≤ i) : wd us i = 0 := by
  unfold wd; rw [List.getD_eq_getElem?_getD, List.getElem?_eq_none h]; rfl
theorem othL_fit {us : List Nat} (hf : Fit us) : Fit (othL us) := fun i => by
  by_cases h : i < us.length
  · rw [wd_othL h]; exact andN_lt (hf i)
  · rw [wd_out (by rw [othL_len]; omega)]; omega
theorem wd_ext {us vs : List Nat} (hl : us.length = vs.length) (h : ∀ i, i < us.length → wd us i = wd vs i) : us = vs := by
  apply List.ext_getElem hl
  intro i h1 h2
  have := h i h1
  unfold wd at this
  simpa [List.getD_eq_getElem?_getD, List.getElem?_eq_getElem h1, List.getElem?_eq_getElem h2] using this
/-- strictly below -/
theorem hasB_othL {us : List Nat} (hf : Fit us) {i : Nat} (h : i < us.length) (j : Nat) : hasB (wd (othL us) i) j = (hasB (wd us i) j && !decide (i = j)) := by
  rw [wd_othL h, hasB_andN (hf i), hasB_bitW]
end Go.Proofs.YtdeglbmoiofpoaaDoor
