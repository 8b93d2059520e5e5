/- Package mobius: Inverse. What the laws of tables ask of the lists: the inverse's inverse, and the products with it. -/
import Derived.Test.YtilffmalkegioaaDoorPart21
import Derived.Test.YtilffmalkegioaaDoorPart16
import Derived.Test.YtilffmalkegioaaDoorPart26
namespace Go.Proofs.YtilffmalkegioaaDoor
open Go.RowKit Go.Shelf

set_option maxRecDepth 100000 in
set_option maxHeartbeats 1000000 in
theorem Inverse_bad (n : Int) (a : Option Addr) (cap : Nat) (us : List Nat) (v1 : Value) (n₀ : Nat) (hf : Fit us) (w : World) (hT : TabAt w) (hw : IsWords n₀ w a us) (hg : 0 < n₀) (hn₀ : n₀ ≤ w.heap.size) (hc : codeOf n us ≠ 0) :
    Calls Tryd.prog 23 #[.agg #[.int .i64 n, .slice a us.length cap], v1] w fun e w' => e = mobErr (codeOf n us) ∧ Below w.heap.size w w' := by
  obtain ⟨r0, hb0, hs0⟩ := one_row w 24 (.int .i64 n) (.slice a us.length cap) rfl
  have hck := Sorted_bad n a cap us n₀ hf _ (hT.below hb0 (by omega)) (hw.below (hb0.mono hn₀)) hg (by omega) hc
  unfold mobErr
  generalize codeOf n us = c at *
  have hne : (c != 0) = true := by rw [bne_iff_ne]; exact hc
  have Hb := hide hb0
  clear hb0 hc hs0
  go_enter Tryd.func23, Tryd.ntmps23
  go_wp2_with (go_at_call 39; refine hck.mono ?_; rintro e w1 ⟨rfl, hb1⟩)
  go_ret2
  exact ⟨rfl, Hb.out.trans (hb1.mono (by simp))⟩

set_option maxRecDepth 100000 in
set_option maxHeartbeats 4000000 in
theorem Inverse_notab (n : Nat) (a : Option Addr) (cap : Nat) (us : List Nat) (af : Option Addr) (cf : Nat) (F : List B64) (n₀ : Nat) (hn : n = us.length) (hf : Fit us) (w : World) (hT : TabAt w) (hw : IsWords n₀ w a us) (hvF : ZInts n₀ w af (tiL F)) (hg : 0 < n₀) (hn₀ : n₀ ≤ w.heap.size) (hc : codeOf n us = 0) (hno : ¬ IsTab us F) :
    Calls Tryd.prog 23 #[.agg #[.int .i64 n, .slice a n cap], .slice af F.length cf] w fun e w' => e = mobErr 2 ∧ Below w.heap.size w w' := by
  have hl : n ≤ 16 := by have := (code_zero hc).2.1; omega
  obtain ⟨r0, hb0, hs0⟩ := one_row w 24 (.int .i64 n) (.slice a n cap) rfl
  have hck := sorted_ans n a cap us hn hf hc _ (hT.below hb0 (by omega)) ((hw.below (hb0.mono hn₀)).mono (by omega)) (by omega)
  have t1 := fun (W : World) (hb : Below w.heap.size w W) => isTable_any n a cap us af cf F n₀ hn hf hl W (hw.below (hb.mono hn₀)) (hvF.below (hb.mono hn₀)) (by have := hb.size; omega)
  rw [tabB_false.2 hno] at t1
  unfold mobErr
  have Hb := hide hb0
  clear hb0 hc hno hn
  go_enter Tryd.func23, Tryd.ntmps23
  go_wp2_with fail
  refine hck.mono ?_
  rintro e w1 ⟨la, lc, rfl, hb1, hcap, hil⟩
  have q0 := row_below r0 hb1 r0.lt
  have c0 := q0.cell (i := 0) rfl
  have c1 := q0.cell (i := 1) rfl
  have hB1 := Hb.out.trans (hb1.mono (by simp))
  have hs1 := hB1.size
  clear hck
  go_wp2_with fail
  refine (t1 _ hB1).mono ?_
  rintro e w2 ⟨rfl, hb2⟩
  clear c0 c1
  go_wp2_with fail
  go_ret2
  exact ⟨rfl, hB1.trans (hb2.mono hs1)⟩

set_option maxRecDepth 100000 in
set_option maxHeartbeats 4000000 in
theorem Inverse_none (n : Nat) (a : Option Addr) (cap : Nat) (us : List Nat) (af : Option Addr) (cf : Nat) (F : List B64) (n₀ : Nat) (hn : n = us.length) (hf : Fit us) (w : World) (hT : TabAt w) (hw : IsWords n₀ w a us) (hvF : ZInts n₀ w af (tiL F)) (hg : 0 < n₀) (hn₀ : n₀ ≤ w.heap.size) (hc : codeOf n us = 0) (hF : IsTab us F) (hno : ¬ PM n (mat n F)) :
    Calls Tryd.prog 23 #[.agg #[.int .i64 n, .slice a n cap], .slice af (n * n) cf] w fun e w' => e = mobErr 5 ∧ Below w.heap.size w w' := by
  have hl : n ≤ 16 := by have := (code_zero hc).2.1; omega
  obtain ⟨r0, hb0, hs0⟩ := one_row w 24 (.int .i64 n) (.slice a n cap) rfl
  have hck := sorted_ans n a cap us hn hf hc _ (hT.below hb0 (by omega)) ((hw.below (hb0.mono hn₀)).mono (by omega)) (by omega)
  have t1 := fun (W : World) (hb : Below w.heap.size w W) => isTable_any n a cap us af cf F n₀ hn hf hl W (hw.below (hb.mono hn₀)) (hvF.below (hb.mono hn₀)) (by have := hb.size; omega)
  have hlF : F.length = n * n := by rw [hF.1, hn]
  have h2 : n * n ≤ 256 := Nat.mul_le_mul hl hl
  rw [tabB_true.2 hF, hlF] at t1
  have k1 := fun W hw => copied_any n hl af cf W.heap.size F hlF W hw (Nat.le_refl _)
  have hrow := row_any n
  unfold sqV at k1 hrow
  unfold mobErr
  have Hb := hide hb0
  clear hb0 hc hn hF
  go_enter Tryd.func23, Tryd.ntmps23
  go_wp2_with fail
  refine hck.mono ?_
  rintro e w1 ⟨la, lc, rfl, hb1, hcap, hil⟩
  have q0 := row_below r0 hb1 r0.lt
  have c0 := q0.cell (i := 0) rfl
  have c1 := q0.cell (i := 1) rfl
  have hB1 := Hb.out.trans (hb1.mono (by simp))
  have hs1 := hB1.size
  clear hck
  go_wp2_with fail
  refine (t1 _ hB1).mono ?_
  rintro e w2 ⟨rfl, hb2⟩
  clear c0 c1
  have q2 := row_below q0 hb2 q0.lt
  have c0 := q2.cell (i := 0) rfl
  have c1 := q2.cell (i := 1) rfl
  have hB2 := hB1.trans (hb2.mono hs1)
  have hs2 := hB2.size
  clear t1
  go_wp2_with fail
  refine (k1 _ ((hvF.below (hB2.mono hn₀)).mono (by omega))).mono ?_
  rintro e w3 ⟨p, rfl, hp, hb3, hr3⟩
  have z2 := hb2.size
  have z3 := hb3.size
  have q3 := row_below q2 hb3 q2.lt
  have hB3 := hB2.trans (hb3.mono hs2)
  have hs3 := hB3.size
  clear c0 c1 k1
  obtain ⟨W1, hW1⟩ : ∃ W1, w3.alloc (.cells #[.int .i64 n, .slice (some ⟨p, 0, none⟩) (n * n) (n * n)] 54) = W1 := ⟨_, rfl⟩
  obtain ⟨r8, hB4, hs4⟩ := sq_cells w3 _ _ hW1
  have ltp := hr3.lt
  have q4 := row_below q3 hB4 q3.lt
  have p4 := row_below hr3 hB4 hr3.lt
  have hBW := hB3.trans (hB4.mono hs3)
  have c0 := q4.cell (i := 0) rfl
  go_wp2_with fail
  clear c0 hW1
  generalize w3.heap.size = B at *
  have hsz := hBW.size
  go_loopw [29] (fun i wr => ∃ k : Nat, k ≤ n ∧ i = .int .i64 k ∧ Below W1.heap.size W1 wr ∧ ∀ a, a < k → mat n F a a = 1 ∨ mat n F a a = -1) (fun i _ => n - (intOf i).toNat)
  case atStart => exact ⟨0, Nat.zero_le _, rfl, Below.refl _ _, fun a ha => absurd ha (Nat.not_lt_zero _)⟩
  case round =>
    obtain ⟨k, hk, rfl, hB, hK⟩ := hrel
    have s8 := row_below r8 hB r8.lt
    have s4 := row_below p4 hB p4.lt
    have hBz := hB.size
    by_cases hlt : k < n
    · have hpl := plc_lt hlt hlt
      have d0 := s8.cell (i := 0) rfl
      have d1 := s8.cell (i := 1) rfl
      have e1 := pm_toInt (x := bd F (k * n + k))
      go_wp2_with fail
      refine (hrow p k hl hlt _).mono ?_
      rintro e w5 ⟨rfl, hb5⟩
      have kf := (s4.keep hb5).cell (bvals_at (i := k * n + k) (by omega))
      have hB5 := hB.trans (hb5.mono hBz)
      clear d0 d1 s4 s8
      by_cases h1 : bd F (k * n + k) = 1
      · have g1 : ((bd F (k * n + k)).toInt != 1) = false := by rw [h1]; rfl
        have HK := hide hK
        have H1 := hide (show mat n F k k = 1 from h1)
        clear hK h1 e1
        generalize (bd F (k * n + k)).toInt = x at *
        go_wp2_with fail
        go_roundw
        case rel => exact ⟨k + 1, by omega, by go_num, hB5, fun a ha => by
          by_cases e : a = k
          · subst e; exact .inl H1.out
          · exact HK.out a (by omega)⟩
        case measure => simp [intOf]; omega
      · by_cases h2' : bd F (k * n + k) = -1
        · have g1 : ((bd F (k * n + k)).toInt != 1) = true := by rw [h2']; rfl
          have g2 : ((bd F (k * n + k)).toInt != -1) = false := by rw [h2']; rfl
          have HK := hide hK
          have H1 := hide (show mat n F k k = -1 from h2')
          clear hK h1 h2' e1
          generalize (bd F (k * n + k)).toInt = x at *
          go_wp2_with fail
          go_roundw
          case rel => exact ⟨k + 1, by omega, by go_num, hB5, fun a ha => by
            by_cases e : a = k
            · subst e; exact .inr H1.out
            · exact HK.out a (by omega)⟩
          case measure => simp [intOf]; omega
        · have g1 : ((bd F (k * n + k)).toInt != 1) = true := by rw [bne_iff_ne]; exact fun h => h1 (e1.1.1 h)
          have g2 : ((bd F (k * n + k)).toInt != -1) = true := by rw [bne_iff_ne]; exact fun h => h2' (e1.2.1 h)
          clear hK h1 h2' e1
          generalize (bd F (k * n + k)).toInt = x at *
          go_wp2_with fail
          go_ret2
          exact ⟨rfl, hBW.trans (hB5.mono hsz)⟩
    · obtain rfl : k = n := by omega
      exact absurd hK hno

set_option maxRecDepth 100000 in
set_option maxHeartbeats 4000000 in
theorem Inverse_ok (n : Nat) (a : Option Addr) (cap : Nat) (us : List Nat) (af : Option Addr) (cf : Nat) (F : List B64) (n₀ : Nat) (hn : n = us.length) (hf : Fit us) (w : World) (hT : TabAt w) (hw : IsWords n₀ w a us) (hvF : ZInts n₀ w af (tiL F)) (hg : 0 < n₀) (hn₀ : n₀ ≤ w.heap.size) (hc : codeOf n us = 0) (hF : IsTab us F) (hpm : PM n (mat n F)) :
    Calls Tryd.prog 23 #[.agg #[.int .i64 n, .slice a n cap], .slice af (n * n) cf] w fun e w' => ∃ p, e = .returned (.tuple #[.slice (some ⟨p, 0, none⟩) (n * n) (n * n), .int .i64 0]) ∧ w.heap.size ≤ p ∧ Below w.heap.size w w' ∧ Row w' p 2 (bvals (tabL n (invG (mat n F) (sortL us)))) := by
  have hl : n ≤ 16 := by have := (code_zero hc).2.1; omega
  obtain ⟨r0, hb0, hs0⟩ := one_row w 24 (.int .i64 n) (.slice a n cap) rfl
  have hck := sorted_ans n a cap us hn hf hc _ (hT.below hb0 (by omega)) ((hw.below (hb0.mono hn₀)).mono (by omega)) (by omega)
  have t1 := fun (W : World) (hb : Below w.heap.size w W) => isTable_any n a cap us af cf F n₀ hn hf hl W (hw.below (hb.mono hn₀)) (hvF.below (hb.mono hn₀)) (by have := hb.size; omega)
  have hlF : F.length = n * n := by rw [hF.1, hn]
  have h2 : n * n ≤ 256 := Nat.mul_le_mul hl hl
  rw [tabB_true.2 hF, hlF] at t1
  have k1 := fun W hw => copied_any n hl af cf W.heap.size F hlF W hw (Nat.le_refl _)
  have hrow := row_any n
  unfold sqV at k1 hrow
  have ho : IsOrd us := (code_zero hc).2.2.2.2
  have hL := sortL_line ho
  have hlen : (sortL us).length = n := by rw [hL.len, hn]
  have hinv := fun p av cv hcap W h1 h2 => inverse_any n p hl F hlF av cv (sortL us) hlen hcap (fun x hx => by rw [hn]; exact (hL.mem x).1 hx) hL.nodup W.heap.size W h1 h2 (Nat.le_refl _)
  unfold sqV at hinv
  have Hb := hide hb0
  have HPM := hide hpm
  clear hb0 hc hn hF hL ho hpm
  go_enter Tryd.func23, Tryd.ntmps23
  go_wp2_with fail
  refine hck.mono ?_
  rintro e w1 ⟨la, lc, rfl, hb1, hcap, hil⟩
  have q0 := row_below r0 hb1 r0.lt
  have c0 := q0.cell (i := 0) rfl
  have c1 := q0.cell (i := 1) rfl
  have hB1 := Hb.out.trans (hb1.mono (by simp))
  have hs1 := hB1.size
  clear hck
  go_wp2_with fail
  refine (t1 _ hB1).mono ?_
  rintro e w2 ⟨rfl, hb2⟩
  clear c0 c1
  have q2 := row_below q0 hb2 q0.lt
  have c0 := q2.cell (i := 0) rfl
  have c1 := q2.cell (i := 1) rfl
  have hB2 := hB1.trans (hb2.mono hs1)
  have hs2 := hB2.size
  clear t1
  go_wp2_with fail
  refine (k1 _ ((hvF.below (hB2.mono hn₀)).mono (by omega))).mono ?_
  rintro e w3 ⟨p, rfl, hp, hb3, hr3⟩
  have z2 := hb2.size
  have z3 := hb3.size
  have q3 := row_below q2 hb3 q2.lt
  have hB3 := hB2.trans (hb3.mono hs2)
  have hs3 := hB3.size
  clear c0 c1 k1
  obtain ⟨W1, hW1⟩ : ∃ W1, w3.alloc (.cells #[.int .i64 n, .slice (some ⟨p, 0, none⟩) (n * n) (n * n)] 54) = W1 := ⟨_, rfl⟩
  obtain ⟨r8, hB4, hs4⟩ := sq_cells w3 _ _ hW1
  have ltp := hr3.lt
  have q4 := row_below q3 hB4 q3.lt
  have p4 := row_below hr3 hB4 hr3.lt
  have hBW := hB3.trans (hB4.mono hs3)
  have c0 := q4.cell (i := 0) rfl
  go_wp2_with fail
  clear c0 hW1
  generalize w3.heap.size = B at *
  have hsz := hBW.size
  go_loopw [29] (fun i wr => ∃ k : Nat, k ≤ n ∧ i = .int .i64 k ∧ Below W1.heap.size W1 wr ∧ ∀ a, a < k → mat n F a a = 1 ∨ mat n F a a = -1) (fun i _ => n - (intOf i).toNat)
  case atStart => exact ⟨0, Nat.zero_le _, rfl, Below.refl _ _, fun a ha => absurd ha (Nat.not_lt_zero _)⟩
  case round =>
    obtain ⟨k, hk, rfl, hB, hK⟩ := hrel
    have s8 := row_below r8 hB r8.lt
    have s4 := row_below p4 hB p4.lt
    have hBz := hB.size
    by_cases hlt : k < n
    · have hpl := plc_lt hlt hlt
      have d0 := s8.cell (i := 0) rfl
      have d1 := s8.cell (i := 1) rfl
      have e1 := pm_toInt (x := bd F (k * n + k))
      go_wp2_with fail
      refine (hrow p k hl hlt _).mono ?_
      rintro e w5 ⟨rfl, hb5⟩
      have kf := (s4.keep hb5).cell (bvals_at (i := k * n + k) (by omega))
      have hB5 := hB.trans (hb5.mono hBz)
      clear d0 d1 s4 s8
      by_cases h1 : bd F (k * n + k) = 1
      · have g1 : ((bd F (k * n + k)).toInt != 1) = false := by rw [h1]; rfl
        have HK := hide hK
        have H1 := hide (show mat n F k k = 1 from h1)
        clear hK h1 e1
        generalize (bd F (k * n + k)).toInt = x at *
        go_wp2_with fail
        go_roundw
        case rel => exact ⟨k + 1, by omega, by go_num, hB5, fun a ha => by
          by_cases e : a = k
          · subst e; exact .inl H1.out
          · exact HK.out a (by omega)⟩
        case measure => simp [intOf]; omega
      · by_cases h2' : bd F (k * n + k) = -1
        · have g1 : ((bd F (k * n + k)).toInt != 1) = true := by rw [h2']; rfl
          have g2 : ((bd F (k * n + k)).toInt != -1) = false := by rw [h2']; rfl
          have HK := hide hK
          have H1 := hide (show mat n F k k = -1 from h2')
          clear hK h1 h2' e1
          generalize (bd F (k * n + k)).toInt = x at *
          go_wp2_with fail
          go_roundw
          case rel => exact ⟨k + 1, by omega, by go_num, hB5, fun a ha => by
            by_cases e : a = k
            · subst e; exact .inr H1.out
            · exact HK.out a (by omega)⟩
          case measure => simp [intOf]; omega
        · have g1 : ((bd F (k * n + k)).toInt != 1) = true := by rw [bne_iff_ne]; exact fun h => h1 (e1.1.1 h)
          have g2 : ((bd F (k * n + k)).toInt != -1) = true := by rw [bne_iff_ne]; exact fun h => h2' (e1.2.1 h)
          exact absurd (HPM.out k hlt) (fun h => h.elim h1 h2')
    · obtain rfl : k = n := by omega
      have d0 := s8.cell (i := 0) rfl
      have d1 := s8.cell (i := 1) rfl
      have hil4 := (IsInts.below (IsInts.below (IsInts.below (IsInts.below hil hb2) (hb3.mono hb2.size)) (hB4.mono (by omega))) (hB.mono (by omega))).up (show w1.heap.size ≤ wr.heap.size by have := hb2.size; omega)
      clear hK hrow
      go_wp2_with fail
      refine (hinv _ _ _ hcap _ s4 hil4).mono ?_
      rintro e w6 ⟨g, rfl, hg6, hb6, hr6⟩
      have hfr := run_field_at k (some ⟨g, 0, none⟩) (k * k) (k * k)
      go_wp2
      go_ret2
      exact ⟨g, rfl, by omega, (hBW.trans (hB.mono hsz)).trans (hb6.mono (by omega)), hr6⟩
end Go.Proofs.YtilffmalkegioaaDoor

namespace Go.Proofs.YtilffmalkegioaaDoor
open Go.RowKit Go.Shelf

/-- the list of the inverse -/
def invL (us : List Nat) (n : Nat) (F : List B64) : List B64 := tabL n (invG (mat n F) (sortL us))
theorem invL_len (us : List Nat) (n : Nat) (F : List B64) : (invL us n F).length = n * n := tabL_len _ _
theorem invL_mat (us : List Nat) (n : Nat) (F : List B64) : EqN n (mat n (invL us n F)) (invG (mat n F) (sortL us)) := mat_tabL _
theorem tabL_tab {us : List Nat} {f : Mat} (h : Tab us f) : IsTab us (tabL us.length f) :=
  ⟨tabL_len _ _, fun a ha b hb hno => by rw [mat_tabL f a ha b hb]; exact h a ha b hb hno⟩
theorem one_tab {us : List Nat} (ho : IsOrd us) : Tab us one := fun a ha b _ h => one_ne fun e => h (by subst e; exact leW_refl ho ha)
section
variable {us : List Nat} {F : List B64} (ho : IsOrd us) (hF : IsTab us F) (hpm : PM us.length (mat us.length F))
include ho hF hpm
omit hpm in
theorem invL_tab : IsTab us (invL us us.length F) := tabL_tab (inv_tab ho (sortL_line ho) hF.2)
theorem invL_pm : PM us.length (mat us.length (invL us us.length F)) := fun a ha => by
  rw [invL_mat us us.length F a ha a ha, inv_diag ho (sortL_line ho) hF.2 ha]; exact hpm a ha
theorem invL_inv : invL us us.length (invL us us.length F) = F := by
  have h1 : EqN us.length (invG (mat us.length (invL us us.length F)) (sortL us)) (mat us.length F) :=
    (invG_congr (invL_mat us us.length F) fun x hx => ((sortL_line ho).mem x).1 hx).trans (inv_inv ho (sortL_line ho) hF.2 hpm.unit)
  have h2 : invL us us.length (invL us us.length F) = tabL us.length (mat us.length F) := tabL_congr h1
  rw [h2, tabL_mat hF.1]
theorem invL_right : tabL us.length (mm us.length (mat us.length F) (mat us.length (invL us us.length F))) = tabL us.length one :=
  tabL_congr ((mm_congr (EqN.refl _ _) (invL_mat us us.length F)).trans (inv_right (sortL_line ho) hF.2 hpm.unit))
theorem invL_left : tabL us.length (mm us.length (mat us.length (invL us us.length F)) (mat us.length F)) = tabL us.length one :=
  tabL_congr ((mm_congr (invL_mat us us.length F) (EqN.refl _ _)).trans (inv_left ho (sortL_line ho) hF.2 hpm.unit))
end
end Go.Proofs.YtilffmalkegioaaDoor
