/- Package mobius: Mu, Inverse, Sums, Undo. -/
import Derived.Test.YtekpielpfegclabDoorMobPub
import Derived.Test.YtekpielpfegclabDoorMobInv
import Derived.Test.YtekpielpfegclabDoorSortedTop
namespace Go.Proofs.YtekpielpfegclabDoor
open Go.RowKit Go.Shelf

theorem invG_congr {n : Nat} {s s' : Mat} (h : EqN n s s') : ∀ {l : List Nat}, (∀ x ∈ l, x < n) → EqN n (invG s l) (invG s' l)
  | [], _ => EqN.refl _ _
  | c :: l, hl => fun r hr b hb => by
    have hc := hl c (by simp)
    have ih := invG_congr h (l := l) fun x hx => hl x (by simp [hx])
    have e1 : sl l (fun x => -(s c x) * invG s l x b) = sl l (fun x => -(s' c x) * invG s' l x b) := sl_congr fun x hx => by
      have hx' := hl x (by simp [hx])
      rw [h c hc x hx', ih x hx' b hb]
    simp only [invG]
    rw [e1, h c hc c hc, ih r hr b hb]
theorem IsInts.up {n₀ n₁ : Nat} (hn : n₀ ≤ n₁) {W : World} {a : Option Addr} {l : List Nat} (h : IsInts n₀ W a l) : IsInts n₁ W a l := by
  rcases h with h | ⟨b, off, h1, h2, h3⟩
  · exact .inl h
  · exact .inr ⟨b, off, h1, by omega, h3⟩
theorem sortL_line {us : List Nat} (ho : IsOrd us) : Line us (sortL us) := line_ord ho
theorem mu_tab {us : List Nat} (ho : IsOrd us) : tabL us.length (invG (mat us.length (tabL us.length (zet us))) (sortL us)) = tabL us.length (muM us) :=
  tabL_congr (invG_congr (mat_tabL _) fun x hx => ((sortL_line ho).mem x).1 hx)
theorem ownsRow_cap {W : World} {base : Nat} {t : TypeId} {av : Option Addr} {cv k : Nat} {xs : List Value} (h : W.ownsRow base t 1 (.slice av k cv) k xs) : k ≤ cv := by
  rcases h.2 with ⟨h1, h2⟩ | ⟨g, cap, cur, h1, h2, h3, h4, h5, h6, h7⟩
  · omega
  · cases h1; omega

set_option maxRecDepth 100000 in
set_option maxHeartbeats 1000000 in
theorem Mu_bad (n : Int) (a : Option Addr) (cap : Nat) (us : List Nat) (n₀ : Nat) (hf : Fit us) (w : World) (hT : TabAt w) (hw : IsWords n₀ w a us) (hg : 0 < n₀) (hn₀ : n₀ ≤ w.heap.size) (hc : codeOf n us ≠ 0) :
    Calls Tryd.prog 16 #[.agg #[.int .i64 n, .slice a us.length cap]] w fun e w' => e = mobErr (codeOf n us) ∧ Below w.heap.size w w' := by
  obtain ⟨r0, hb0, hs0⟩ := one_row w 24 (.int .i64 n) (.slice a us.length cap) rfl
  have hck := Sorted_bad n a cap us n₀ hf _ (hT.below hb0 (by omega)) (hw.below (hb0.mono hn₀)) hg (by omega) hc
  unfold mobErr
  generalize codeOf n us = c at *
  have hne : (c != 0) = true := by rw [bne_iff_ne]; exact hc
  have Hb := hide hb0
  clear hb0 hc hs0
  go_enter Tryd.func16, Tryd.ntmps16
  go_wp2_with (go_at_call 23; refine hck.mono ?_; rintro e w1 ⟨rfl, hb1⟩)
  go_ret2
  exact ⟨rfl, Hb.out.trans (hb1.mono (by simp))⟩

/-- what Sorted answers -/
def SortAns (n : Nat) (us : List Nat) (w : World) (e : Ending) (w' : World) : Prop := ∃ av cv, e = .returned (.tuple #[.slice av n cv, .int .i64 0]) ∧ Below w.heap.size w w' ∧ n ≤ cv ∧ IsInts w'.heap.size w' av (sortL us)
theorem sorted_ans (n : Nat) (a : Option Addr) (cap : Nat) (us : List Nat) (hn : n = us.length) (hf : Fit us) (hc : codeOf n us = 0) (w : World) (hT : TabAt w) (hw : IsWords w.heap.size w a us) (hg : 0 < w.heap.size) :
    Calls Tryd.prog 23 #[.agg #[.int .i64 n, .slice a n cap]] w (SortAns n us w) := by
  subst hn
  refine (Sorted_ok us.length a cap us w.heap.size hf w hT hw hg (Nat.le_refl _) hc).mono ?_
  rintro e w' ⟨av, cv, rfl, hb, hown⟩
  exact ⟨av, cv, rfl, hb, ownsRow_cap hown, ownsRow_ints hown⟩

set_option maxRecDepth 100000 in
set_option maxHeartbeats 1000000 in
theorem Mu_ok (n : Nat) (a : Option Addr) (cap : Nat) (us : List Nat) (n₀ : Nat) (hn : n = us.length) (hf : Fit us) (w : World) (hT : TabAt w) (hw : IsWords n₀ w a us) (hg : 0 < n₀) (hn₀ : n₀ ≤ w.heap.size) (hc : codeOf n us = 0) :
    Calls Tryd.prog 16 #[.agg #[.int .i64 n, .slice a n cap]] w fun e w' => ∃ p, e = .returned (.tuple #[.slice (some ⟨p, 0, none⟩) (n * n) (n * n), .int .i64 0]) ∧ w.heap.size ≤ p ∧ Below w.heap.size w w' ∧ Row w' p 2 (bvals (tabL n (muM us))) := by
  have hl : n ≤ 16 := by have := (code_zero hc).2.1; omega
  have ho : IsOrd us := (code_zero hc).2.2.2.2
  have hL := sortL_line ho
  have hlen : (sortL us).length = n := by rw [hL.len, hn]
  obtain ⟨r0, hb0, hs0⟩ := one_row w 24 (.int .i64 n) (.slice a n cap) rfl
  have hck := sorted_ans n a cap us hn hf hc _ (hT.below hb0 (by omega)) ((hw.below (hb0.mono hn₀)).mono (by omega)) (by omega)
  have hz := fun (W : World) (hW : IsWords n₀ W a us) (hs : n₀ ≤ W.heap.size) => zetaN n a cap us n₀ hn hf hl W hW hs
  have hinv := fun p av cv hcap W h1 h2 => inverse_any n p hl (tabL n (zet us)) (tabL_len _ _) av cv (sortL us) hlen hcap (fun x hx => by rw [hn]; exact (hL.mem x).1 hx) hL.nodup W.heap.size W h1 h2 (Nat.le_refl _)
  have hmu : tabL n (invG (mat n (tabL n (zet us))) (sortL us)) = tabL n (muM us) := by subst hn; exact mu_tab ho
  rw [hmu] at hinv
  unfold sqV at hz hinv
  have hw0 := hw.below (hb0.mono hn₀)
  have Hb := hide hb0
  clear hb0 hn hc hL ho
  go_enter Tryd.func16, Tryd.ntmps16
  go_wp2_with fail
  refine hck.mono ?_
  rintro e w1 ⟨av, cv, rfl, hb1, hcap, hil⟩
  have q0 := row_below r0 hb1 r0.lt
  have c0 := q0.cell (i := 0) rfl
  have c1 := q0.cell (i := 1) rfl
  have hB1 := Hb.out.trans (hb1.mono (by simp))
  have hs1 := hB1.size
  clear hck
  go_wp2_with fail
  refine (hz _ (hw.below (hB1.mono hn₀)) (by omega)).mono ?_
  rintro e w2 ⟨p, rfl, hp, hb2, hr⟩
  have hB2 := hB1.trans (hb2.mono hs1)
  have hs2 := hB2.size
  clear hz
  go_wp2_with fail
  refine (hinv _ _ _ hcap _ hr ((IsInts.below hil hb2).up hb2.size)).mono ?_
  rintro e w3 ⟨g, rfl, hg3, hb3, hr3⟩
  have hfr := run_field_at n (some ⟨g, 0, none⟩) (n * n) (n * n)
  go_wp2
  go_ret2
  exact ⟨g, rfl, by omega, hB2.trans (hb3.mono hs2), hr3⟩

set_option maxRecDepth 100000 in
set_option maxHeartbeats 1000000 in
theorem Sums_bad (n : Int) (a : Option Addr) (cap : Nat) (us : List Nat) (v1 : Value) (n₀ : Nat) (hf : Fit us) (w : World) (hT : TabAt w) (hw : IsWords n₀ w a us) (hg : 0 < n₀) (hn₀ : n₀ ≤ w.heap.size) (hc : codeOf n us ≠ 0) :
    Calls Tryd.prog 14 #[.agg #[.int .i64 n, .slice a us.length cap], v1] w fun e w' => e = mobErr (codeOf n us) ∧ Below w.heap.size w w' := by
  obtain ⟨r0, hb0, hs0⟩ := one_row w 24 (.int .i64 n) (.slice a us.length cap) rfl
  have hck := Check_any n a cap us n₀ hf _ (hT.below hb0 (by omega)) (hw.below (hb0.mono hn₀)) hg (by omega)
  unfold mobErr
  generalize codeOf n us = c at *
  have hne : (c != 0) = true := by rw [bne_iff_ne]; exact hc
  have Hb := hide hb0
  clear hb0 hc hs0
  go_enter Tryd.func14, Tryd.ntmps14
  go_wp2_with (go_at_call 22; refine hck.mono ?_; rintro e w1 ⟨rfl, hb1⟩)
  go_ret2
  exact ⟨rfl, Hb.out.trans (hb1.mono (by simp))⟩
set_option maxRecDepth 100000 in
set_option maxHeartbeats 1000000 in
theorem Undo_bad (n : Int) (a : Option Addr) (cap : Nat) (us : List Nat) (v1 : Value) (n₀ : Nat) (hf : Fit us) (w : World) (hT : TabAt w) (hw : IsWords n₀ w a us) (hg : 0 < n₀) (hn₀ : n₀ ≤ w.heap.size) (hc : codeOf n us ≠ 0) :
    Calls Tryd.prog 15 #[.agg #[.int .i64 n, .slice a us.length cap], v1] w fun e w' => e = mobErr (codeOf n us) ∧ Below w.heap.size w w' := by
  obtain ⟨r0, hb0, hs0⟩ := one_row w 24 (.int .i64 n) (.slice a us.length cap) rfl
  have hck := Sorted_bad n a cap us n₀ hf _ (hT.below hb0 (by omega)) (hw.below (hb0.mono hn₀)) hg (by omega) hc
  unfold mobErr
  generalize codeOf n us = c at *
  have hne : (c != 0) = true := by rw [bne_iff_ne]; exact hc
  have Hb := hide hb0
  clear hb0 hc hs0
  go_enter Tryd.func15, Tryd.ntmps15
  go_wp2_with (go_at_call 23; refine hck.mono ?_; rintro e w1 ⟨rfl, hb1⟩)
  go_ret2
  exact ⟨rfl, Hb.out.trans (hb1.mono (by simp))⟩
set_option maxRecDepth 100000 in
set_option maxHeartbeats 1000000 in
theorem Sums_len (n : Nat) (a : Option Addr) (cap : Nat) (us : List Nat) (av : Option Addr) (cv m : Nat) (n₀ : Nat) (hn : n = us.length) (hf : Fit us) (w : World) (hT : TabAt w) (hw : IsWords n₀ w a us) (hg : 0 < n₀) (hn₀ : n₀ ≤ w.heap.size) (hc : codeOf n us = 0) (hm : m ≠ n) :
    Calls Tryd.prog 14 #[.agg #[.int .i64 n, .slice a n cap], .slice av m cv] w fun e w' => e = mobErr 2 ∧ Below w.heap.size w w' := by
  obtain ⟨r0, hb0, hs0⟩ := one_row w 24 (.int .i64 n) (.slice a n cap) rfl
  have hck := Check_any n a cap us n₀ hf _ (hT.below hb0 (by omega)) (hw.below (hb0.mono hn₀)) hg (by omega)
  rw [hc, ← hn] at hck
  have hne : ((m : Int) != (n : Int)) = true := by rw [bne_iff_ne]; omega
  unfold mobErr
  have Hb := hide hb0
  clear hb0 hc hm hn
  go_enter Tryd.func14, Tryd.ntmps14
  go_wp2_with fail
  refine hck.mono ?_
  rintro e w1 ⟨rfl, hb1⟩
  have c0 := (row_below r0 hb1 r0.lt).cell (i := 0) rfl
  go_wp2
  go_ret2
  exact ⟨rfl, Hb.out.trans (hb1.mono (by simp))⟩
set_option maxRecDepth 100000 in
set_option maxHeartbeats 1000000 in
theorem Undo_len (n : Nat) (a : Option Addr) (cap : Nat) (us : List Nat) (av : Option Addr) (cv m : Nat) (n₀ : Nat) (hn : n = us.length) (hf : Fit us) (w : World) (hT : TabAt w) (hw : IsWords n₀ w a us) (hg : 0 < n₀) (hn₀ : n₀ ≤ w.heap.size) (hc : codeOf n us = 0) (hm : m ≠ n) :
    Calls Tryd.prog 15 #[.agg #[.int .i64 n, .slice a n cap], .slice av m cv] w fun e w' => e = mobErr 2 ∧ Below w.heap.size w w' := by
  obtain ⟨r0, hb0, hs0⟩ := one_row w 24 (.int .i64 n) (.slice a n cap) rfl
  have hck := sorted_ans n a cap us hn hf hc _ (hT.below hb0 (by omega)) ((hw.below (hb0.mono hn₀)).mono (by omega)) (by omega)
  have hne : ((m : Int) != (n : Int)) = true := by rw [bne_iff_ne]; omega
  unfold mobErr
  have Hb := hide hb0
  clear hb0 hc hm hn
  go_enter Tryd.func15, Tryd.ntmps15
  go_wp2_with fail
  refine hck.mono ?_
  rintro e w1 ⟨la, lc, rfl, hb1, hcap, hil⟩
  have c0 := (row_below r0 hb1 r0.lt).cell (i := 0) rfl
  go_wp2
  go_ret2
  exact ⟨rfl, Hb.out.trans (hb1.mono (by simp))⟩

set_option maxRecDepth 100000 in
set_option maxHeartbeats 1000000 in
theorem Sums_ok (n : Nat) (a : Option Addr) (cap : Nat) (us : List Nat) (av : Option Addr) (cv : Nat) (v : Nat → B64) (n₀ : Nat) (hn : n = us.length) (hf : Fit us) (w : World) (hT : TabAt w) (hw : IsWords n₀ w a us) (hv : VecAt w av n v) (hg : 0 < n₀) (hn₀ : n₀ ≤ w.heap.size) (hc : codeOf n us = 0) :
    Calls Tryd.prog 14 #[.agg #[.int .i64 n, .slice a n cap], .slice av n cv] w fun e w' => ∃ q, e = .returned (.tuple #[.slice (some ⟨q, 0, none⟩) n n, .int .i64 0]) ∧ w.heap.size ≤ q ∧ Below w.heap.size w w' ∧ Row w' q 2 (bvals (vecL n (vm n v (zet us)))) := by
  have hl : n ≤ 16 := by have := (code_zero hc).2.1; omega
  obtain ⟨r0, hb0, hs0⟩ := one_row w 24 (.int .i64 n) (.slice a n cap) rfl
  have hck := Check_any n a cap us n₀ hf _ (hT.below hb0 (by omega)) (hw.below (hb0.mono hn₀)) hg (by omega)
  rw [hc, ← hn] at hck
  have hz := fun (W : World) (hW : IsWords n₀ W a us) (hs : n₀ ≤ W.heap.size) => zetaN n a cap us n₀ hn hf hl W hW hs
  have hsum := fun p W h1 h2 => sum_any n p hl (tabL n (zet us)) (tabL_len _ _) av cv v W h1 h2
  have hvm : vecL n (vm n v (mat n (tabL n (zet us)))) = vecL n (vm n v (zet us)) := vecL_is (by rw [vecL_len]) fun i hi => by rw [bd_vecL _ hi]; exact vm_congr (fun _ _ => rfl) (mat_tabL _) hi
  rw [hvm] at hsum
  unfold sqV at hz hsum
  have hne : ((n : Int) != (n : Int)) = false := by simp
  have Hb := hide hb0
  clear hb0 hn hc hvm
  go_enter Tryd.func14, Tryd.ntmps14
  go_wp2_with fail
  refine hck.mono ?_
  rintro e w1 ⟨rfl, hb1⟩
  have q0 := row_below r0 hb1 r0.lt
  have c0 := q0.cell (i := 0) rfl
  have c1 := q0.cell (i := 1) rfl
  have hB1 := Hb.out.trans (hb1.mono (by simp))
  have hs1 := hB1.size
  go_wp2_with fail
  refine (hz _ (hw.below (hB1.mono hn₀)) (by omega)).mono ?_
  rintro e w2 ⟨p, rfl, hp, hb2, hr⟩
  have hB2 := hB1.trans (hb2.mono hs1)
  have hs2 := hB2.size
  go_wp2_with fail
  refine (hsum _ _ hr (hv.below hB2)).mono ?_
  rintro e w3 ⟨q, rfl, hq, hb3, hr3⟩
  go_wp2
  go_ret2
  exact ⟨q, rfl, by omega, hB2.trans (hb3.mono hs2), hr3⟩

set_option maxRecDepth 100000 in
set_option maxHeartbeats 1000000 in
theorem Undo_ok (n : Nat) (a : Option Addr) (cap : Nat) (us : List Nat) (av : Option Addr) (cv : Nat) (v : Nat → B64) (n₀ : Nat) (hn : n = us.length) (hf : Fit us) (w : World) (hT : TabAt w) (hw : IsWords n₀ w a us) (hv : VecAt w av n v) (hg : 0 < n₀) (hn₀ : n₀ ≤ w.heap.size) (hc : codeOf n us = 0) :
    Calls Tryd.prog 15 #[.agg #[.int .i64 n, .slice a n cap], .slice av n cv] w fun e w' => ∃ q, e = .returned (.tuple #[.slice (some ⟨q, 0, none⟩) n n, .int .i64 0]) ∧ w.heap.size ≤ q ∧ Below w.heap.size w w' ∧ Row w' q 2 (bvals (vecL n (vm n v (muM us)))) := by
  have hl : n ≤ 16 := by have := (code_zero hc).2.1; omega
  have ho : IsOrd us := (code_zero hc).2.2.2.2
  have hL := sortL_line ho
  have hlen : (sortL us).length = n := by rw [hL.len, hn]
  obtain ⟨r0, hb0, hs0⟩ := one_row w 24 (.int .i64 n) (.slice a n cap) rfl
  have hck := sorted_ans n a cap us hn hf hc _ (hT.below hb0 (by omega)) ((hw.below (hb0.mono hn₀)).mono (by omega)) (by omega)
  have hz := fun (W : World) (hW : IsWords n₀ W a us) (hs : n₀ ≤ W.heap.size) => zetaN n a cap us n₀ hn hf hl W hW hs
  have hinv := fun p av cv hcap W h1 h2 => inverse_any n p hl (tabL n (zet us)) (tabL_len _ _) av cv (sortL us) hlen hcap (fun x hx => by rw [hn]; exact (hL.mem x).1 hx) hL.nodup W.heap.size W h1 h2 (Nat.le_refl _)
  have hmu : tabL n (invG (mat n (tabL n (zet us))) (sortL us)) = tabL n (muM us) := by subst hn; exact mu_tab ho
  rw [hmu] at hinv
  have hsum := fun p W h1 h2 => sum_any n p hl (tabL n (muM us)) (tabL_len _ _) av cv v W h1 h2
  have hvm : vecL n (vm n v (mat n (tabL n (muM us)))) = vecL n (vm n v (muM us)) := vecL_is (by rw [vecL_len]) fun i hi => by rw [bd_vecL _ hi]; exact vm_congr (fun _ _ => rfl) (mat_tabL _) hi
  rw [hvm] at hsum
  unfold sqV at hz hinv hsum
  have hne : ((n : Int) != (n : Int)) = false := by simp
  have Hb := hide hb0
  clear hb0 hn hc hL ho hvm hmu
  go_enter Tryd.func15, Tryd.ntmps15
  go_wp2_with fail
  refine hck.mono ?_
  rintro e w1 ⟨la, lc, rfl, hb1, hcap, hil⟩
  have q0 := row_below r0 hb1 r0.lt
  have c0 := q0.cell (i := 0) rfl
  have c1 := q0.cell (i := 1) rfl
  have hB1 := Hb.out.trans (hb1.mono (by simp))
  have hs1 := hB1.size
  clear hck
  go_wp2_with fail
  refine (hz _ (hw.below (hB1.mono hn₀)) (by omega)).mono ?_
  rintro e w2 ⟨p, rfl, hp, hb2, hr⟩
  have hB2 := hB1.trans (hb2.mono hs1)
  have hs2 := hB2.size
  clear hz
  go_wp2_with fail
  refine (hinv _ _ _ hcap _ hr ((IsInts.below hil hb2).up hb2.size)).mono ?_
  rintro e w3 ⟨g, rfl, hg3, hb3, hr3⟩
  have hB3 := hB2.trans (hb3.mono hs2)
  have hs3 := hB3.size
  clear hinv
  go_wp2_with fail
  refine (hsum _ _ hr3 (hv.below hB3)).mono ?_
  rintro e w4 ⟨q, rfl, hq, hb4, hr4⟩
  go_wp2
  go_ret2
  exact ⟨q, rfl, by omega, hB3.trans (hb4.mono hs3), hr4⟩
end Go.Proofs.YtekpielpfegclabDoor
