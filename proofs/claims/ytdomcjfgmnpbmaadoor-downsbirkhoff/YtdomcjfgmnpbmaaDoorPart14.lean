/- The contracts of the program's Count and All. Plain: each word without its own element. -/
import Derived.Test.YtdomcjfgmnpbmaaDoorPart13
import Derived.Test.YtdomcjfgmnpbmaaDoorPart5
namespace Go.Proofs.YtdomcjfgmnpbmaaDoor
open Go.RowKit Go.Shelf

theorem keeps_count {w : World} {Bt lim : Nat} (bN : Boxed w Bt 3 (.int .i64 0)) : Keeps 32 Bt lim w (InvC Bt) where
  start := fun _ h0 => ⟨KeepX.refl _ _, (h0.block _ bN.lt).trans bN⟩
  keep := fun _ _ _ h => h.1
  drew := fun _ _ _ h => h.drew
  tell := fun w₀ p s W _ _ hp hI => tellC_any Bt w₀ lim p s W hp hI
theorem keeps_all {w : World} {Bt : Nat} (bN : Boxed w Bt 22 (.slice none 0 0)) : Keeps 31 Bt 256 w (InvA Bt) where
  start := fun _ h0 => ⟨KeepX.refl _ _, by simp, _, (h0.block _ bN.lt).trans bN, by rw [wvals]; exact World.ownsRow_nil _ _ _ _⟩
  keep := fun _ _ _ h => h.1
  drew := fun _ _ _ h => h.drew
  tell := fun w₀ p s W h0 _ _ hI => tellA_any Bt w₀ (by have := bN.lt; have := h0.size; omega) p s W hI

theorem row_box (w : World) (t1 t2 : TypeId) (p0 p1 v u : Value) {W : World} (h : ((w.alloc (.cells #[p0, p1] t1)).alloc (.cells #[v] t2)).setCell ⟨w.heap.size + 1, 0, none⟩ u = W) :
    Row W w.heap.size t1 [p0, p1] ∧ Boxed W (w.heap.size + 1) t2 u ∧ Below w.heap.size w W ∧ W.heap.size = w.heap.size + 1 + 1 := by
  subst h
  have r0 : Row (w.alloc (.cells #[p0, p1] t1)) w.heap.size t1 [p0, p1] := Row.new w t1 [p0, p1]
  have b1 := Boxed.new (w.alloc (.cells #[p0, p1] t1)) t2 v
  simp only [World.size_alloc] at b1
  exact ⟨(r0.alloc _).other (by omega) _ _, b1.set _, (((Below.refl _ _).alloc (Nat.le_refl _) _).alloc (by simp) _).setCell (by simp) _, by simp⟩
theorem row_box' (w : World) (t1 t2 : TypeId) (p0 p1 v : Value) {W : World} (h : ((w.alloc (.cells #[p0, p1] t1)).alloc (.cells #[v] t2)) = W) :
    Row W w.heap.size t1 [p0, p1] ∧ Boxed W (w.heap.size + 1) t2 v ∧ Below w.heap.size w W ∧ W.heap.size = w.heap.size + 1 + 1 := by
  subst h
  have r0 : Row (w.alloc (.cells #[p0, p1] t1)) w.heap.size t1 [p0, p1] := Row.new w t1 [p0, p1]
  have b1 := Boxed.new (w.alloc (.cells #[p0, p1] t1)) t2 v
  simp only [World.size_alloc] at b1
  exact ⟨r0.alloc _, b1, ((Below.refl _ _).alloc (Nat.le_refl _) _).alloc (by simp) _, by simp⟩

set_option maxRecDepth 100000 in
set_option maxHeartbeats 1000000 in
theorem Count_ok (a : Option Addr) (cap : Nat) (us : List Nat) (n₀ : Nat) (w : World) (hR : Ready a us n₀ w) (hc : codeOf us.length us = 0) :
    Calls Tryd.prog 10 #[.agg #[.int .i64 us.length, .slice a us.length cap]] w fun e w' => ∃ ds, e = .returned (.tuple #[.int .i64 ((allD ds).length : Nat), .int .i64 0]) ∧ Tur us us.length [] ds ∧ Below w.heap.size w w' := by
  have hl16 : us.length ≤ 16 := by have := code_zero hc; omega
  obtain ⟨W1, hW1⟩ : ∃ W1, ((w.alloc (.cells #[.int .i64 us.length, .slice a us.length cap] 24)).alloc (.cells #[.int .i64 0] 3)).setCell ⟨w.heap.size + 1, 0, none⟩ (.int .i64 0) = W1 := ⟨_, rfl⟩
  obtain ⟨r0, bN, hb1, hs1⟩ := row_box w _ _ _ _ _ _ hW1
  have R1 := hR.step hb1
  have hea := each_ok 32 (.inr rfl) (w.heap.size + 1) a cap us 65536 n₀ W1 (InvC (w.heap.size + 1)) R1 (by omega) (by have := hR.le; omega) hc (keeps_count bN)
  have j0 := r0.cell (i := 0) rfl
  have j1 := r0.cell (i := 1) rfl
  have Hb := hide hb1
  clear hc hb1
  go_enter Tryd.func10, Tryd.ntmps10
  go_wp2_with (go_at_call 30; refine hea.mono ?_)
  rintro e w2 ⟨ds, w₀, hT, hb2, (⟨rfl, hh⟩ | ⟨rfl, hlt, _⟩)⟩
  · have cN := hh.2.cell
    have hk := hh.1.below (n := w.heap.size) (by have := hb2.size; omega) (fun k e => by subst e; omega)
    have HT := hide hT
    clear hT
    go_wp2
    go_ret2
    exact ⟨ds, rfl, HT.out, (Hb.out.trans (hb2.mono (by omega))).trans hk⟩
  · exfalso
    have := allD_len (ds := ds) (by rw [hT.len]; exact hl16)
    omega

set_option maxRecDepth 100000 in
set_option maxHeartbeats 1000000 in
theorem Count_bad (n : Int) (a : Option Addr) (cap : Nat) (us : List Nat) (n₀ : Nat) (w : World) (hR : Ready a us n₀ w) (hc : codeOf n us ≠ 0) :
    Calls Tryd.prog 10 #[.agg #[.int .i64 n, .slice a us.length cap]] w fun e w' => e = .returned (.tuple #[.int .i64 0, .int .i64 (codeOf n us)]) ∧ Below w.heap.size w w' := by
  obtain ⟨W1, hW1⟩ : ∃ W1, ((w.alloc (.cells #[.int .i64 n, .slice a us.length cap] 24)).alloc (.cells #[.int .i64 0] 3)).setCell ⟨w.heap.size + 1, 0, none⟩ (.int .i64 0) = W1 := ⟨_, rfl⟩
  obtain ⟨r0, bN, hb1, hs1⟩ := row_box w _ _ _ _ _ _ hW1
  have hea := each_bad (.func (.func 32) #[] #[.pointer (some ⟨w.heap.size + 1, 0, none⟩)]) n a cap us n₀ W1 (hR.step hb1) hc
  generalize codeOf n us = c at *
  have j0 := r0.cell (i := 0) rfl
  have j1 := r0.cell (i := 1) rfl
  have Hb := hide hb1
  clear hc hb1
  go_enter Tryd.func10, Tryd.ntmps10
  go_wp2_with (go_at_call 30; refine hea.mono ?_; rintro e w2 ⟨rfl, hb2⟩; have b2 : Boxed w2 (w.heap.size + 1) 3 (.int .i64 0) := (hb2.block _ bN.lt).trans bN; have cN := b2.cell)
  go_ret2
  exact ⟨rfl, Hb.out.trans (hb2.mono (by omega))⟩

/-- what All answers, where the order may be -/
def AllAns (us : List Nat) (w : World) (e : Ending) (w' : World) : Prop :=
  ∃ ds, Tur us us.length [] ds ∧ Below w.heap.size w w' ∧ ((256 < (allD ds).length ∧ e = .returned (.tuple #[.slice none 0 0, .int .i64 1])) ∨ ((allD ds).length ≤ 256 ∧ ∃ v, e = .returned (.tuple #[v, .int .i64 0]) ∧ w'.ownsRow w.heap.size 53 1 v (allD ds).length (wvals (allD ds))))

set_option maxRecDepth 100000 in
set_option maxHeartbeats 1000000 in
theorem All_ok (a : Option Addr) (cap : Nat) (us : List Nat) (n₀ : Nat) (w : World) (hR : Ready a us n₀ w) (hc : codeOf us.length us = 0) :
    Calls Tryd.prog 9 #[.agg #[.int .i64 us.length, .slice a us.length cap]] w (AllAns us w) := by
  obtain ⟨W1, hW1⟩ : ∃ W1, ((w.alloc (.cells #[.int .i64 us.length, .slice a us.length cap] 24)).alloc (.cells #[.slice none 0 0] 22)) = W1 := ⟨_, rfl⟩
  obtain ⟨r0, bN, hb1, hs1⟩ := row_box' w _ _ _ _ _ hW1
  have R1 := hR.step hb1
  have hea := each_ok 31 (.inl rfl) (w.heap.size + 1) a cap us 256 n₀ W1 (InvA (w.heap.size + 1)) R1 (by omega) (by have := hR.le; omega) hc (keeps_all bN)
  have j0 := r0.cell (i := 0) rfl
  have j1 := r0.cell (i := 1) rfl
  have Hb := hide hb1
  clear hc hb1
  go_enter Tryd.func9, Tryd.ntmps9
  go_wp2_with (go_at_call 30; refine hea.mono ?_)
  rintro e w2 ⟨ds, w₀, hT, hb2, (⟨rfl, hh⟩ | ⟨rfl, hlt, p, hh⟩)⟩
  · obtain ⟨hk0, hle, v, bV, hown⟩ := hh
    obtain ⟨av, cv, rfl, _⟩ := ownsRow_words hown
    have cN := bV.cell
    have hs2 := hb2.size
    have hk := hk0.below (n := w.heap.size) (by omega) (fun k e => by subst e; omega)
    have HT := hide hT
    have HO := hide hown
    clear hT hown
    go_wp2
    go_ret2
    exact ⟨ds, HT.out, (Hb.out.trans (hb2.mono (by omega))).trans hk, .inr ⟨hle, _, rfl, ownsRow_base HO.out (by omega)⟩⟩
  · have hs2 := hb2.size
    have hk := hh.1.below (n := w.heap.size) (by omega) (fun k e => by subst e; omega)
    have HT := hide hT
    have HL := hide hlt
    clear hT hh hlt
    go_wp2
    go_ret2
    exact ⟨ds, HT.out, (Hb.out.trans (hb2.mono (by omega))).trans hk, .inl ⟨HL.out, rfl⟩⟩

set_option maxRecDepth 100000 in
set_option maxHeartbeats 1000000 in
theorem All_bad (n : Int) (a : Option Addr) (cap : Nat) (us : List Nat) (n₀ : Nat) (w : World) (hR : Ready a us n₀ w) (hc : codeOf n us ≠ 0) :
    Calls Tryd.prog 9 #[.agg #[.int .i64 n, .slice a us.length cap]] w fun e w' => e = .returned (.tuple #[.slice none 0 0, .int .i64 (codeOf n us)]) ∧ Below w.heap.size w w' := by
  obtain ⟨W1, hW1⟩ : ∃ W1, ((w.alloc (.cells #[.int .i64 n, .slice a us.length cap] 24)).alloc (.cells #[.slice none 0 0] 22)) = W1 := ⟨_, rfl⟩
  obtain ⟨r0, bN, hb1, hs1⟩ := row_box' w _ _ _ _ _ hW1
  have hea := each_bad (.func (.func 31) #[] #[.pointer (some ⟨w.heap.size + 1, 0, none⟩)]) n a cap us n₀ W1 (hR.step hb1) hc
  generalize codeOf n us = c at *
  have hne : (c != 0) = true := by rw [bne_iff_ne]; exact hc
  have j0 := r0.cell (i := 0) rfl
  have j1 := r0.cell (i := 1) rfl
  have Hb := hide hb1
  clear hc hb1
  go_enter Tryd.func9, Tryd.ntmps9
  go_wp2_with (go_at_call 30; refine hea.mono ?_; rintro e w2 ⟨rfl, hb2⟩)
  go_ret2
  exact ⟨rfl, Hb.out.trans (hb2.mono (by omega))⟩
end Go.Proofs.YtdomcjfgmnpbmaaDoor

namespace Go.Proofs.YtdomcjfgmnpbmaaDoor
open Go.RowKit Go.Shelf

/-- each word without its own element -/
def othL (us : List Nat) : List Nat := us.mapIdx fun i u => andN u (bitW i)
theorem othL_len (us : List Nat) : (othL us).length = us.length := by unfold othL; simp
theorem wd_othL {us : List Nat} {i : Nat} (h : i < us.length) : wd (othL us) i = andN (wd us i) (bitW i) := by
  unfold othL wd; simp [List.getD_eq_getElem?_getD, List.getElem?_mapIdx, List.getElem?_eq_getElem h]
theorem wd_out {us : List Nat} {i : Nat} (h : us.length ≤ i) : wd us i = 0 := by
  unfold wd; rw [List.getD_eq_getElem?_getD, List.getElem?_eq_none h]; rfl
theorem othL_fit {us : List Nat} (hf : Fit us) : Fit (othL us) := fun i => by
  by_cases h : i < us.length
  · rw [wd_othL h]; exact andN_lt (hf i)
  · rw [wd_out (by rw [othL_len]; omega)]; omega
theorem wd_ext {us vs : List Nat} (hl : us.length = vs.length) (h : ∀ i, i < us.length → wd us i = wd vs i) : us = vs := by
  apply List.ext_getElem hl
  intro i h1 h2
  have := h i h1
  unfold wd at this
  simpa [List.getD_eq_getElem?_getD, List.getElem?_eq_getElem h1, List.getElem?_eq_getElem h2] using this
/-- strictly below -/
theorem hasB_othL {us : List Nat} (hf : Fit us) {i : Nat} (h : i < us.length) (j : Nat) : hasB (wd (othL us) i) j = (hasB (wd us i) j && !decide (i = j)) := by
  rw [wd_othL h, hasB_andN (hf i), hasB_bitW]
end Go.Proofs.YtdomcjfgmnpbmaaDoor
