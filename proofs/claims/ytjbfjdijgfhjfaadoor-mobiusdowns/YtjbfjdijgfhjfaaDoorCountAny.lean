/- The contracts of the program's Count and All. -/
import Derived.Test.YtjbfjdijgfhjfaaDoorEachAny
namespace Go.Proofs.YtjbfjdijgfhjfaaDoor
open Go.RowKit Go.Shelf

theorem keeps_all {w : World} {Bt : Nat} (bN : Boxed w Bt 22 (.slice none 0 0)) : Keeps 27 Bt 256 w (InvA Bt) where
  start := fun _ h0 => ⟨KeepX.refl _ _, by simp, _, (h0.block _ bN.lt).trans bN, by rw [wvals]; exact World.ownsRow_nil _ _ _ _⟩
  keep := fun _ _ _ h => h.1
  drew := fun _ _ _ h => h.drew
  tell := fun w₀ p s W h0 _ _ hI => tellA_any Bt w₀ (by have := bN.lt; have := h0.size; omega) p s W hI

theorem row_box (w : World) (t1 t2 : TypeId) (p0 p1 v u : Value) {W : World} (h : ((w.alloc (.cells #[p0, p1] t1)).alloc (.cells #[v] t2)).setCell ⟨w.heap.size + 1, 0, none⟩ u = W) :
    Row W w.heap.size t1 [p0, p1] ∧ Boxed W (w.heap.size + 1) t2 u ∧ Below w.heap.size w W ∧ W.heap.size = w.heap.size + 1 + 1 := by
  subst h
  have r0 : Row (w.alloc (.cells #[p0, p1] t1)) w.heap.size t1 [p0, p1] := Row.new w t1 [p0, p1]
  have b1 := Boxed.new (w.alloc (.cells #[p0, p1] t1)) t2 v
  simp only [World.size_alloc] at b1
  exact ⟨(r0.alloc _).other (by omega) _ _, b1.set _, (((Below.refl _ _).alloc (Nat.le_refl _) _).alloc (by simp) _).setCell (by simp) _, by simp⟩
theorem row_box' (w : World) (t1 t2 : TypeId) (p0 p1 v : Value) {W : World} (h : ((w.alloc (.cells #[p0, p1] t1)).alloc (.cells #[v] t2)) = W) :
    Row W w.heap.size t1 [p0, p1] ∧ Boxed W (w.heap.size + 1) t2 v ∧ Below w.heap.size w W ∧ W.heap.size = w.heap.size + 1 + 1 := by
  subst h
  have r0 : Row (w.alloc (.cells #[p0, p1] t1)) w.heap.size t1 [p0, p1] := Row.new w t1 [p0, p1]
  have b1 := Boxed.new (w.alloc (.cells #[p0, p1] t1)) t2 v
  simp only [World.size_alloc] at b1
  exact ⟨r0.alloc _, b1, ((Below.refl _ _).alloc (Nat.le_refl _) _).alloc (by simp) _, by simp⟩

/-- what All answers, where the order may be -/
def AllAns (us : List Nat) (w : World) (e : Ending) (w' : World) : Prop :=
  ∃ ds, Tur us us.length [] ds ∧ Below w.heap.size w w' ∧ ((256 < (allD ds).length ∧ e = .returned (.tuple #[.slice none 0 0, .int .i64 1])) ∨ ((allD ds).length ≤ 256 ∧ ∃ v, e = .returned (.tuple #[v, .int .i64 0]) ∧ w'.ownsRow w.heap.size 50 1 v (allD ds).length (wvals (allD ds))))

set_option maxRecDepth 100000 in
set_option maxHeartbeats 1000000 in
theorem All_ok (a : Option Addr) (cap : Nat) (us : List Nat) (n₀ : Nat) (w : World) (hR : Ready a us n₀ w) (hc : codeOf us.length us = 0) :
    Calls Tryd.prog 13 #[.agg #[.int .i64 us.length, .slice a us.length cap]] w (AllAns us w) := by
  obtain ⟨W1, hW1⟩ : ∃ W1, ((w.alloc (.cells #[.int .i64 us.length, .slice a us.length cap] 24)).alloc (.cells #[.slice none 0 0] 22)) = W1 := ⟨_, rfl⟩
  obtain ⟨r0, bN, hb1, hs1⟩ := row_box' w _ _ _ _ _ hW1
  have R1 := hR.step hb1
  have hea := each_ok 27 (.inl rfl) (w.heap.size + 1) a cap us 256 n₀ W1 (InvA (w.heap.size + 1)) R1 (by omega) (by have := hR.le; omega) hc (keeps_all bN)
  have j0 := r0.cell (i := 0) rfl
  have j1 := r0.cell (i := 1) rfl
  have Hb := hide hb1
  clear hc hb1
  go_enter Tryd.func13, Tryd.ntmps13
  go_wp2_with (go_at_call 26; refine hea.mono ?_)
  rintro e w2 ⟨ds, w₀, hT, hb2, (⟨rfl, hh⟩ | ⟨rfl, hlt, p, hh⟩)⟩
  · obtain ⟨hk0, hle, v, bV, hown⟩ := hh
    obtain ⟨av, cv, rfl, _⟩ := ownsRow_words hown
    have cN := bV.cell
    have hs2 := hb2.size
    have hk := hk0.below (n := w.heap.size) (by omega) (fun k e => by subst e; omega)
    have HT := hide hT
    have HO := hide hown
    clear hT hown
    go_wp2
    go_ret2
    exact ⟨ds, HT.out, (Hb.out.trans (hb2.mono (by omega))).trans hk, .inr ⟨hle, _, rfl, ownsRow_base HO.out (by omega)⟩⟩
  · have hs2 := hb2.size
    have hk := hh.1.below (n := w.heap.size) (by omega) (fun k e => by subst e; omega)
    have HT := hide hT
    have HL := hide hlt
    clear hT hh hlt
    go_wp2
    go_ret2
    exact ⟨ds, HT.out, (Hb.out.trans (hb2.mono (by omega))).trans hk, .inl ⟨HL.out, rfl⟩⟩

set_option maxRecDepth 100000 in
set_option maxHeartbeats 1000000 in
theorem All_bad (n : Int) (a : Option Addr) (cap : Nat) (us : List Nat) (n₀ : Nat) (w : World) (hR : Ready a us n₀ w) (hc : codeOf n us ≠ 0) :
    Calls Tryd.prog 13 #[.agg #[.int .i64 n, .slice a us.length cap]] w fun e w' => e = .returned (.tuple #[.slice none 0 0, .int .i64 (codeOf n us)]) ∧ Below w.heap.size w w' := by
  obtain ⟨W1, hW1⟩ : ∃ W1, ((w.alloc (.cells #[.int .i64 n, .slice a us.length cap] 24)).alloc (.cells #[.slice none 0 0] 22)) = W1 := ⟨_, rfl⟩
  obtain ⟨r0, bN, hb1, hs1⟩ := row_box' w _ _ _ _ _ hW1
  have hea := each_bad (.func (.func 27) #[] #[.pointer (some ⟨w.heap.size + 1, 0, none⟩)]) n a cap us n₀ W1 (hR.step hb1) hc
  generalize codeOf n us = c at *
  have hne : (c != 0) = true := by rw [bne_iff_ne]; exact hc
  have j0 := r0.cell (i := 0) rfl
  have j1 := r0.cell (i := 1) rfl
  have Hb := hide hb1
  clear hc hb1
  go_enter Tryd.func13, Tryd.ntmps13
  go_wp2_with (go_at_call 26; refine hea.mono ?_; rintro e w2 ⟨rfl, hb2⟩)
  go_ret2
  exact ⟨rfl, Hb.out.trans (hb2.mono (by omega))⟩
end Go.Proofs.YtjbfjdijgfhjfaaDoor
