/- The contracts of the closures that All and Count hand on: one tells into a list, one counts; and of choose. -/
import Derived.Test.YtjbfjdijgfhjfaaDoorNextAny
import Derived.Test.YtjbfjdijgfhjfaaDoorIntVals
import Derived.Test.YtjbfjdijgfhjfaaDoorOwns
import Derived.Laws.EntriesVeiled
import Derived.Laws.AppendOwn
namespace Go.Proofs.YtjbfjdijgfhjfaaDoor
open Go.RowKit Go.Shelf

/-- so many were counted -/
def InvC (Bt : Nat) (w₀ : World) (p : List Nat) (W : World) : Prop := KeepX (· = Bt) w₀ W ∧ Boxed W Bt 3 (.int .i64 (p.length : Nat))
/-- these were told -/
def InvA (Bt : Nat) (w₀ : World) (p : List Nat) (W : World) : Prop := KeepX (· = Bt) w₀ W ∧ p.length ≤ 256 ∧ ∃ v, Boxed W Bt 22 v ∧ W.ownsRow w₀.heap.size 50 1 v p.length (wvals p)
theorem InvC.drew {Bt : Nat} {w₀ : World} {p : List Nat} {W : World} (h : InvC Bt w₀ p W) : InvC Bt w₀ p W.drew := ⟨h.1.trans (.of_below (Below.refl _ _).drew), h.2⟩
theorem InvA.drew {Bt : Nat} {w₀ : World} {p : List Nat} {W : World} (h : InvA Bt w₀ p W) : InvA Bt w₀ p W.drew := by
  obtain ⟨h1, h2, v, h3, h4⟩ := h
  exact ⟨h1.trans (.of_below (Below.refl _ _).drew), h2, v, h3, ownsRow_below h4 (Below.refl _ _).drew⟩

set_option maxRecDepth 100000 in
set_option maxHeartbeats 1000000 in
theorem tellA_any (Bt : Nat) (w₀ : World) (hb : Bt < w₀.heap.size) (p : List Nat) (s : Nat) (W : World) (hI : InvA Bt w₀ p W) :
    Calls Tryd.prog 27 #[.int .u32 (s : Nat), .pointer (some ⟨Bt, 0, none⟩)] W (Told (InvA Bt w₀) 256 (p ++ [s])) := by
  have hI0 := hI
  obtain ⟨hk, hp, v, bN, hown⟩ := hI
  have hks := hk.size
  obtain ⟨av, cv, rfl, hwv⟩ := ownsRow_words hown
  have cN := bN.cell
  by_cases hlt : p.length < 256
  · have hne : (((p.length : Nat) : Int) == 256) = false := by rw [beq_eq_false_iff_ne]; omega
    obtain ⟨i0, hi, hz⟩ := Option.map_eq_some_iff.1 info_u32
    simp only [Prod.mk.injEq] at hz
    obtain ⟨hz0, hz1, hz2⟩ := hz
    have hneN := ownBlock_ge hown (b := Bt) (by omega)
    clear hI0 hwv
    go_enter Tryd.func27, Tryd.ntmps27
    go_wp2_with (at_builtin; refine wpList_append_own _ rfl _ _ 22 rfl w₀.heap.size 50 i0 (.int .u32 0) 1 4 Tryd.underlying22 hi hz0 hz1 hz2 rfl (by decide) _ _ _ rfl (hown.alloc _) ⟨W.heap.size, 0, none⟩ 1 1 [.int .u32 (s : Nat)] rfl rfl (cell_one_new _ _ _) (fun u hu => by simp at hu; subst hu; rfl) (by unfold maxLen; omega) (by omega) (by simp; omega) ?_; intro v' w3 hown' hgrow3 _; obtain ⟨g', cap', rfl⟩ := ownsRow_succ hown'; have b3 := (bN.alloc (.cells #[.int .u32 (s : Nat)] 50)).kept hgrow3 hneN; have c3 := b3.cell; have f3 := b3.frozen)
    go_ret
    have hx2 : wvals p ++ [.int .u32 (s : Nat)] = wvals (p ++ [s]) := by simp [wvals]
    have hl2 : (p ++ [s]).length = p.length + 1 := by simp
    rw [hx2] at hown'
    have k3 : KeepX (· = Bt) w₀ w3 := ⟨hgrow3.os.trans hk.os, hgrow3.tape.trans hk.tape, hgrow3.output.trans hk.output, by have := hgrow3.size; simp at this; omega, fun k hkl hx => by
      have hkW : k < (W.alloc (.cells #[.int .u32 (s : Nat)] 50)).heap.size := by simp; omega
      rw [hgrow3.block k hkW (ownBlock_ge hown (b := k) (by omega))]
      rw [((Below.refl W.heap.size W).alloc (Nat.le_refl _) (.cells #[.int .u32 (s : Nat)] 50)).block k (by omega)]
      exact hk.same k hkl hx⟩
    refine .inl ⟨rfl, k3.set rfl _, by omega, _, b3.set _, ?_⟩
    rw [hl2]
    exact ownsRow_setAt hown' (by omega) _ _
  · have hl : p.length = 256 := by omega
    rw [hl] at cN
    clear hown
    go_enter Tryd.func27, Tryd.ntmps27
    go_wp2
    go_ret
    exact .inr ⟨rfl, by simp; omega, p, hI0⟩
end Go.Proofs.YtjbfjdijgfhjfaaDoor
