/- The contract of slices.Clone at words. -/
import Derived.Test.YtjbfjdijgfhjfaaDoorLatTwo
import Derived.Lib.SliceRun
namespace Go.Proofs.YtjbfjdijgfhjfaaDoor
open Go.RowKit Go.Shelf

set_option maxRecDepth 100000 in
set_option maxHeartbeats 1000000 in
theorem Clone_any (a : Option Addr) (cap : Nat) (us : List Nat) (n₀ : Nat) (hl : us.length ≤ 16) (h0 : 0 < us.length) (w : World) (hw : IsWords n₀ w a us) (hn₀ : n₀ ≤ w.heap.size) :
    Calls Tryd.prog 49 #[.slice a us.length cap] w fun e w' => ∃ av cv, e = .returned (.slice av us.length cv) ∧ Below w.heap.size w w' ∧ w'.ownsRow w.heap.size 50 1 (.slice av us.length cv) us.length (wvals us) := by
  obtain ⟨i0, hi, hz0, hz1, hz2⟩ := info_parts info_u32
  obtain ⟨b, off, rfl, hb, hc⟩ := hw.at h0
  have hbw : b < w.heap.size := by omega
  have hq : ∀ (w : World) (a : Option Addr) (n c n' c' : Nat), (binOp .eql 22 (.slice a n c) (.slice none n' c')).run Tryd.prog w = .ok (.bool a.isNone) w := fun w a n c n' c' => Lib.run_eql_slice_nil w _ _ a n c n' c' Tryd.underlying22
  go_enter Tryd.func49, Tryd.ntmps49
  have Hc := hide hc
  clear hc
  go_wp2_with (at_builtin; refine wpList_append_own _ rfl _ _ 22 rfl w.heap.size 50 i0 (.int .u32 0) 1 4 Tryd.underlying22 hi hz0 hz1 hz2 rfl (by decide) _ _ _ rfl (World.ownsRow_made w #[] 0 (Nat.le_refl _) (Nat.zero_le _) rfl) ⟨b, off, none⟩ us.length cap (wvals us) rfl ?qc1 ?qc2 ?qc3 ?qc4 ?qc5 ?qc6 ?_)
  case qc1 => unfold wvals; simp
  case qc2 =>
    intro j u hj
    have hjn : j < us.length := by
      have := (List.getElem?_eq_some_iff.1 hj).1
      unfold wvals at this
      simpa using this
    rw [wvals_at hjn] at hj
    cases hj
    rw [Addr.add_lit]
    exact Lib.cell?_alloc_some _ (Hc.out j hjn)
  case qc3 => intro u hu; unfold wvals at hu; obtain ⟨x, _, rfl⟩ := List.mem_map.1 hu; rfl
  case qc4 => unfold maxLen; omega
  case qc5 => omega
  case qc6 => simp
  intro v' w1 hown hgrow hnil
  have hown' : w1.ownsRow w.heap.size 50 1 v' us.length (wvals us) := by simpa using hown
  obtain ⟨av, cv, rfl⟩ : ∃ av cv, v' = .slice av us.length cv := by
    rcases hown'.2 with ⟨_, h2⟩ | ⟨g, c, cur, h1, _⟩
    · omega
    · exact ⟨_, _, h1⟩
  go_wp2
  go_ret
  exact ⟨av, cv, rfl, ((Below.refl _ w).alloc (Nat.le_refl _) _).grown hgrow (by simp) (by intro k hk; simp [Value.ownBlock] at hk; omega), hown'⟩
end Go.Proofs.YtjbfjdijgfhjfaaDoor
