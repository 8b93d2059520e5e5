/- The contracts of slices.Clone at numbers and at lists of numbers. -/
import Derived.Test.YtdknniomgdjbfabTimOpen
import Derived.Lib.SliceRun
namespace Go.Proofs.Ytdknniomgdjbfab
open Go.RowKit Go.Shelf

theorem info_zs : (Try.prog.info? 23).map (fun i => (i.zero, i.size, i.bytes)) = some (some (.slice none 0 0), 1, 24) := by kernel_rfl
set_option maxRecDepth 100000 in
set_option maxHeartbeats 1000000 in
theorem cloneZ_any (a : Option Addr) (cap : Nat) (zs : List Int) (n₀ : Nat) (hl : zs.length ≤ 4) (h0 : 0 < zs.length) (w : World) (hw : ZInts n₀ w a zs) (hn₀ : n₀ ≤ w.heap.size) :
    Calls Try.prog 17 #[.slice a zs.length cap] w fun e w' => ∃ av cv, e = .returned (.slice av zs.length cv) ∧ Below w.heap.size w w' ∧ w'.ownsRow w.heap.size 3 1 (.slice av zs.length cv) zs.length (zvals zs) := by
  obtain ⟨i0, hi, hz0, hz1, hz2⟩ := info_parts info_int
  obtain ⟨b, off, rfl, hb, hc⟩ := hw.at h0
  have hbw : b < w.heap.size := by omega
  have hq : ∀ (w : World) (a : Option Addr) (n c n' c' : Nat), (binOp .eql 23 (.slice a n c) (.slice none n' c')).run Try.prog w = .ok (.bool a.isNone) w := fun w a n c n' c' => Lib.run_eql_slice_nil w _ _ a n c n' c' Try.underlying23
  go_enter Try.func17, Try.ntmps17
  have Hc := hide hc
  clear hc
  go_wp2_with (at_builtin; refine wpList_append_own _ rfl _ _ 23 rfl w.heap.size 3 i0 (.int .i64 0) 1 8 Try.underlying23 hi hz0 hz1 hz2 rfl (by decide) _ _ _ rfl (World.ownsRow_made w #[] 0 (Nat.le_refl _) (Nat.zero_le _) rfl) ⟨b, off, none⟩ zs.length cap (zvals zs) rfl ?qc1 ?qc2 ?qc3 ?qc4 ?qc5 ?qc6 ?_)
  case qc1 => unfold zvals; simp
  case qc2 =>
    intro j u hj
    have hjn : j < zs.length := by
      have := (List.getElem?_eq_some_iff.1 hj).1
      unfold zvals at this
      simpa using this
    rw [zvals_at hjn] at hj
    cases hj
    rw [Addr.add_lit]
    exact Lib.cell?_alloc_some _ (Hc.out j hjn)
  case qc3 => intro u hu; unfold zvals at hu; obtain ⟨x, _, rfl⟩ := List.mem_map.1 hu; rfl
  case qc4 => unfold maxLen; omega
  case qc5 => omega
  case qc6 => simp
  intro v' w1 hown hgrow hnil
  have hown' : w1.ownsRow w.heap.size 3 1 v' zs.length (zvals zs) := by simpa using hown
  obtain ⟨av, cv, rfl⟩ : ∃ av cv, v' = .slice av zs.length cv := by
    rcases hown'.2 with ⟨_, h2⟩ | ⟨g, c, cur, h1, _⟩
    · omega
    · exact ⟨_, _, h1⟩
  go_wp2
  go_ret
  exact ⟨av, cv, rfl, ((Below.refl _ w).alloc (Nat.le_refl _) _).grown hgrow (by simp) (by intro k hk; simp [Value.ownBlock] at hk; omega), hown'⟩
set_option maxRecDepth 100000 in
set_option maxHeartbeats 1000000 in
theorem cloneL_any (a : Option Addr) (cap : Nat) (L : List Sl) (n₀ : Nat) (hl : L.length ≤ 64) (h0 : 0 < L.length) (w : World) (hw : Outer n₀ w a L) (hn₀ : n₀ ≤ w.heap.size) :
    Calls Try.prog 12 #[.slice a L.length cap] w fun e w' => ∃ g cv, e = .returned (.slice (some ⟨g, 0, none⟩) L.length cv) ∧ Below w.heap.size w w' ∧ w'.ownsRow w.heap.size 23 1 (.slice (some ⟨g, 0, none⟩) L.length cv) L.length (svals L) := by
  obtain ⟨i0, hi, hz0, hz1, hz2⟩ := info_parts info_zs
  obtain ⟨b, off, rfl, hb, hc⟩ := hw.at h0
  have hbw : b < w.heap.size := by omega
  have hq : ∀ (w : World) (a : Option Addr) (n c n' c' : Nat), (binOp .eql 22 (.slice a n c) (.slice none n' c')).run Try.prog w = .ok (.bool a.isNone) w := fun w a n c n' c' => Lib.run_eql_slice_nil w _ _ a n c n' c' Try.underlying22
  go_enter Try.func12, Try.ntmps12
  have Hc := hide hc
  clear hc
  go_wp2_with (at_builtin; refine wpList_append_own _ rfl _ _ 22 rfl w.heap.size 23 i0 (.slice none 0 0) 1 24 Try.underlying22 hi hz0 hz1 hz2 rfl (by decide) _ _ _ rfl (World.ownsRow_made w #[] 0 (Nat.le_refl _) (Nat.zero_le _) rfl) ⟨b, off, none⟩ L.length cap (svals L) rfl ?qc1 ?qc2 ?qc3 ?qc4 ?qc5 ?qc6 ?_)
  case qc1 => unfold svals; simp
  case qc2 =>
    intro j u hj
    have hjn : j < L.length := by
      have := (List.getElem?_eq_some_iff.1 hj).1
      unfold svals at this
      simpa using this
    rw [svals_at hjn] at hj
    cases hj
    rw [Addr.add_lit]
    exact Lib.cell?_alloc_some _ (Hc.out j hjn)
  case qc3 => intro u hu; unfold svals at hu; obtain ⟨x, _, rfl⟩ := List.mem_map.1 hu; rfl
  case qc4 => unfold maxLen; omega
  case qc5 => omega
  case qc6 => simp
  intro v' w1 hown hgrow hnil
  have hown' : w1.ownsRow w.heap.size 23 1 v' L.length (svals L) := by simpa using hown
  obtain ⟨g, cv, rfl⟩ : ∃ g cv, v' = .slice (some ⟨g, 0, none⟩) L.length cv := by
    rcases hown'.2 with ⟨_, h2⟩ | ⟨g, c, cur, h1, _⟩
    · omega
    · exact ⟨_, _, h1⟩
  go_wp2
  go_ret
  exact ⟨g, cv, rfl, ((Below.refl _ w).alloc (Nat.le_refl _) _).grown hgrow (by simp) (by intro k hk; simp [Value.ownBlock] at hk; omega), hown'⟩
/-- of no list: no list, from nowhere or from a new block -/
theorem cloneL_nil (a : Option Addr) (cap : Nat) (w : World) :
    Calls Try.prog 12 #[.slice a 0 cap] w fun e w' => ∃ av cv, e = .returned (.slice av 0 cv) ∧ Below w.heap.size w w' := by
  obtain ⟨i0, hi, hz0, hz1, hz2⟩ := info_parts info_zs
  have hq : ∀ (w : World) (a : Option Addr) (n c n' c' : Nat), (binOp .eql 22 (.slice a n c) (.slice none n' c')).run Try.prog w = .ok (.bool a.isNone) w := fun w a n c n' c' => Lib.run_eql_slice_nil w _ _ a n c n' c' Try.underlying22
  cases a with
  | none =>
    go_enter Try.func12, Try.ntmps12
    go_wp2
    go_ret
    exact ⟨none, 0, rfl, Below.refl _ _⟩
  | some p =>
    go_enter Try.func12, Try.ntmps12
    go_wp2
    go_ret
    exact ⟨_, _, rfl, (Below.refl _ _).alloc (Nat.le_refl _) _⟩
end Go.Proofs.Ytdknniomgdjbfab
