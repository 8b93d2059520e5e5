/- The contract of package summary's copied. -/
import Derived.Test.YtbnjbnjgfjpegaaSumConc
import Derived.Test.YtbnjbnjgfjpegaaSumRows
namespace Go.Proofs.Ytbnjbnjgfjpegaa
open Go.RowKit Go.Shelf

set_option maxRecDepth 100000 in
set_option maxHeartbeats 1000000 in
theorem copied_any (k d : Int) (a : Option Addr) (cap : Nat) (zs : List Int) (n₀ : Nat) (hl : zs.length ≤ 4) (hna : a = none → cap = 0) (w : World) (hz : ZInts n₀ w a zs) (hn₀ : n₀ ≤ w.heap.size) :
    Calls Try.prog 26 #[.agg #[.int .i64 k, .int .i64 d, .slice a zs.length cap]] w fun e w' => ∃ av cv, e = .returned (.agg #[.int .i64 k, .int .i64 d, .slice av zs.length cv]) ∧ Below w.heap.size w w' ∧ w'.ownsRow w.heap.size 3 1 (.slice av zs.length cv) zs.length (zvals zs) := by
  obtain ⟨i0, hi, hz0, hz1, hz2⟩ := int_info
  obtain ⟨r0, r1, hb0, hs0⟩ := sum_rows w (.int .i64 k) (.int .i64 d) (.slice a zs.length cap) (.int .i64 0) (.int .i64 0) (.slice none 0 0) rfl
  have c0 := r0.cell (i := 0) rfl
  have c1 := r0.cell (i := 1) rfl
  have c2 := r0.cell (i := 2) rfl
  have hzW := hz.below (hb0.mono hn₀)
  obtain ⟨W0, hW0⟩ : ∃ V, (w.alloc (.cells #[.int .i64 k, .int .i64 d, .slice a zs.length cap] 32)).alloc (.cells #[.int .i64 0, .int .i64 0, .slice none 0 0] 32) = V := ⟨_, rfl⟩
  rw [hW0] at r0 r1 hb0 hs0 hzW c0 c1 c2
  have hnil : W0.ownsRow (w.heap.size + 2) 3 1 (.slice none 0 0) 0 [] := World.ownsRow_nil ..
  have HB := hide hb0
  have HS := hide hs0
  have hle : w.heap.size + 2 ≤ W0.heap.size := by omega
  clear hb0 hs0
  cases a with
  | none =>
    have hL0 : zs = [] := by
      rcases hzW with h | ⟨_, _, h, _⟩
      · exact h
      · cases h
    obtain rfl := hna rfl
    subst hL0
    go_enter Try.func26, Try.ntmps26
    go_wp2
    refine bodyPost_ret (v := .agg #[.int .i64 k, .int .i64 d, .slice none 0 0]) (by simp [results, Try.results26, go_sem]) rfl ⟨_, _, rfl, ?_, ?_⟩
    · exact ((Below.refl _ _).alloc (Nat.le_refl _) _).alloc (by simp) _
    · exact World.ownsRow_nil ..
  | some ad =>
    have HN := hide (show (∀ j u, (zvals zs)[j]? = some u → W0.cell? (ad.add j) = some u) from fun j u hj => by
      have hjl : j < zs.length := by have := (List.getElem?_eq_some_iff.1 hj).1; rw [zvals_len] at this; exact this
      rw [zvals_at hjl] at hj
      cases hj
      obtain ⟨bq, oq, hq, _, hcq⟩ := hzW.at hjl
      cases hq
      have := hcq j hjl
      rw [Addr.add_lit]
      exact this)
    go_enter Try.func26, Try.ntmps26
    go_wp2_with (at_builtin; refine wpList_append_own _ rfl _ _ 30 rfl (w.heap.size + 2) 3 i0 (.int .i64 0) 1 8 Try.underlying30 hi hz0 hz1 hz2 rfl (by decide) _ 0 _ rfl hnil ad zs.length cap (zvals zs) rfl (by rw [zvals_len]; omega) HN.out (fun u hu => by unfold zvals at hu; obtain ⟨x, _, rfl⟩ := List.mem_map.1 hu; rfl) (by unfold maxLen; omega) (by omega) (by omega) ?_)
    intro v' w3 hown3 hgrow3 _
    obtain ⟨av3, cv3, rfl⟩ := own_slice hown3
    have p0 := r0.kept hgrow3 (by simp [Value.ownBlock])
    have p1 := r1.kept hgrow3 (by simp [Value.ownBlock])
    have hB3 := HB.out.grown hgrow3 (by omega) (by intro k hk; simp [Value.ownBlock] at hk)
    have c0' := p0.cell (i := 0) rfl
    have c1' := p0.cell (i := 1) rfl
    have c2' := p0.cell (i := 2) rfl
    have k0 := p1.cell (i := 0) rfl
    have k1 := p1.cell (i := 1) rfl
    have k2 := p1.cell (i := 2) rfl
    have f2 := p0.frozen 2
    have h0 := p1.frozen 0
    have h1 := p1.frozen 1
    have h2 := p1.frozen 2
    clear c0 c1 c2 r0 r1 hnil
    go_wp2
    have q1 := ((((p1.other (b := w.heap.size) (by omega) 2 (.slice av3 zs.length cv3)).set 0 (.int .i64 k)).set 1 (.int .i64 d)).set 2 (.slice av3 zs.length cv3))
    have g0 := q1.cell (i := 0) (v := .int .i64 k) rfl
    have g1 := q1.cell (i := 1) (v := .int .i64 d) rfl
    have g2 := q1.cell (i := 2) (v := (.slice av3 zs.length cv3)) rfl
    refine bodyPost_ret (v := .agg #[.int .i64 k, .int .i64 d, (.slice av3 zs.length cv3)]) (by simp [results, Try.results26, go_sem, g0, g1, g2]) rfl ⟨_, _, rfl, ?_, ?_⟩
    · exact (((hB3.setCell (p := ⟨w.heap.size, 2, none⟩) (Nat.le_refl _) _).setCell (p := ⟨w.heap.size + 1, 0, none⟩) (by simp) _).setCell (p := ⟨w.heap.size + 1, 1, none⟩) (by simp) _).setCell (p := ⟨w.heap.size + 1, 2, none⟩) (by simp) _
    · have o1 := ownsRow_setCell_below (ownsRow_setCell_below (ownsRow_setCell_below (ownsRow_setCell_below hown3 (a := ⟨w.heap.size, 2, none⟩) (by simp) (.slice av3 zs.length cv3)) (a := ⟨w.heap.size + 1, 0, none⟩) (by simp) (.int .i64 k)) (a := ⟨w.heap.size + 1, 1, none⟩) (by simp) (.int .i64 d)) (a := ⟨w.heap.size + 1, 2, none⟩) (by simp) (.slice av3 zs.length cv3)
      simpa using Go.Joins.ownsRow_le o1 (by omega)
end Go.Proofs.Ytbnjbnjgfjpegaa
