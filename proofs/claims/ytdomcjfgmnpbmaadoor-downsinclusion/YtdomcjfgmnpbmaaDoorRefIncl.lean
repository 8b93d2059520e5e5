/- The document's own answer: sets as an order. -/
import Derived.Test.YtdomcjfgmnpbmaaDoorInclPlain
import Derived.Test.YtdomcjfgmnpbmaaDoorRefDual
import Derived.StillTactics
import Derived.Laws.AppendOwn
namespace Go.Proofs.YtdomcjfgmnpbmaaDoor
open Go.RowKit Go.Shelf

set_option maxRecDepth 100000 in
set_option maxHeartbeats 2000000 in
theorem RefIncl_any (a : Option Addr) (cap : Nat) (l : List Nat) (n₀ : Nat) (hf : ∀ i, wd l i < 4294967296) (hl : l.length ≤ 16) (w : World) (hw : IsWords n₀ w a l) (hn₀ : n₀ ≤ w.heap.size) :
    Calls Tryd.prog 16 #[.slice a l.length cap] w fun e w' => ∃ v, e = .returned (.agg #[.int .i64 (l.length : Nat), v]) ∧ Below w.heap.size w w' ∧ w'.ownsRow w.heap.size 53 1 v l.length (wvals (inclL l)) := by
  obtain ⟨i0, hi, hz0, hz1, hz2⟩ := info_parts info_u32
  go_enter Tryd.func16, Tryd.ntmps16
  go_wp2
  go_loopw [4] (fun i wr => ∃ (k : Nat) (av : Option Addr) (cv : Nat), k ≤ l.length ∧ i = .int .i64 k ∧ Row wr w.heap.size 24 [.int .i64 0, .slice none 0 0] ∧ Row wr (w.heap.size + 1) 24 [.int .i64 (l.length : Nat), .slice av k cv] ∧ Below w.heap.size w wr ∧ wr.ownsRow (w.heap.size + 1 + 1) 53 1 (.slice av k cv) k (wvals (inclUp l k))) (fun i _ => l.length - (intOf i).toNat)
  case atStart =>
    have r1 := Row.new w 24 [.int .i64 0, .slice none 0 0]
    have r2 := Row.new (w.alloc (.cells #[.int .i64 0, .slice none 0 0] 24)) 24 [.int .i64 (l.length : Nat), .slice none 0 0]
    simp only [World.size_alloc] at r2
    exact ⟨0, none, 0, Nat.zero_le _, rfl, r1.alloc _, r2, ((Below.refl _ _).alloc (Nat.le_refl _) _).alloc (by simp) _, World.ownsRow_nil ..⟩
  case round =>
    obtain ⟨k, av, cv, hk, rfl, r1, r2, hB, hown⟩ := hrel
    have hbsz := hB.size
    have l2 := r2.lt
    by_cases hlt : k < l.length
    · go_wp2
      go_loopw [5, 6] (fun x j wr => ∃ m : Nat, m ≤ l.length ∧ j = .int .i64 m ∧ x = .int .u32 (inclW l k m : Nat) ∧ Row wr w.heap.size 24 [.int .i64 0, .slice none 0 0] ∧ Row wr (w.heap.size + 1) 24 [.int .i64 (l.length : Nat), .slice av k cv] ∧ Below w.heap.size w wr ∧ wr.ownsRow (w.heap.size + 1 + 1) 53 1 (.slice av k cv) k (wvals (inclUp l k))) (fun _ j _ => l.length - (intOf j).toNat)
      case atStart => exact ⟨0, Nat.zero_le _, rfl, rfl, r1, r2, hB, hown⟩
      case round =>
        clear r1 r2 hB hown hbsz l2
        obtain ⟨m, hm, rfl, rfl, r1, r2, hB, hown⟩ := hrel
        have hbsz := hB.size
        by_cases hlm : m < l.length
        · obtain ⟨b, off, rfl, hb, hc⟩ := (hw.below (hB.mono hn₀)).at hlm
          have cK := hc k hlt
          have cM := hc m hlm
          have hor := bits_or32 (wd l k) (wd l m) (hf k) (hf m)
          have hbr := bit_raw (i := m) (by omega)
          have hor2 := bits_or32 (inclW l k m) (bitW m) (inclW_lt l k (by omega)) (bitW_lt (by omega))
          clear hc
          cases hs : subB (wd l k) (wd l m) with
          | true =>
            have he : (((orW (wd l k) (wd l m) : Nat) : Int) == ((wd l m : Nat) : Int)) = true := by rw [(subB_or (hf k)).2 hs]; simp
            have HY := hide (inclW_yes hs)
            clear hs
            go_wp2
            refine wp_region_still_lit (by kernel_rfl) (by kernel_rfl) ?_
            repeat (refine no_implicit_lambda% (wpStill_step ?_); intro K hK; go_simp; refine hK _ ?_; clear hK K)
            refine no_implicit_lambda% (wpStill_nil ?_)
            go_wp2
            exact ⟨⟨m + 1, by omega, by go_num, by rw [HY.out], r1, r2, hB.drew, ownsRow_below hown (Below.refl _ _).drew⟩, by simp [intOf]; omega⟩
          | false =>
            have he : (((orW (wd l k) (wd l m) : Nat) : Int) == ((wd l m : Nat) : Int)) = false := by
              rw [beq_eq_false_iff_ne]
              intro e
              rw [(subB_or (hf k)).1 (by omega)] at hs
              cases hs
            have HN := hide (inclW_no hs)
            clear hs
            go_wp2
            refine wp_region_still_lit (by kernel_rfl) (by kernel_rfl) ?_
            repeat (refine no_implicit_lambda% (wpStill_step ?_); intro K hK; go_simp; refine hK _ ?_; clear hK K)
            refine no_implicit_lambda% (wpStill_nil ?_)
            go_wp2
            exact ⟨⟨m + 1, by omega, by go_num, by rw [HN.out], r1, r2, hB.drew, ownsRow_below hown (Below.refl _ _).drew⟩, by simp [intOf]; omega⟩
        · obtain rfl : m = l.length := by omega
          have c20 := r2.cell (i := 0) rfl
          have c21 := r2.cell (i := 1) rfl
          have f21 := r2.frozen 1
          have l2 := r2.lt
          have hne2 := ownBlock_ge hown (b := w.heap.size + 1) (by omega)
          have hne1 := ownBlock_ge hown (b := w.heap.size) (by omega)
          have HU := hide (inclUp_succ l k)
          have hxl := inclW_lt l k (k := l.length) (by omega)
          generalize inclW l k l.length = x at *
          go_wp2_with (at_builtin; refine wpList_append_own _ rfl _ _ 22 rfl (w.heap.size + 1 + 1) 53 i0 (.int .u32 0) 1 4 Tryd.underlying22 hi hz0 hz1 hz2 rfl (by decide) _ _ _ rfl (hown.alloc _) ⟨wr.heap.size, 0, none⟩ 1 1 [.int .u32 (x : Nat)] rfl rfl (cell_one_new _ _ _) (fun u hu => by simp at hu; subst hu; rfl) (by unfold maxLen; omega) (by omega) (by simp; omega) ?_; intro v' w3 hown' hgrow3 _; obtain ⟨g', cap', rfl⟩ := ownsRow_succ hown'; have r2' := (r2.alloc (.cells #[.int .u32 (x : Nat)] 53)).kept hgrow3 hne2; have d20 := r2'.cell (i := 0) rfl; have d21 := r2'.cell (i := 1) rfl; have e21 := r2'.frozen 1)
          have r1' := (r1.alloc (.cells #[.int .u32 (x : Nat)] 53)).kept hgrow3 hne1
          have hB3 : Below w.heap.size w w3 := (hB.alloc hbsz (.cells #[.int .u32 (x : Nat)] 53)).grown hgrow3 (by simp; omega) fun j ej => by
            apply Nat.le_of_not_lt; intro hjl
            exact ownBlock_ge hown (b := j) (by omega) ej.symm
          have hx2 : wvals (inclUp l k) ++ [.int .u32 (x : Nat)] = wvals (inclUp l (k + 1)) := by rw [HU.out]; simp [wvals]
          have hown2 : w3.ownsRow (w.heap.size + 1 + 1) 53 1 (.slice (some ⟨g', 0, none⟩) (k + 1) cap') (k + 1) (wvals (inclUp l (k + 1))) := by rw [← hx2]; exact hown'
          exact ⟨⟨k + 1, some ⟨g', 0, none⟩, cap', by omega, by go_num, r1'.other (by omega) _ _, r2'.set 1 _, hB3.setCell (p := ⟨w.heap.size + 1, 1, none⟩) (by simp) _, ownsRow_setAt hown2 (by omega) _ _⟩, by simp [intOf]; omega⟩
    · obtain rfl : k = l.length := by omega
      have c10 := r1.cell (i := 0) rfl
      have c11 := r1.cell (i := 1) rfl
      have f10 := r1.frozen 0
      have f11 := r1.frozen 1
      have c20 := r2.cell (i := 0) rfl
      have c21 := r2.cell (i := 1) rfl
      have r1' := (r1.set 0 (.int .i64 (l.length : Nat))).set 1 (.slice av l.length cv)
      have e0 := r1'.cell (i := 0) (v := .int .i64 (l.length : Nat)) rfl
      have e1 := r1'.cell (i := 1) (v := .slice av l.length cv) rfl
      go_wp2
      refine bodyPost_ret (v := .agg #[.int .i64 (l.length : Nat), .slice av l.length cv]) (by simp [results, Tryd.results16, go_sem, e0, e1]) rfl ⟨.slice av l.length cv, rfl, ?_, ?_⟩
      · exact (hB.setCell (p := ⟨w.heap.size, 0, none⟩) (by simp) _).setCell (p := ⟨w.heap.size, 1, none⟩) (by simp) _
      · exact ownsRow_base (ownsRow_setAt (ownsRow_setAt hown (by omega) _ _) (by omega) _ _) (by omega)
end Go.Proofs.YtdomcjfgmnpbmaaDoor
