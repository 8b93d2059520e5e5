/- The contract of the document's OrderDual: the order upside down. The document's own answer: sets as an order. -/
import Derived.Test.YtdeglbmoiofpoaaDoorPart16
import Derived.Test.YtdeglbmoiofpoaaDoorPart4
import Derived.Maps.AppendAt
import Derived.Test.YtdeglbmoiofpoaaDoorPart14
import Derived.StillTactics
import Derived.Laws.AppendOwn
namespace Go.Proofs.YtdeglbmoiofpoaaDoor
open Go.RowKit Go.Shelf

/-- the first rows of the turned order -/
structure Rows (us : List Nat) (k : Nat) (ds : List Nat) : Prop where
  len : ds.length = k
  fit : Fit ds
  has : ∀ t, t < k → ∀ j, hasB (wd ds t) j = (decide (j < us.length) && hasB (wd us j) t)
theorem wd_snoc (ds : List Nat) (x t : Nat) : wd (ds ++ [x]) t = if t < ds.length then wd ds t else if t = ds.length then x else 0 := by
  unfold wd; simp only [List.getD_eq_getElem?_getD, List.getElem?_append]
  by_cases h : t < ds.length
  · simp [h]
  · rw [if_neg h, if_neg h]
    by_cases e : t = ds.length
    · subst e; simp
    · rw [if_neg e]
      have : 1 ≤ t - ds.length := by omega
      simp [List.getElem?_eq_none (l := [x]) (i := t - ds.length) (by simpa using this)]
theorem Rows.snoc {us ds : List Nat} {k x : Nat} (h : Rows us k ds) (hx : x < 4294967296) (hh : ∀ j, hasB x j = (decide (j < us.length) && hasB (wd us j) k)) : Rows us (k + 1) (ds ++ [x]) := by
  refine ⟨by simp [h.len], fun i => ?_, fun t ht j => ?_⟩
  · rw [wd_snoc]; split
    · exact h.fit i
    · split
      · exact hx
      · decide
  · rw [wd_snoc, h.len]
    by_cases e : t < k
    · rw [if_pos e]; exact h.has t e j
    · obtain rfl : t = k := by omega
      rw [if_neg (by omega), if_pos rfl]; exact hh j
theorem Rows.tur {us ds : List Nat} (h : Rows us us.length ds) : Tur us us.length [] ds := ⟨h.len, h.fit, fun j hj i => by rw [h.has j hj]; simp⟩

set_option maxRecDepth 100000 in
set_option maxHeartbeats 2000000 in
theorem OrderDual_any (a : Option Addr) (cap : Nat) (us : List Nat) (n₀ : Nat) (hf : Fit us) (hl : us.length ≤ 16) (w : World) (hw : IsWords n₀ w a us) (hn₀ : n₀ ≤ w.heap.size) :
    Calls Tryd.prog 51 #[.agg #[.int .i64 us.length, .slice a us.length cap]] w fun e w' => ∃ v ds, e = .returned (.agg #[.int .i64 us.length, v]) ∧ Below w.heap.size w w' ∧ w'.ownsRow w.heap.size 65 1 v us.length (wvals ds) ∧ Tur us us.length [] ds := by
  obtain ⟨i0, hi, hz0, hz1, hz2⟩ := info_parts info_u32
  go_enter Tryd.func51, Tryd.ntmps51
  go_wp2
  go_loopw [4] (fun i wr => ∃ (k : Nat) (av : Option Addr) (cv : Nat) (ds : List Nat), k ≤ us.length ∧ i = .int .i64 k ∧ Row wr w.heap.size 24 [.int .i64 us.length, .slice a us.length cap] ∧ Row wr (w.heap.size + 1) 24 [.int .i64 0, .slice none 0 0] ∧ Row wr (w.heap.size + 1 + 1) 24 [.int .i64 us.length, .slice av k cv] ∧ Below w.heap.size w wr ∧ wr.ownsRow (w.heap.size + 1 + 1 + 1) 65 1 (.slice av k cv) k (wvals ds) ∧ Rows us k ds) (fun i _ => us.length - (intOf i).toNat)
  case atStart =>
    have r0 := Row.new w 24 [.int .i64 us.length, .slice a us.length cap]
    have r1 := Row.new (w.alloc (.cells #[.int .i64 us.length, .slice a us.length cap] 24)) 24 [.int .i64 0, .slice none 0 0]
    have r2 := Row.new ((w.alloc (.cells #[.int .i64 us.length, .slice a us.length cap] 24)).alloc (.cells #[.int .i64 0, .slice none 0 0] 24)) 24 [.int .i64 us.length, .slice none 0 0]
    simp only [World.size_alloc] at r1 r2
    exact ⟨0, none, 0, [], Nat.zero_le _, rfl, (r0.alloc _).alloc _, r1.alloc _, r2, (((Below.refl _ _).alloc (Nat.le_refl _) _).alloc (by simp) _).alloc (by simp; omega) _, World.ownsRow_nil .., ⟨rfl, fun i => by simp [wd], fun t ht => by omega⟩⟩
  case round =>
    obtain ⟨k, av, cv, ds, hk, rfl, r0, r1, r2, hB, hown, hrows⟩ := hrel
    have c00 := r0.cell (i := 0) rfl
    have c01 := r0.cell (i := 1) rfl
    have c10 := r1.cell (i := 0) rfl
    have c11 := r1.cell (i := 1) rfl
    have f10 := r1.frozen 0
    have f11 := r1.frozen 1
    have c20 := r2.cell (i := 0) rfl
    have c21 := r2.cell (i := 1) rfl
    have f21 := r2.frozen 1
    by_cases hlt : k < us.length
    · go_wp2
      go_loopw [5, 6] (fun x j wr => ∃ (j' xx : Nat), j' ≤ us.length ∧ j = .int .i64 j' ∧ x = .int .u32 (xx : Nat) ∧ xx < 4294967296 ∧ (∀ t, hasB xx t = (decide (t < j') && hasB (wd us t) k)) ∧ Row wr w.heap.size 24 [.int .i64 us.length, .slice a us.length cap] ∧ Row wr (w.heap.size + 1) 24 [.int .i64 0, .slice none 0 0] ∧ Row wr (w.heap.size + 1 + 1) 24 [.int .i64 us.length, .slice av k cv] ∧ Below w.heap.size w wr ∧ wr.ownsRow (w.heap.size + 1 + 1 + 1) 65 1 (.slice av k cv) k (wvals ds)) (fun _ j _ => us.length - (intOf j).toNat)
      case atStart => exact ⟨0, 0, Nat.zero_le _, rfl, rfl, by omega, fun t => by rw [hasB_zero]; simp, r0, r1, r2, hB, hown⟩
      case round =>
        clear c00 c01 c10 c11 f10 f11 c20 c21 f21 r0 r1 r2 hB hown
        obtain ⟨j, x, hj, rfl, rfl, hx, hbits, r0, r1, r2, hB, hown⟩ := hrel
        have c00 := r0.cell (i := 0) rfl
        have c01 := r0.cell (i := 1) rfl
        have l2 := r2.lt
        by_cases hlj : j < us.length
        · have hbr := bit_raw (i := j) (by omega)
          have hor := bits_or32 x (bitW j) hx (bitW_lt (by omega))
          have hbel := Below_any us.length a cap us j k n₀ hf hlj (by omega) wr (hw.below (hB.mono hn₀)) (by have := hB.size; omega)
          cases hb : hasB (wd us j) k with
          | true =>
            simp only [hb] at hbel
            have Hb := hide hb; clear hb
            go_wp2_with (go_at_call 38; refine hbel.mono ?_; rintro e w1 ⟨rfl, hb1⟩)
            refine ⟨⟨j + 1, orW x (bitW j), by omega, by go_num, rfl, orW_lt hx (bitW_lt (by omega)), fun t => ?_, r0.below hb1 r0.lt, r1.below hb1 r1.lt, r2.below hb1 l2, hB.trans (hb1.mono hB.size), ownsRow_below hown hb1⟩, by simp [intOf]; omega⟩
            rw [hasB_or, hasB_bitW, hbits]
            by_cases e : t = j
            · subst e; simp [Hb.out]
            · have h1 : ¬ j = t := fun e' => e e'.symm
              have h2 : (t < j + 1) ↔ t < j := by omega
              simp [h1, h2]
          | false =>
            simp only [hb] at hbel
            have Hb := hide hb; clear hb
            go_wp2_with (go_at_call 38; refine hbel.mono ?_; rintro e w1 ⟨rfl, hb1⟩)
            refine ⟨⟨j + 1, x, by omega, by go_num, rfl, hx, fun t => ?_, r0.below hb1 r0.lt, r1.below hb1 r1.lt, r2.below hb1 l2, hB.trans (hb1.mono hB.size), ownsRow_below hown hb1⟩, by simp [intOf]; omega⟩
            rw [hbits]
            by_cases e : t = j
            · subst e; simp [Hb.out]
            · have h2 : (t < j + 1) ↔ t < j := by omega
              simp [h2]
        · obtain rfl : j = us.length := by omega
          have c20 := r2.cell (i := 0) rfl
          have c21 := r2.cell (i := 1) rfl
          have f21 := r2.frozen 1
          have hne2 := ownBlock_ge hown (b := w.heap.size + 1 + 1) (by omega)
          have hne1 := ownBlock_ge hown (b := w.heap.size + 1) (by omega)
          have hne0 := ownBlock_ge hown (b := w.heap.size) (by omega)
          have hbsz := hB.size
          go_wp2_with (at_builtin; refine wpList_append_own _ rfl _ _ 22 rfl (w.heap.size + 1 + 1 + 1) 65 i0 (.int .u32 0) 1 4 Tryd.underlying22 hi hz0 hz1 hz2 rfl (by decide) _ _ _ rfl (hown.alloc _) ⟨wr.heap.size, 0, none⟩ 1 1 [.int .u32 (x : Nat)] rfl rfl (cell_one_new _ _ _) (fun u hu => by simp at hu; subst hu; rfl) (by unfold maxLen; omega) (by omega) (by simp; omega) ?_; intro v' w3 hown' hgrow3 _; obtain ⟨g', cap', rfl⟩ := ownsRow_succ hown'; have r2' := (r2.alloc (.cells #[.int .u32 (x : Nat)] 65)).kept hgrow3 hne2; have d20 := r2'.cell (i := 0) rfl; have d21 := r2'.cell (i := 1) rfl; have e21 := r2'.frozen 1)
          have r0' := (r0.alloc (.cells #[.int .u32 (x : Nat)] 65)).kept hgrow3 hne0
          have r1' := (r1.alloc (.cells #[.int .u32 (x : Nat)] 65)).kept hgrow3 hne1
          have hB3 : Below w.heap.size w w3 := (hB.alloc hbsz (.cells #[.int .u32 (x : Nat)] 65)).grown hgrow3 (by simp; omega) fun j ej => by
            apply Nat.le_of_not_lt; intro hjl
            exact ownBlock_ge hown (b := j) (by omega) ej.symm
          have hx2 : wvals ds ++ [.int .u32 (x : Nat)] = wvals (ds ++ [x]) := by simp [wvals]
          have hown2 : w3.ownsRow (w.heap.size + 1 + 1 + 1) 65 1 (.slice (some ⟨g', 0, none⟩) (k + 1) cap') (k + 1) (wvals (ds ++ [x])) := by rw [← hx2]; exact hown'
          exact ⟨⟨k + 1, some ⟨g', 0, none⟩, cap', ds ++ [x], by omega, by go_num, r0'.other (by omega) _ _, r1'.other (by omega) _ _, r2'.set 1 _, hB3.setCell (p := ⟨w.heap.size + 1 + 1, 1, none⟩) (by simp; omega) _, ownsRow_setAt hown2 (by omega) _ _, hrows.snoc hx hbits⟩, by simp [intOf]; omega⟩
    · obtain rfl : k = us.length := by omega
      have r1' := (r1.set 0 (.int .i64 us.length)).set 1 (.slice av us.length cv)
      have e0 := r1'.cell (i := 0) (v := .int .i64 us.length) rfl
      have e1 := r1'.cell (i := 1) (v := .slice av us.length cv) rfl
      go_wp2
      refine bodyPost_ret (v := .agg #[.int .i64 us.length, .slice av us.length cv]) (by simp [results, Tryd.results51, go_sem, e0, e1]) rfl ⟨.slice av us.length cv, ds, rfl, ?_, ?_, hrows.tur⟩
      · exact (hB.setCell (p := ⟨w.heap.size + 1, 0, none⟩) (by simp) _).setCell (p := ⟨w.heap.size + 1, 1, none⟩) (by simp) _
      · exact ownsRow_base (ownsRow_setAt (ownsRow_setAt hown (by omega) _ _) (by omega) _ _) (by omega)
end Go.Proofs.YtdeglbmoiofpoaaDoor

namespace Go.Proofs.YtdeglbmoiofpoaaDoor
open Go.RowKit Go.Shelf

set_option maxRecDepth 100000 in
set_option maxHeartbeats 2000000 in
theorem RefIncl_any (a : Option Addr) (cap : Nat) (l : List Nat) (n₀ : Nat) (hf : ∀ i, wd l i < 4294967296) (hl : l.length ≤ 16) (w : World) (hw : IsWords n₀ w a l) (hn₀ : n₀ ≤ w.heap.size) :
    Calls Tryd.prog 42 #[.slice a l.length cap] w fun e w' => ∃ v, e = .returned (.agg #[.int .i64 (l.length : Nat), v]) ∧ Below w.heap.size w w' ∧ w'.ownsRow w.heap.size 65 1 v l.length (wvals (inclL l)) := by
  obtain ⟨i0, hi, hz0, hz1, hz2⟩ := info_parts info_u32
  go_enter Tryd.func42, Tryd.ntmps42
  go_wp2
  go_loopw [4] (fun i wr => ∃ (k : Nat) (av : Option Addr) (cv : Nat), k ≤ l.length ∧ i = .int .i64 k ∧ Row wr w.heap.size 24 [.int .i64 0, .slice none 0 0] ∧ Row wr (w.heap.size + 1) 24 [.int .i64 (l.length : Nat), .slice av k cv] ∧ Below w.heap.size w wr ∧ wr.ownsRow (w.heap.size + 1 + 1) 65 1 (.slice av k cv) k (wvals (inclUp l k))) (fun i _ => l.length - (intOf i).toNat)
  case atStart =>
    have r1 := Row.new w 24 [.int .i64 0, .slice none 0 0]
    have r2 := Row.new (w.alloc (.cells #[.int .i64 0, .slice none 0 0] 24)) 24 [.int .i64 (l.length : Nat), .slice none 0 0]
    simp only [World.size_alloc] at r2
    exact ⟨0, none, 0, Nat.zero_le _, rfl, r1.alloc _, r2, ((Below.refl _ _).alloc (Nat.le_refl _) _).alloc (by simp) _, World.ownsRow_nil ..⟩
  case round =>
    obtain ⟨k, av, cv, hk, rfl, r1, r2, hB, hown⟩ := hrel
    have hbsz := hB.size
    have l2 := r2.lt
    by_cases hlt : k < l.length
    · go_wp2
      go_loopw [5, 6] (fun x j wr => ∃ m : Nat, m ≤ l.length ∧ j = .int .i64 m ∧ x = .int .u32 (inclW l k m : Nat) ∧ Row wr w.heap.size 24 [.int .i64 0, .slice none 0 0] ∧ Row wr (w.heap.size + 1) 24 [.int .i64 (l.length : Nat), .slice av k cv] ∧ Below w.heap.size w wr ∧ wr.ownsRow (w.heap.size + 1 + 1) 65 1 (.slice av k cv) k (wvals (inclUp l k))) (fun _ j _ => l.length - (intOf j).toNat)
      case atStart => exact ⟨0, Nat.zero_le _, rfl, rfl, r1, r2, hB, hown⟩
      case round =>
        clear r1 r2 hB hown hbsz l2
        obtain ⟨m, hm, rfl, rfl, r1, r2, hB, hown⟩ := hrel
        have hbsz := hB.size
        by_cases hlm : m < l.length
        · obtain ⟨b, off, rfl, hb, hc⟩ := (hw.below (hB.mono hn₀)).at hlm
          have cK := hc k hlt
          have cM := hc m hlm
          have hor := bits_or32 (wd l k) (wd l m) (hf k) (hf m)
          have hbr := bit_raw (i := m) (by omega)
          have hor2 := bits_or32 (inclW l k m) (bitW m) (inclW_lt l k (by omega)) (bitW_lt (by omega))
          clear hc
          cases hs : subB (wd l k) (wd l m) with
          | true =>
            have he : (((orW (wd l k) (wd l m) : Nat) : Int) == ((wd l m : Nat) : Int)) = true := by rw [(subB_or (hf k)).2 hs]; simp
            have HY := hide (inclW_yes hs)
            clear hs
            go_wp2
            refine wp_region_still_lit (by kernel_rfl) (by kernel_rfl) ?_
            repeat (refine no_implicit_lambda% (wpStill_step ?_); intro K hK; go_simp; refine hK _ ?_; clear hK K)
            refine no_implicit_lambda% (wpStill_nil ?_)
            go_wp2
            exact ⟨⟨m + 1, by omega, by go_num, by rw [HY.out], r1, r2, hB.drew, ownsRow_below hown (Below.refl _ _).drew⟩, by simp [intOf]; omega⟩
          | false =>
            have he : (((orW (wd l k) (wd l m) : Nat) : Int) == ((wd l m : Nat) : Int)) = false := by
              rw [beq_eq_false_iff_ne]
              intro e
              rw [(subB_or (hf k)).1 (by omega)] at hs
              cases hs
            have HN := hide (inclW_no hs)
            clear hs
            go_wp2
            refine wp_region_still_lit (by kernel_rfl) (by kernel_rfl) ?_
            repeat (refine no_implicit_lambda% (wpStill_step ?_); intro K hK; go_simp; refine hK _ ?_; clear hK K)
            refine no_implicit_lambda% (wpStill_nil ?_)
            go_wp2
            exact ⟨⟨m + 1, by omega, by go_num, by rw [HN.out], r1, r2, hB.drew, ownsRow_below hown (Below.refl _ _).drew⟩, by simp [intOf]; omega⟩
        · obtain rfl : m = l.length := by omega
          have c20 := r2.cell (i := 0) rfl
          have c21 := r2.cell (i := 1) rfl
          have f21 := r2.frozen 1
          have l2 := r2.lt
          have hne2 := ownBlock_ge hown (b := w.heap.size + 1) (by omega)
          have hne1 := ownBlock_ge hown (b := w.heap.size) (by omega)
          have HU := hide (inclUp_succ l k)
          have hxl := inclW_lt l k (k := l.length) (by omega)
          generalize inclW l k l.length = x at *
          go_wp2_with (at_builtin; refine wpList_append_own _ rfl _ _ 22 rfl (w.heap.size + 1 + 1) 65 i0 (.int .u32 0) 1 4 Tryd.underlying22 hi hz0 hz1 hz2 rfl (by decide) _ _ _ rfl (hown.alloc _) ⟨wr.heap.size, 0, none⟩ 1 1 [.int .u32 (x : Nat)] rfl rfl (cell_one_new _ _ _) (fun u hu => by simp at hu; subst hu; rfl) (by unfold maxLen; omega) (by omega) (by simp; omega) ?_; intro v' w3 hown' hgrow3 _; obtain ⟨g', cap', rfl⟩ := ownsRow_succ hown'; have r2' := (r2.alloc (.cells #[.int .u32 (x : Nat)] 65)).kept hgrow3 hne2; have d20 := r2'.cell (i := 0) rfl; have d21 := r2'.cell (i := 1) rfl; have e21 := r2'.frozen 1)
          have r1' := (r1.alloc (.cells #[.int .u32 (x : Nat)] 65)).kept hgrow3 hne1
          have hB3 : Below w.heap.size w w3 := (hB.alloc hbsz (.cells #[.int .u32 (x : Nat)] 65)).grown hgrow3 (by simp; omega) fun j ej => by
            apply Nat.le_of_not_lt; intro hjl
            exact ownBlock_ge hown (b := j) (by omega) ej.symm
          have hx2 : wvals (inclUp l k) ++ [.int .u32 (x : Nat)] = wvals (inclUp l (k + 1)) := by rw [HU.out]; simp [wvals]
          have hown2 : w3.ownsRow (w.heap.size + 1 + 1) 65 1 (.slice (some ⟨g', 0, none⟩) (k + 1) cap') (k + 1) (wvals (inclUp l (k + 1))) := by rw [← hx2]; exact hown'
          exact ⟨⟨k + 1, some ⟨g', 0, none⟩, cap', by omega, by go_num, r1'.other (by omega) _ _, r2'.set 1 _, hB3.setCell (p := ⟨w.heap.size + 1, 1, none⟩) (by simp) _, ownsRow_setAt hown2 (by omega) _ _⟩, by simp [intOf]; omega⟩
    · obtain rfl : k = l.length := by omega
      have c10 := r1.cell (i := 0) rfl
      have c11 := r1.cell (i := 1) rfl
      have f10 := r1.frozen 0
      have f11 := r1.frozen 1
      have c20 := r2.cell (i := 0) rfl
      have c21 := r2.cell (i := 1) rfl
      have r1' := (r1.set 0 (.int .i64 (l.length : Nat))).set 1 (.slice av l.length cv)
      have e0 := r1'.cell (i := 0) (v := .int .i64 (l.length : Nat)) rfl
      have e1 := r1'.cell (i := 1) (v := .slice av l.length cv) rfl
      go_wp2
      refine bodyPost_ret (v := .agg #[.int .i64 (l.length : Nat), .slice av l.length cv]) (by simp [results, Tryd.results42, go_sem, e0, e1]) rfl ⟨.slice av l.length cv, rfl, ?_, ?_⟩
      · exact (hB.setCell (p := ⟨w.heap.size, 0, none⟩) (by simp) _).setCell (p := ⟨w.heap.size, 1, none⟩) (by simp) _
      · exact ownsRow_base (ownsRow_setAt (ownsRow_setAt hown (by omega) _ _) (by omega) _ _) (by omega)
end Go.Proofs.YtdeglbmoiofpoaaDoor
