/- The contract of watershedkeep's part: the order of some elements of an order. -/
import Derived.Test.YtdomcjfgmnpbmaaDoorPartPlain
import Derived.Test.YtdomcjfgmnpbmaaDoorKeepBelow
import Derived.Test.YtdomcjfgmnpbmaaDoorIntVals
import Derived.Test.YtdomcjfgmnpbmaaDoorOwns
import Derived.Laws.AppendOwn
namespace Go.Proofs.YtdomcjfgmnpbmaaDoor
open Go.RowKit Go.Shelf

set_option maxRecDepth 100000 in
set_option maxHeartbeats 2000000 in
theorem part_any (n : Nat) (a : Option Addr) (cap : Nat) (us : List Nat) (al : Option Addr) (cl : Nat) (l : List Nat) (n₀ : Nat) (hf : Fit us) (hlt : ∀ x ∈ l, x < us.length) (hu : us.length ≤ 16) (hl : l.length ≤ 16) (w : World) (hw : IsWords n₀ w a us) (hwl : IsInts w.heap.size w al l) (hn₀ : n₀ ≤ w.heap.size) :
    Calls Tryd.prog 26 #[.agg #[.int .i64 (n : Nat), .slice a us.length cap], .slice al l.length cl] w fun e w' => ∃ v, e = .returned (.agg #[.int .i64 (l.length : Nat), v]) ∧ Below w.heap.size w w' ∧ w'.ownsRow w.heap.size 53 1 v l.length (wvals (partL us l)) := by
  obtain ⟨i0, hi, hz0, hz1, hz2⟩ := info_parts info_u32
  go_enter Tryd.func26, Tryd.ntmps26
  go_wp2
  go_loopw [16] (fun i wr => ∃ (k : Nat) (av : Option Addr) (cv : Nat), k ≤ l.length ∧ i = .int .i64 k ∧ Row wr w.heap.size 24 [.int .i64 (n : Nat), .slice a us.length cap] ∧ Row wr (w.heap.size + 1) 24 [.int .i64 0, .slice none 0 0] ∧ Row wr (w.heap.size + 1 + 1) 24 [.int .i64 (l.length : Nat), .slice av k cv] ∧ Below w.heap.size w wr ∧ wr.ownsRow (w.heap.size + 1 + 1 + 1) 53 1 (.slice av k cv) k (wvals (partTo us l k))) (fun i _ => l.length - (intOf i).toNat)
  case atStart =>
    have r0 := Row.new w 24 [.int .i64 (n : Nat), .slice a us.length cap]
    have r1 := Row.new (w.alloc (.cells #[.int .i64 (n : Nat), .slice a us.length cap] 24)) 24 [.int .i64 0, .slice none 0 0]
    have r2 := Row.new ((w.alloc (.cells #[.int .i64 (n : Nat), .slice a us.length cap] 24)).alloc (.cells #[.int .i64 0, .slice none 0 0] 24)) 24 [.int .i64 (l.length : Nat), .slice none 0 0]
    simp only [World.size_alloc] at r1 r2
    exact ⟨0, none, 0, Nat.zero_le _, rfl, (r0.alloc _).alloc _, r1.alloc _, r2, (((Below.refl _ _).alloc (Nat.le_refl _) _).alloc (by simp) _).alloc (by simp; omega) _, World.ownsRow_nil ..⟩
  case round =>
    obtain ⟨k, av, cv, hk, rfl, r0, r1, r2, hB, hown⟩ := hrel
    have hbsz := hB.size
    have l2 := r2.lt
    by_cases hltk : k < l.length
    · obtain ⟨b, off, rfl, hb, hc⟩ := (hwl.below hB).at hltk
      have cK := hc k hltk
      have hxu := hlt _ (wd_mem hltk)
      have HX := hide (partTo_succ (us := us) hltk)
      clear hc
      generalize wd l k = x at *
      go_wp2
      go_loopw [8, 22] (fun y j wr => ∃ m : Nat, m ≤ l.length ∧ j = .int .i64 m ∧ y = .int .u32 (partW us l x m : Nat) ∧ Row wr w.heap.size 24 [.int .i64 (n : Nat), .slice a us.length cap] ∧ Row wr (w.heap.size + 1) 24 [.int .i64 0, .slice none 0 0] ∧ Row wr (w.heap.size + 1 + 1) 24 [.int .i64 (l.length : Nat), .slice av k cv] ∧ Below w.heap.size w wr ∧ wr.ownsRow (w.heap.size + 1 + 1 + 1) 53 1 (.slice av k cv) k (wvals (partTo us l k))) (fun _ j _ => l.length - (intOf j).toNat)
      case atStart => exact ⟨0, Nat.zero_le _, rfl, rfl, r0, r1, r2, hB, hown⟩
      case round =>
        clear r0 r1 r2 hB hown hbsz l2 cK
        obtain ⟨m, hm, rfl, rfl, r0, r1, r2, hB, hown⟩ := hrel
        have hbsz := hB.size
        have l2 := r2.lt
        by_cases hlm : m < l.length
        · obtain ⟨b2, off2, e2, _, hc⟩ := (hwl.below hB).at hlm
          cases e2
          have cM := hc m hlm
          have hyu := hlt _ (wd_mem hlm)
          have hbel := kbelow_any (n : Nat) a cap us x (wd l m) n₀ hf hxu (by omega) wr (hw.below (hB.mono hn₀)) (by omega)
          have hbr := bit_raw (i := m) (by omega)
          have hor := bits_or32 (partW us l x m) (bitW m) (partW_lt us l x (by omega)) (bitW_lt (by omega))
          have c0 := r0.cell (i := 0) rfl
          have c1 := r0.cell (i := 1) rfl
          clear hc
          cases hs : hasB (wd us x) (wd l m) with
          | true =>
            rw [hs] at hbel
            have HY := hide (partW_yes hs)
            clear hs
            go_wp2_with (go_at_call 29; refine hbel.mono ?_; rintro e w1 ⟨rfl, hb1⟩)
            exact ⟨⟨m + 1, by omega, by go_num, by rw [HY.out], r0.below hb1 r0.lt, r1.below hb1 r1.lt, r2.below hb1 l2, hB.trans (hb1.mono hB.size), ownsRow_below hown hb1⟩, by simp [intOf]; omega⟩
          | false =>
            rw [hs] at hbel
            have HN := hide (partW_no hs)
            clear hs
            go_wp2_with (go_at_call 29; refine hbel.mono ?_; rintro e w1 ⟨rfl, hb1⟩)
            exact ⟨⟨m + 1, by omega, by go_num, by rw [HN.out], r0.below hb1 r0.lt, r1.below hb1 r1.lt, r2.below hb1 l2, hB.trans (hb1.mono hB.size), ownsRow_below hown hb1⟩, by simp [intOf]; omega⟩
        · obtain rfl : m = l.length := by omega
          have c20 := r2.cell (i := 0) rfl
          have c21 := r2.cell (i := 1) rfl
          have f21 := r2.frozen 1
          have hne2 := ownBlock_ge hown (b := w.heap.size + 1 + 1) (by omega)
          have hne1 := ownBlock_ge hown (b := w.heap.size + 1) (by omega)
          have hne0 := ownBlock_ge hown (b := w.heap.size) (by omega)
          have hxl := partW_lt us l x (k := l.length) (by omega)
          generalize partW us l x l.length = z at *
          go_wp2_with (at_builtin; refine wpList_append_own _ rfl _ _ 22 rfl (w.heap.size + 1 + 1 + 1) 53 i0 (.int .u32 0) 1 4 Tryd.underlying22 hi hz0 hz1 hz2 rfl (by decide) _ _ _ rfl (hown.alloc _) ⟨wr.heap.size, 0, none⟩ 1 1 [.int .u32 (z : Nat)] rfl rfl (cell_one_new _ _ _) (fun u hu => by simp at hu; subst hu; rfl) (by unfold maxLen; omega) (by omega) (by simp; omega) ?_; intro v' w3 hown' hgrow3 _; obtain ⟨g', cap', rfl⟩ := ownsRow_succ hown'; have r2' := (r2.alloc (.cells #[.int .u32 (z : Nat)] 53)).kept hgrow3 hne2; have d20 := r2'.cell (i := 0) rfl; have d21 := r2'.cell (i := 1) rfl; have e21 := r2'.frozen 1)
          have r0' := (r0.alloc (.cells #[.int .u32 (z : Nat)] 53)).kept hgrow3 hne0
          have r1' := (r1.alloc (.cells #[.int .u32 (z : Nat)] 53)).kept hgrow3 hne1
          have hB3 : Below w.heap.size w w3 := (hB.alloc hbsz (.cells #[.int .u32 (z : Nat)] 53)).grown hgrow3 (by simp; omega) fun j ej => by
            apply Nat.le_of_not_lt; intro hjl
            exact ownBlock_ge hown (b := j) (by omega) ej.symm
          have hx2 : wvals (partTo us l k) ++ [.int .u32 (z : Nat)] = wvals (partTo us l (k + 1)) := by rw [HX.out]; simp [wvals]
          have hown2 : w3.ownsRow (w.heap.size + 1 + 1 + 1) 53 1 (.slice (some ⟨g', 0, none⟩) (k + 1) cap') (k + 1) (wvals (partTo us l (k + 1))) := by rw [← hx2]; exact hown'
          exact ⟨⟨k + 1, some ⟨g', 0, none⟩, cap', by omega, by go_num, r0'.other (by omega) _ _, r1'.other (by omega) _ _, r2'.set 1 _, hB3.setCell (p := ⟨w.heap.size + 1 + 1, 1, none⟩) (by simp; omega) _, ownsRow_setAt hown2 (by omega) _ _⟩, by simp [intOf]; omega⟩
    · obtain rfl : k = l.length := by omega
      rw [partTo_all] at hown
      have c10 := r1.cell (i := 0) rfl
      have c11 := r1.cell (i := 1) rfl
      have f10 := r1.frozen 0
      have f11 := r1.frozen 1
      have c20 := r2.cell (i := 0) rfl
      have c21 := r2.cell (i := 1) rfl
      have r1' := (r1.set 0 (.int .i64 (l.length : Nat))).set 1 (.slice av l.length cv)
      have e0 := r1'.cell (i := 0) (v := .int .i64 (l.length : Nat)) rfl
      have e1 := r1'.cell (i := 1) (v := .slice av l.length cv) rfl
      go_wp2
      refine bodyPost_ret (v := .agg #[.int .i64 (l.length : Nat), .slice av l.length cv]) (by simp [results, Tryd.results26, go_sem, e0, e1]) rfl ⟨.slice av l.length cv, rfl, ?_, ?_⟩
      · exact (hB.setCell (p := ⟨w.heap.size + 1, 0, none⟩) (by simp) _).setCell (p := ⟨w.heap.size + 1, 1, none⟩) (by simp) _
      · exact ownsRow_base (ownsRow_setAt (ownsRow_setAt hown (by omega) _ _) (by omega) _ _) (by omega)
end Go.Proofs.YtdomcjfgmnpbmaaDoor
