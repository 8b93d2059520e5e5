/- The contract of the program's turned: the words of the order upside down. -/
import Derived.Test.YtjbfjdijgfhjfaaDoorTurPlain
namespace Go.Proofs.YtjbfjdijgfhjfaaDoor
open Go.RowKit Go.Shelf
attribute [local go_sem] Oper.semAt_some

set_option maxRecDepth 100000 in
set_option maxHeartbeats 2000000 in
theorem turned_any (a : Option Addr) (cap : Nat) (us : List Nat) (n₀ : Nat) (hf : Fit us) (hin : Inside us) (hl : us.length ≤ 16) (w : World) (hT : TabAt w) (hw : IsWords n₀ w a us) (hg : 0 < n₀) (hn₀ : n₀ ≤ w.heap.size) :
    Calls Tryd.prog 23 #[.slice a us.length cap] w fun e w' => ∃ ds, e = .returned (.slice (some ⟨w.heap.size, 0, none⟩) us.length us.length) ∧ Below w.heap.size w w' ∧ Row w' w.heap.size 50 (wvals ds) ∧ Tur us us.length [] ds := by
  have hfn := wide_fn
  have hdep := wide_depth
  have hmk := run_make_row' (P := Tryd.prog) 22 50 (.int .u32 0) 4 Tryd.underlying22 info_u32 rfl .i64 .i64 us.length (by omega) (by omega)
  refine (callsIn_wide (n := 6)).1 ?_
  refine callsIn_of_wp_marks Tryd.func23 rfl trivial ?_ rfl
  simp only [Tryd.ntmps23, List.size_toArray, List.length_cons, List.length_nil, Nat.reduceAdd, Nat.reduceSub, Array.replicate_succ, Array.replicate_zero, List.push_toArray, List.append_toArray, List.nil_append, List.cons_append]
  gi_wp2
  refine wpIn_loop (fun ac W => ∃ (k : Nat) (ms : List Deferred) (ds : List Nat) (u4 u5 u6 u13 u14 u15 u16 u17 u18 u19 u20 u21 u22 u23 u24 u25 u26 u27 u28 : Value), ac = { tmps := #[.slice a us.length cap, undef, .slice none 0 0, .pointer (some ⟨w.heap.size + 1, 0, none⟩), u4, u5, u6, .slice a us.length cap, .int .i64 us.length, .slice (some ⟨w.heap.size, 0, none⟩) us.length us.length, .slice a us.length cap, .int .i64 us.length, .int .i64 (k : Nat), u13, u14, u15, u16, u17, u18, u19, u20, u21, u22, u23, u24, u25, u26, u27, u28, undef], defers := ms } ∧ k ≤ us.length ∧ Tur us k [] ds ∧ Row W w.heap.size 50 (wvals ds) ∧ Boxed W (w.heap.size + 1) 22 (.slice (some ⟨w.heap.size, 0, none⟩) us.length us.length) ∧ Below w.heap.size w W ∧ Marks w.heap.size W W.heap.size ms) (fun ac _ => us.length - (intOf (ac.tmps.getD 12 undef)).toNat) ?start ?round
  case start =>
    have h1 := Row.new w 50 (wvals (List.replicate us.length 0))
    rw [← wvals_replicate] at h1
    have h2 := Boxed.new (w.alloc (.cells (madeCells #[Value.int .u32 0] us.length) 50)) 22 (.slice (some ⟨w.heap.size, 0, none⟩) us.length us.length)
    rw [World.size_alloc] at h2
    exact ⟨0, [], _, _, _, _, _, _, _, _, _, _, _, _, _, _, _, _, _, _, _, _, rfl, Nat.zero_le _, Tur.start us, h1.alloc _, h2, ((Below.refl _ _).alloc (Nat.le_refl _) _).alloc (by simp) _, trivial⟩
  case round =>
    clear hmk
    rintro _ W ⟨k, ms, ds, u4, u5, u6, u13, u14, u15, u16, u17, u18, u19, u20, u21, u22, u23, u24, u25, u26, u27, u28, rfl, hk, hTur, rD, bD, hB, hM⟩
    have cD := bD.cell
    have hsz := hB.size
    have hltD := bD.lt
    by_cases hlt : k < us.length
    · obtain ⟨b, off, rfl, hb, hc⟩ := (hw.below (hB.mono hn₀)).at hlt
      have hck := hc k hlt
      have hbW : b < W.heap.size := by omega
      have hfk := hf k
      clear hc
      gi_wp2_with (gi_at_call 24; refine (callsIn_wide.2 (bitsOf_any (wd us k) _)).mono ?_; rintro e w' ⟨rfl, rfl⟩)
      obtain ⟨W2, hW2⟩ : ∃ W2, (W.alloc (.cells #[.int .i64 (k : Nat)] 3)).alloc (.cells #[.int .u32 (wd us k : Nat)] 50) = W2 := ⟨_, rfl⟩
      rw [hW2]
      obtain ⟨bI, bX, hs2, hb2, hk2, hbx⟩ := two_boxes W _ _ _ _ hW2
      have rD2 : Row W2 w.heap.size 50 (wvals ds) := by rw [← hW2]; exact (rD.alloc _).alloc _
      clear hW2
      have hT2 : TabAt W2 := (hT.below hB (by omega)).below hb2 (by omega)
      refine wpIn_rangeFunc_ownF rfl (by omega) (gf := 41) (lb := #[.pointer (some ⟨W.heap.size + 1, 0, none⟩)]) rfl trivial (enters_of Tryd.func41 (by kernel_rfl) rfl)
        (bitsOf_stops 5 (W.heap.size + 1) w.heap.size _ hfk W2 (by omega) (by omega) bX.cell hT2 (by omega)) belowK_t (belowK_b (by omega)) (Below.refl _ _) (fun _ => rfl)
        (fun pre W' => ∃ ds, (Row W' w.heap.size 50 (wvals ds) ∧ (Boxed W' (w.heap.size + 1) 22 (.slice (some ⟨w.heap.size, 0, none⟩) us.length us.length) ∧ Boxed W' W.heap.size 3 (.int .i64 (k : Nat)))) ∧ ((Below w.heap.size w W' ∧ Marks w.heap.size W' W.heap.size ms) ∧ Tur us k (pre.map (·.1)) ds))
        (fun _ _ _ => False)
        (ownFrom_ex fun ds => OwnFrom.and (OwnFrom.and (Own.from (row_own _ _ _) _) (OwnFrom.and (Own.from (boxed_own _ _ _) _) (Own.from (boxed_own _ _ _) _))) (OwnFrom.and (OwnFrom.and (ownFrom_below (Nat.le_refl _) (by omega)) (marks_own (by omega) ms)) (ownFrom_pure _ _)))
        (fun _ _ _ _ _ hs _ _ => hs)
        ⟨ds, ⟨rD2, hbx _ _ _ bD, bI⟩, ⟨hB.trans (hb2.mono hsz), hM.others hk2⟩, hTur⟩
        (fun y => { tmps := #[.slice (some ⟨b, off, none⟩) us.length cap, undef, .slice none 0 0, .pointer (some ⟨w.heap.size + 1, 0, none⟩), .pointer (some ⟨W.heap.size, 0, none⟩), .int .u32 (wd us k : Nat), .int .i64 (y.1 : Nat), .slice (some ⟨b, off, none⟩) us.length cap, .int .i64 us.length, .slice (some ⟨w.heap.size, 0, none⟩) us.length us.length, .slice (some ⟨b, off, none⟩) us.length cap, .int .i64 us.length, .int .i64 (k : Nat), .bool true, .int .i64 (k : Nat), .pointer (some ⟨b, off + k, none⟩), .int .u32 (wd us k : Nat), .int .u32 (wd us k : Nat), .func (.func 41) #[] #[.pointer (some ⟨W.heap.size + 1, 0, none⟩)], .int .i64 (y.1 : Nat), u20, u21, u22, u23, u24, u25, u26, u27, u28, undef], defers := [] }) ?assign ?body ?done ?stop
      case assign =>
        intro l x W' K hK
        gi_wp2
        exact hK
      case body => 
        rintro l pre y W' ⟨ds', ⟨rD', bD', bI'⟩, ⟨hB', hM'⟩, hTur'⟩ _
        have hyn : y.1 < us.length := hin k hlt y.1 (hasB_lt hfk y.2) y.2
        have cD' := bD'.cell
        have cI' := bI'.cell
        have hyd : y.1 < ds'.length := by rw [hTur'.len]; exact hyn
        have cY := rD'.cell (wvals_at hyd)
        have fY := rD'.frozen y.1
        have hor := bits_or32 (wd ds' y.1) (bitW k) (hTur'.fit _) (bitW_lt (by omega))
        gi_wp2
        have hmx : Tryd.prog.follows .mixedOrders = true := by kernel_rfl
        first | gi_region_with_o (gi_at_call 40; refine (CallsIn.inRound l (callsIn_wide.2 (bit_any k (by omega) _))).mono ?_; rintro e w' ⟨rfl, rfl⟩) | fail
        all_goals
          exact ⟨(KeepsOthers.setCell _ _ _).trans (KeepsOthers.drew _), ((Below.refl _ W').setCell (p := ⟨w.heap.size, y.1, none⟩) (Nat.le_refl _) _).drew, ds'.set y.1 (orW (wd ds' y.1) (bitW k)),
            ⟨by rw [← wvals_set]; exact rD'.set y.1 _, boxed_otherAt bD' (by omega) _ _, boxed_otherAt bI' (by omega) _ _⟩,
            ⟨(hB'.setCell (p := ⟨w.heap.size, y.1, none⟩) (Nat.le_refl _) _).drew, (hM'.others (KeepsOthers.setCell _ _ _)).others (KeepsOthers.drew _)⟩,
            by rw [List.map_append]; exact hTur'.step hyn (by omega)⟩
      case done =>
        rintro D ys W' hD rfl ⟨ds', ⟨rD', bD', bI'⟩, ⟨hB', hM'⟩, hTur'⟩ hK
        have hDl : D < W'.heap.size := (Array.getElem?_eq_some_iff.1 hK).1
        rw [elemsS_val] at hTur'
        have hTn := hTur'.next (fun j => mem_elems (by omega) j)
        clear hTur' bI' bI bX
        gi_wp2
        exact ⟨⟨k + 1, { target := .collected D, args := #[] } :: ms, ds', _, _, _, _, _, _, _, _, _, _, _, _, _, _, _, _, _, _, _, rfl, by omega, hTn, rD', bD', hB', ⟨D, rfl, by omega, hDl, hK, hM'.mono (by omega)⟩⟩, by simp [intOf]; omega⟩
      case stop =>
        rintro D c pre W' _ _ h _
        exact h.elim
    · obtain rfl : k = us.length := by omega
      gi_wp2
      refine leaves_marks (OwnFrom.and (Own.from (row_own w.heap.size 50 (fun _ => wvals ds)) _) (ownFrom_below (Nat.le_refl _) (Nat.le_refl _))) (fun W' h => ?_) ms _ _ hM ⟨rD, hB⟩
      exact ⟨_, results_tmp rfl _ _ _, ds, rfl, h.2, h.1, hTur⟩
end Go.Proofs.YtjbfjdijgfhjfaaDoor
