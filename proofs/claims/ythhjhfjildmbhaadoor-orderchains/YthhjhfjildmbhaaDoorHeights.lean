/- The contract of the program's heights: how many others are in the longest chain that comes to each element. -/
import Derived.Test.YthhjhfjildmbhaaDoorHeightPlain
import Derived.Test.YthhjhfjildmbhaaDoorSorted
import Derived.Test.YthhjhfjildmbhaaDoorTailRound
import Derived.WalkKit
namespace Go.Proofs.YthhjhfjildmbhaaDoor
open Go.RowKit Go.Shelf
attribute [local go_sem] Oper.semAt_some

theorem ivals_set (us : List Nat) (i x : Nat) : (ivals us).set i (.int .i64 ((x : Nat) : Int)) = ivals (us.set i x) := by
  unfold ivals; rw [List.map_set]
theorem ivals_replicate (n : Nat) : (madeCells #[Value.int .i64 0] n) = (ivals (List.replicate n 0)).toArray := by
  unfold madeCells ivals
  apply Array.ext
  · simp
  · intro i h1 h2; simp [Nat.mod_one]
theorem set_same {l : List Nat} {i m : Nat} (h : wd l i = m) : l.set i m = l := by
  apply List.ext_getElem (by simp)
  intro j h1 h2
  rw [List.getElem_set]
  split
  · rename_i e; subst e; rw [← h]; unfold wd; rw [List.getD_eq_getElem?_getD, List.getElem?_eq_getElem h2]; rfl
  · rfl
theorem wd_big {l : List Nat} {i : Nat} (h : l.length ≤ i) : wd l i = 0 := by
  unfold wd; rw [List.getD_eq_getElem?_getD, List.getElem?_eq_none h]; rfl

set_option maxRecDepth 100000 in
set_option maxHeartbeats 1000000 in
theorem heights_any (a : Option Addr) (cap : Nat) (es : List Nat) (n₀ : Nat) (hf : Fit es) (hin : Inside es) (hl : es.length ≤ 16) (hA : Acy (aheadB es) es.length) (w : World) (hT : TabAt w) (hw : IsWords n₀ w a es) (hg : 0 < n₀) (hn₀ : n₀ ≤ w.heap.size) :
    Calls Tryd.prog 42 #[.slice a es.length cap] w fun e w' => ∃ hs, e = .returned (.slice (some ⟨w.heap.size, 0, none⟩) es.length es.length) ∧ Below w.heap.size w w' ∧ Row w' w.heap.size 3 (ivals hs) ∧ HtK (aheadB es) es.length es.length hs := by
  have hfn := wide_fn
  have hdep := wide_depth
  have hmk := run_make_row' (P := Tryd.prog) 39 3 (.int .i64 0) 8 Tryd.underlying39 info_int rfl .i64 .i64 es.length (by omega) (by omega)
  refine (callsIn_wide (n := 6)).1 ?_
  refine callsIn_of_wp_marks Tryd.func42 rfl trivial ?_ rfl
  simp only [Tryd.ntmps42, List.size_toArray, List.length_cons, List.length_nil, Nat.reduceAdd, Nat.reduceSub, Array.replicate_succ, Array.replicate_zero, List.push_toArray, List.append_toArray, List.nil_append, List.cons_append]
  obtain ⟨w2, hw2⟩ : ∃ w2, (w.alloc (.cells (madeCells #[Value.int .i64 0] es.length) 3)).alloc (.cells #[.slice (some ⟨w.heap.size, 0, none⟩) es.length es.length] 39) = w2 := ⟨_, rfl⟩
  have rH2 : Row w2 w.heap.size 3 (ivals (List.replicate es.length 0)) := by
    rw [← hw2, ivals_replicate]; exact (Row.new w 3 (ivals (List.replicate es.length 0))).alloc _
  have bH2 : Boxed w2 (w.heap.size + 1) 39 (.slice (some ⟨w.heap.size, 0, none⟩) es.length es.length) := by
    have h2 := Boxed.new (w.alloc (.cells (madeCells #[Value.int .i64 0] es.length) 3)) 39 (.slice (some ⟨w.heap.size, 0, none⟩) es.length es.length)
    rw [World.size_alloc, hw2] at h2
    exact h2
  have hs2 : w2.heap.size = w.heap.size + 2 := by rw [← hw2]; simp
  have hB2 : Below w.heap.size w w2 := by rw [← hw2]; exact ((Below.refl _ _).alloc (Nat.le_refl _) _).alloc (by simp) _
  have hT2 := hT.below hB2 (by omega)
  have hwW := hw.below (hB2.mono hn₀)
  have hcall := sorted_any a cap es n₀ hf hl hA w2 hT2 hwW hg (by omega)
  gi_wp2_with (gi_at_call 39; refine (callsIn_wide.2 hcall).mono ?_; rintro e w3 ⟨av, cv, rfl, hB3, hown3⟩)
  have hB3' : Below w.heap.size w w3 := hB2.trans (hB3.mono (by omega))
  have rH3 := row_below rH2 hB3 (by omega)
  have bH3 : Boxed w3 (w.heap.size + 1) 39 (.slice (some ⟨w.heap.size, 0, none⟩) es.length es.length) := (hB3.block _ (by omega)).trans bH2
  rw [hs2] at hown3
  clear hw2 hcall
  refine wpIn_loop (fun ac W => ∃ (k : Nat) (ms : List Deferred) (hs : List Nat) (u4 u5 u6 u14 u15 u16 u17 u18 u19 u20 u21 u22 u23 u24 u25 u26 u27 u28 u29 u30 u31 u32 u33 u34 u35 u36 : Value), ac = { tmps := #[.slice a es.length cap, undef, .slice none 0 0, .pointer (some ⟨w.heap.size + 1, 0, none⟩), u4, u5, u6, .slice a es.length cap, .int .i64 es.length, .slice (some ⟨w.heap.size, 0, none⟩) es.length es.length, .slice a es.length cap, .slice av es.length cv, .int .i64 es.length, .int .i64 (k : Nat), u14, u15, u16, u17, u18, u19, u20, u21, u22, u23, u24, u25, u26, u27, u28, u29, u30, u31, u32, u33, u34, u35, u36, undef], defers := ms } ∧ k ≤ es.length ∧ HtK (aheadB es) es.length k hs ∧ Row W w.heap.size 3 (ivals hs) ∧ Boxed W (w.heap.size + 1) 39 (.slice (some ⟨w.heap.size, 0, none⟩) es.length es.length) ∧ W.ownsRow (w.heap.size + 2) 3 1 (.slice av es.length cv) es.length (ivals (sortF (aheadB es) es.length es.length)) ∧ Below w.heap.size w W ∧ Marks w.heap.size W W.heap.size ms) (fun ac _ => es.length - (intOf (ac.tmps.getD 13 undef)).toNat) ?start ?round
  case start =>
    exact ⟨0, [], _, _, _, _, _, _, _, _, _, _, _, _, _, _, _, _, _, _, _, _, _, _, _, _, _, _, _, rfl, Nat.zero_le _, HtK.start _ _, rH3, bH3, hown3, hB3', trivial⟩
  case round =>
    clear hmk rH3 bH3 hown3 hB3' hB3 rH2 bH2 hB2 hT2 hwW hs2
    rintro _ W ⟨k, ms, hs, u4, u5, u6, u14, u15, u16, u17, u18, u19, u20, u21, u22, u23, u24, u25, u26, u27, u28, u29, u30, u31, u32, u33, u34, u35, u36, rfl, hk, hHt, rH, bH, hown, hB, hM⟩
    have hsz := hB.size
    have hltH := bH.lt
    by_cases hlt : k < es.length
    · obtain ⟨g1, g2, _⟩ := next_spec (hA (sortF (aheadB es) es.length k) (left_some (by rw [sortF_len]; omega)))
      obtain ⟨r1, r2⟩ := readyB_true.1 g2
      have hLk := sortF_at (aheadB es) es.length hlt
      have hnx := fun (pre : List Nat) (m : Nat) => HtK.next (pre := pre) (m := m) hA hlt hHt
      obtain ⟨b', off', rfl, hb', hc'⟩ := (ownsRow_ints hown).at (i := k) (by rw [sortF_len]; exact hlt)
      have cL := hc' k (by rw [sortF_len]; exact hlt)
      rw [hLk] at cL
      generalize nextF (aheadB es) es.length (sortF (aheadB es) es.length k) = i at *
      obtain ⟨b, off, rfl, hb, hc⟩ := (hw.below (hB.mono hn₀)).at g1
      have hci := hc i g1
      have hfk := hf i
      have hbW : b < W.heap.size := by omega
      clear hc hc' hLk
      gi_wp2_with (gi_at_call 37; refine (callsIn_wide.2 (bitsOf_any (wd es i) _)).mono ?_; rintro e w' ⟨rfl, rfl⟩)
      obtain ⟨W2, hW2⟩ : ∃ W2, (W.alloc (.cells #[.int .i64 (i : Nat)] 3)).alloc (.cells #[.int .u32 (wd es i : Nat)] 49) = W2 := ⟨_, rfl⟩
      rw [hW2]
      obtain ⟨bI, bX, hs2, hb2, hk2, hbx⟩ := two_boxes W _ _ _ _ hW2
      have rH2 : Row W2 w.heap.size 3 (ivals hs) := by rw [← hW2]; exact (rH.alloc _).alloc _
      have hown2 : W2.ownsRow (w.heap.size + 2) 3 1 (.slice (some ⟨b', off', none⟩) es.length cv) es.length (ivals (sortF (aheadB es) es.length es.length)) := by rw [← hW2]; exact (hown.alloc _).alloc _
      clear hW2
      have hT2 : TabAt W2 := (hT.below hB (by omega)).below hb2 (by omega)
      have hil : i < hs.length := by rw [hHt.len]; exact g1
      refine wpIn_rangeFunc_ownF rfl (by omega) (gf := 49) (lb := #[.pointer (some ⟨W.heap.size + 1, 0, none⟩)]) rfl trivial (enters_of Tryd.func49 (by kernel_rfl) rfl)
        (bitsOf_stops 5 (W.heap.size + 1) w.heap.size _ hfk W2 (by omega) (by omega) bX.cell hT2 (by omega)) belowK_t (belowK_b (by omega)) (Below.refl _ _) (fun _ => rfl)
        (fun pre W' => ∃ m, ((Row W' w.heap.size 3 (ivals (hs.set i m)) ∧ W'.ownsRow (w.heap.size + 2) 3 1 (.slice (some ⟨b', off', none⟩) es.length cv) es.length (ivals (sortF (aheadB es) es.length es.length))) ∧ (Boxed W' (w.heap.size + 1) 39 (.slice (some ⟨w.heap.size, 0, none⟩) es.length es.length) ∧ Boxed W' W.heap.size 3 (.int .i64 (i : Nat)))) ∧ ((Below w.heap.size w W' ∧ Marks w.heap.size W' W.heap.size ms) ∧ HtJ hs (pre.map (·.1)) m))
        (fun _ _ _ => False)
        (ownFrom_ex fun m => OwnFrom.and (OwnFrom.and (OwnFrom.and (Own.from (row_own _ _ _) _) (Own.from (ownsRow_own _ _ _ _ _ _) _)) (OwnFrom.and (Own.from (boxed_own _ _ _) _) (Own.from (boxed_own _ _ _) _))) (OwnFrom.and (OwnFrom.and (ownFrom_below (Nat.le_refl _) (by omega)) (marks_own (by omega) ms)) (ownFrom_pure _ _)))
        (fun _ _ _ _ _ hs _ _ => hs)
        ⟨0, ⟨⟨by rw [set_same (hHt.off i r1)]; exact rH2, hown2⟩, hbx _ _ _ bH, bI⟩, ⟨hB.trans (hb2.mono hsz), hM.others hk2⟩, HtJ.start hs⟩
        (fun y => { tmps := #[.slice (some ⟨b, off, none⟩) es.length cap, undef, .slice none 0 0, .pointer (some ⟨w.heap.size + 1, 0, none⟩), u4, .pointer (some ⟨W.heap.size, 0, none⟩), .int .i64 (y.1 : Nat), .slice (some ⟨b, off, none⟩) es.length cap, .int .i64 es.length, .slice (some ⟨w.heap.size, 0, none⟩) es.length es.length, .slice (some ⟨b, off, none⟩) es.length cap, .slice (some ⟨b', off', none⟩) es.length cv, .int .i64 es.length, .int .i64 (k : Nat), .bool true, .pointer (some ⟨b', off' + k, none⟩), .int .i64 (i : Nat), .slice (some ⟨b, off, none⟩) es.length cap, .int .i64 (i : Nat), .pointer (some ⟨b, off + i, none⟩), .int .u32 (wd es i : Nat), .func (.func 49) #[] #[.pointer (some ⟨W.heap.size + 1, 0, none⟩)], .int .i64 (y.1 : Nat), u23, u24, u25, u26, u27, u28, u29, u30, u31, u32, u33, u34, u35, u36, undef], defers := [] }) ?assign ?body ?done ?stop
      case assign =>
        intro l x W' K hK
        gi_wp2
        exact hK
      case body =>
        rintro l pre y W' ⟨m, ⟨⟨rH', hown'⟩, bH', bI'⟩, ⟨hB', hM'⟩, hJ⟩ _
        have hyn : y.1 < es.length := hin i g1 y.1 (hasB_lt hfk y.2) y.2
        have hyk : y.1 ∈ sortF (aheadB es) es.length k := r2 y.1 hyn y.2
        have hiy : ¬ i = y.1 := fun e => r1 (by rw [e]; exact hyk)
        have cH' := bH'.cell
        have cI' := bI'.cell
        have cM := rH'.cell (i := i) (ivals_at (by rw [List.length_set]; exact hil))
        have cY := rH'.cell (i := y.1) (ivals_at (by rw [List.length_set, hHt.len]; exact hyn))
        rw [wd_set hil, if_pos rfl] at cM
        rw [wd_set hil, if_neg hiy] at cY
        have fY := rH'.frozen i
        have hmk' := hJ.small hHt.small
        have hyk' := hHt.small y.1
        gi_wp2
        have hmx : Tryd.prog.follows .mixedOrders = true := by kernel_rfl
        refine region_tailR l _ (List.take 12 _) (List.drop 12 _) (List.take_append_drop 12 _) (by kernel_rfl) hmx (by kernel_rfl) ?_
        simp only [List.take_succ_cons, List.take_zero, List.drop_succ_cons, List.drop_zero]
        repeat still_step
        have hwr : IntKind.i64.wrap ((wd hs y.1 : Nat) + 1) = ((wd hs y.1 + 1 : Nat) : Int) := by
          rw [IntWalk.i64_in _ (by omega)]; omega
        have hmax : (if ((m : Nat) : Int) < IntKind.i64.wrap ((wd hs y.1 : Nat) + 1) then IntKind.i64.wrap ((wd hs y.1 : Nat) + 1) else ((m : Nat) : Int)) = ((max m (wd hs y.1 + 1) : Nat) : Int) := by
          rw [hwr]; split <;> omega
        rw [hmax]
        clear hwr hmax
        refine wpStill_nil ?_
        show wpList _ _ _ _ _ _
        go_wp2
        have rH2 : Row (W'.setCell ⟨w.heap.size, i, none⟩ (.int .i64 ((max m (wd hs y.1 + 1) : Nat) : Int))).drew w.heap.size 3 (ivals (hs.set i (max m (wd hs y.1 + 1)))) := by
          have := rH'.set i (.int .i64 ((max m (wd hs y.1 + 1) : Nat) : Int))
          rw [ivals_set, List.set_set] at this
          exact this
        have hown2 := ownsRow_setAt hown' (b := w.heap.size) (by omega) i (.int .i64 ((max m (wd hs y.1 + 1) : Nat) : Int))
        exact ⟨rfl, (KeepsOthers.setCell _ _ _).trans (KeepsOthers.drew _), ((Below.refl _ W').setCell (p := ⟨w.heap.size, i, none⟩) (Nat.le_refl _) _).drew, max m (wd hs y.1 + 1),
            ⟨⟨rH2, hown2⟩, boxed_otherAt bH' (by omega) _ _, boxed_otherAt bI' (by omega) _ _⟩,
            ⟨(hB'.setCell (p := ⟨w.heap.size, i, none⟩) (Nat.le_refl _) _).drew, (hM'.others (KeepsOthers.setCell _ _ _)).others (KeepsOthers.drew _)⟩,
            by rw [List.map_append]; exact hJ.step⟩
      case done =>
        rintro D ys W' hD rfl ⟨m, ⟨⟨rH', hown'⟩, bH', bI'⟩, ⟨hB', hM'⟩, hJ⟩ hK
        have hDl : D < W'.heap.size := (Array.getElem?_eq_some_iff.1 hK).1
        rw [elemsS_val] at hJ
        have hn := hnx _ m hJ (fun z => ⟨fun hz => by
            have hz' := (mem_elems (by omega) z).1 hz
            exact ⟨hin i g1 z (hasB_lt hfk hz') hz', hz'⟩, fun hz => (mem_elems (by omega) z).2 hz.2⟩)
        clear hnx hJ bI' bI bX
        gi_wp2
        exact ⟨⟨k + 1, { target := .collected D, args := #[] } :: ms, _, _, _, _, _, _, _, _, _, _, _, _, _, _, _, _, _, _, _, _, _, _, _, _, _, _, _, rfl, by omega, hn, rH', bH', hown', hB', ⟨D, rfl, by omega, hDl, hK, hM'.mono (by omega)⟩⟩, by simp [intOf]; omega⟩
      case stop =>
        rintro D c pre W' _ _ h _
        exact h.elim
    · obtain rfl : k = es.length := by omega
      have cH := bH.cell
      gi_wp2
      refine leaves_marks (OwnFrom.and (Own.from (row_own w.heap.size 3 (fun _ => ivals hs)) _) (ownFrom_below (Nat.le_refl _) (Nat.le_refl _))) (fun W' h => ?_) ms _ _ hM ⟨rH, hB⟩
      exact ⟨_, results_tmp rfl _ _ _, hs, rfl, h.2, h.1, hHt⟩
end Go.Proofs.YthhjhfjildmbhaaDoor
