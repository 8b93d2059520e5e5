/- The contract of the program's mayBe: an order may be. -/
import Derived.Test.YtjbfjdijgfhjfaaDoorRefCheck
import Derived.Test.YtjbfjdijgfhjfaaDoorQuietRound
namespace Go.Proofs.YtjbfjdijgfhjfaaDoor
open Go.RowKit Go.Shelf
attribute [local go_sem] Oper.semAt_some

set_option maxRecDepth 100000 in
set_option maxHeartbeats 2000000 in
theorem mayBe_any (a : Option Addr) (cap : Nat) (us : List Nat) (n₀ : Nat) (hf : Fit us) (hin : Inside us) (hl : us.length ≤ 16) (w : World) (hT : TabAt w) (hw : IsWords n₀ w a us) (hg : 0 < n₀) (hn₀ : n₀ ≤ w.heap.size) :
    Calls Tryd.prog 39 #[.slice a us.length cap] w fun e w' => e = .returned (.bool (isOrdB us)) ∧ Below w.heap.size w w' := by
  have hfn := wide_fn
  have hdep := wide_depth
  refine (callsIn_wide (n := 6)).1 ?_
  refine callsIn_of_wp_marks Tryd.func39 rfl trivial ?_ rfl
  simp only [Tryd.ntmps39, List.size_toArray, List.length_cons, List.length_nil, Nat.reduceAdd, Nat.reduceSub, Array.replicate_succ, Array.replicate_zero, List.push_toArray, List.append_toArray, List.nil_append, List.cons_append]
  gi_wp2
  refine wpIn_loop (fun ac W => ∃ (k : Nat) (ds : List Deferred) (u3 u4 u5 u9 u10 u11 u12 u13 u14 u15 u16 u17 u18 u19 u20 u21 u22 u23 u24 u25 u26 u27 u28 u29 u30 u31 u32 u33 u34 u35 u36 u37 u38 : Value), ac = { tmps := #[.slice a us.length cap, .pointer (some ⟨w.heap.size, 0, none⟩), .pointer (some ⟨w.heap.size + 1, 0, none⟩), u3, u4, u5, .slice a us.length cap, .int .i64 us.length, .int .i64 (k : Nat), u9, u10, u11, u12, u13, u14, u15, u16, u17, u18, u19, u20, u21, u22, u23, u24, u25, u26, u27, u28, u29, u30, u31, u32, u33, u34, u35, u36, u37, u38], defers := ds } ∧ k ≤ us.length ∧ (∀ i, i < k → goodRow us i) ∧ Boxed W w.heap.size 22 (.slice a us.length cap) ∧ Boxed W (w.heap.size + 1) 4 (.bool false) ∧ Below w.heap.size w W ∧ Marks w.heap.size W W.heap.size ds) (fun ac _ => us.length - (intOf (ac.tmps.getD 8 undef)).toNat) ?start ?round
  case start =>
    exact ⟨0, [], _, _, _, _, _, _, _, _, _, _, _, _, _, _, _, _, _, _, _, _, _, _, _, _, _, _, _, _, _, _, _, _, _, rfl, Nat.zero_le _, fun i h => by omega, (Boxed.new w _ _).alloc _, by have := Boxed.new (w.alloc (.cells #[Value.slice a us.length cap] 22)) 4 (.bool false); simpa using this, ((Below.refl _ _).alloc (Nat.le_refl _) _).alloc (by simp) _, trivial⟩
  case round =>
    rintro _ W ⟨k, ds, u3, u4, u5, u9, u10, u11, u12, u13, u14, u15, u16, u17, u18, u19, u20, u21, u22, u23, u24, u25, u26, u27, u28, u29, u30, u31, u32, u33, u34, u35, u36, u37, u38, rfl, hk, hrows, bU, bR, hB, hM⟩
    have cU := bU.cell
    have cR := bR.cell
    have fR := bR.frozen
    have hsz := hB.size
    have hltU := bU.lt
    have hltR := bR.lt
    by_cases hlt : k < us.length
    · obtain ⟨b, off, rfl, hb, hc⟩ := (hw.below (hB.mono hn₀)).at hlt
      have hck := hc k hlt
      have hbW : b < W.heap.size := by omega
      have hfk := hf k
      clear hc
      have hhas := has_any (wd us k) k (hf k) (by omega)
      cases hh : hasB (wd us k) k with
      | false =>
        simp only [hh] at hhas
        have Hord := hide (isOrdB_false.2 (show ¬ IsOrd us from fun ho => by rw [(ho k hlt k hlt).1.1 rfl] at hh; cases hh))
        clear hh
        gi_wp2_with (gi_at_call 54; refine (callsIn_wide.2 (hhas _)).mono ?_; rintro e w' ⟨rfl, rfl⟩)
        refine leaves_marks (OwnFrom.and (Own.from (boxed_own (w.heap.size + 1) 4 (fun _ => .bool (isOrdB us))) _) (ownFrom_below (Nat.le_refl _) (Nat.le_refl _))) (fun W' h => ?_) ds _ _ (((hM.others (KeepsOthers.setCell _ _ _)).others (KeepsOthers.alloc _ _)).others (KeepsOthers.alloc _ _)) ⟨by rw [Hord.out]; exact ((bR.set _).alloc _).alloc _, ((hB.setCell (p := ⟨w.heap.size + 1, 0, none⟩) (by simp) _).alloc (by simp; omega) _).alloc (by simp; omega) _⟩
        have c2 := h.1.cell
        exact ⟨.bool (isOrdB us), by simp [results, Tryd.results39, go_sem, c2], rfl, h.2⟩
      | true =>
        simp only [hh] at hhas
        have Hh := hide hh; clear hh
        gi_wp2_with (gi_at_call 54; refine (callsIn_wide.2 (hhas _)).mono ?_; rintro e w' ⟨rfl, rfl⟩)
        have hbit := bits_andN32 (wd us k) (bitW k) (hf k) (bitW_lt (by omega))
        have hmx : Tryd.prog.follows .mixedOrders = true := by kernel_rfl
        first | gi_region_with_o (first | (gi_at_call 40; refine (callsIn_wide.2 (bit_any k (by omega) _)).mono ?_; rintro e w' ⟨rfl, rfl⟩) | (gi_at_call 24; refine (callsIn_wide.2 (bitsOf_any (andN (wd us k) (bitW k)) _)).mono ?_; rintro e w' ⟨rfl, rfl⟩)) | fail
        all_goals gi_wp2
        all_goals
          obtain ⟨W2, hW2⟩ : ∃ W2, (((W.alloc (.cells #[.int .i64 (k : Nat)] 3)).alloc (.cells #[.int .u32 (wd us k : Nat)] 50)).alloc (.cells #[.int .u32 (andN (wd us k) (bitW k) : Nat)] 50)).drew = W2 := ⟨_, rfl⟩
          rw [hW2]
          obtain ⟨bI, bW, bX, hs2, hb2, hk2, hbx⟩ := three_boxes W _ _ _ _ _ _ hW2
          clear hW2
          have hT2 : TabAt W2 := (hT.below hB (by omega)).below hb2 (by omega)
          have hx4 : andN (wd us k) (bitW k) < 4294967296 := andN_lt (hf k)
          refine wpIn_rangeFunc_ownF rfl (by omega) (gf := 41) (lb := #[.pointer (some ⟨W.heap.size + 1 + 1, 0, none⟩)]) rfl trivial (enters_of Tryd.func41 (by kernel_rfl) rfl)
            (bitsOf_stops 5 (W.heap.size + 1 + 1) w.heap.size _ hx4 W2 (by omega) (by omega) bX.cell hT2 (by omega)) belowK_t (belowK_b (by omega)) (Below.refl _ _) (fun _ => rfl)
            (fun pre W' => ((Boxed W' w.heap.size 22 (.slice (some ⟨b, off, none⟩) us.length cap) ∧ Boxed W' (w.heap.size + 1) 4 (.bool false)) ∧ (Boxed W' W.heap.size 3 (.int .i64 (k : Nat)) ∧ Boxed W' (W.heap.size + 1) 50 (.int .u32 (wd us k : Nat)))) ∧ ((Below w.heap.size w W' ∧ Marks w.heap.size W' W.heap.size ds) ∧ ∀ y ∈ pre, hasB (wd us y.1) k = false ∧ andN (wd us y.1) (wd us k) = 0))
            (fun c _ W' => (Boxed W' (w.heap.size + 1) 4 (.bool false) ∧ (Below w.heap.size w W' ∧ Marks w.heap.size W' W.heap.size ds)) ∧ (c = .ret ∧ isOrdB us = false))
            (OwnFrom.and (OwnFrom.and (OwnFrom.and (Own.from (boxed_own _ _ _) _) (Own.from (boxed_own _ _ _) _)) (OwnFrom.and (Own.from (boxed_own _ _ _) _) (Own.from (boxed_own _ _ _) _))) (OwnFrom.and (OwnFrom.and (ownFrom_below (Nat.le_refl _) (by omega)) (marks_own (by omega) ds)) (ownFrom_pure _ _)))
            (fun c => OwnFrom.and (OwnFrom.and (Own.from (boxed_own _ _ _) _) (OwnFrom.and (ownFrom_below (Nat.le_refl _) (by omega)) (marks_own (by omega) ds))) (ownFrom_pure _ _))
            ⟨⟨⟨hbx _ _ _ bU, hbx _ _ _ bR⟩, bI, bW⟩, ⟨hB.trans (hb2.mono hsz), hM.others hk2⟩, by simp⟩
            (fun y => { tmps := #[.slice (some ⟨b, off, none⟩) us.length cap, .pointer (some ⟨w.heap.size, 0, none⟩), .pointer (some ⟨w.heap.size + 1, 0, none⟩), .pointer (some ⟨W.heap.size, 0, none⟩), .pointer (some ⟨W.heap.size + 1, 0, none⟩), .int .i64 (y.1 : Nat), .slice (some ⟨b, off, none⟩) us.length cap, .int .i64 us.length, .int .i64 (k : Nat), .bool true, .int .i64 (k : Nat), .pointer (some ⟨b, off + k, none⟩), .int .u32 (wd us k : Nat), .int .u32 (wd us k : Nat), .int .i64 (k : Nat), .bool true, .bool false, .int .u32 (wd us k : Nat), .int .i64 (k : Nat), .int .u32 (bitW k : Nat), .int .u32 (andN (wd us k) (bitW k) : Nat), .func (.func 41) #[] #[.pointer (some ⟨W.heap.size + 1 + 1, 0, none⟩)], .int .i64 (y.1 : Nat), u23, u24, u25, u26, u27, u28, u29, u30, u31, u32, u33, u34, u35, u36, u37, u38], defers := [] }) ?assign ?body ?done ?stop
          case assign =>
            intro l x W' K hK
            gi_wp2
            exact hK
          case body =>
            rintro l pre y W' ⟨⟨⟨bU', bR'⟩, bI', bW'⟩, ⟨hB', hM'⟩, hpre⟩ _
            have hy := y.2
            rw [hasB_andN (hf k), hasB_bitW] at hy
            have hyn : y.1 < us.length := hin k hlt y.1 (by have := hasB_lt hx4 y.2; omega) (by simp at hy; exact hy.1)
            have cU' := bU'.cell
            have cR' := bR'.cell
            have fR' := bR'.frozen
            have cI' := bI'.cell
            have cW' := bW'.cell
            obtain ⟨_, cY⟩ := (hw.below (hB'.mono hn₀)).cell hyn
            have hsY := hf y.1
            have hh := has_any (wd us y.1) k hsY (by omega)
            clear hy hhas hbit
            cases h1 : hasB (wd us y.1) k with
            | true =>
              simp only [h1] at hh
              have Hbad := hide (show ¬ goodRow us k from fun hg => by have := (((row_iff hf hin hlt).1 hg).2 y.1 y.2).1; rw [this] at h1; cases h1)
              clear h1
              gi_wp2
              refine region_quietR l rfl (by kernel_rfl) (by kernel_rfl) (by kernel_rfl) ?_
              repeat (gi_big_quiet_step ((gi_at_call 54; exact CallsIn.quiet_of_same (callsIn_wide.2 (hh _)))))
              refine wpQuietIn_nil ?_
              intro _ hw'
              obtain ⟨nq, hw''⟩ := hw'
              subst hw''
              gi_wp2
              exact ⟨(keeps_drewN _ _).trans (KeepsOthers.setCell _ _ _), ⟨(show Boxed (W'.drewN nq) _ _ _ from bR').set _, (below_drewN hB' nq).setCell (p := ⟨w.heap.size + 1, 0, none⟩) (by simp) _, (hM'.others (keeps_drewN _ nq)).others (KeepsOthers.setCell _ _ _)⟩, rfl, isOrdB_false.2 fun ho => Hbad.out (ho k hlt)⟩
            | false =>
              simp only [h1] at hh
              have hbits := bits_andN32 (wd us y.1) (wd us k) (hf _) (hf _)
              have H1 := hide h1; clear h1
              by_cases hz : andN (wd us y.1) (wd us k) = 0
              · rw [hz] at hbits
                have Hz := hide hz; clear hz
                gi_wp2
                refine region_quietR l rfl (by kernel_rfl) (by kernel_rfl) (by kernel_rfl) ?_
                repeat (gi_big_quiet_step ((gi_at_call 54; exact CallsIn.quiet_of_same (callsIn_wide.2 (hh _)))))
                refine wpQuietIn_nil ?_
                intro _ hw'
                obtain ⟨nq, hw''⟩ := hw'
                subst hw''
                gi_wp2
                exact ⟨keeps_drewN _ _, below_drewN (Below.refl _ _) _, ⟨⟨bU', bR'⟩, bI', bW'⟩, ⟨below_drewN hB' nq, hM'.others (keeps_drewN _ nq)⟩, fun z hz' => (List.mem_append.1 hz').elim (hpre z) (fun e => by simp at e; subst e; exact ⟨H1.out, Hz.out⟩)⟩
              · have hne : (((andN (wd us y.1) (wd us k) : Nat) : Int) != 0) = true := by rw [bne_iff_ne]; omega
                have Hbad := hide (show ¬ goodRow us k from fun hg => hz (((row_iff hf hin hlt).1 hg).2 y.1 y.2).2)
                clear hz
                gi_wp2
                refine region_quietR l rfl (by kernel_rfl) (by kernel_rfl) (by kernel_rfl) ?_
                repeat (gi_big_quiet_step ((gi_at_call 54; exact CallsIn.quiet_of_same (callsIn_wide.2 (hh _)))))
                refine wpQuietIn_nil ?_
                intro _ hw'
                obtain ⟨nq, hw''⟩ := hw'
                subst hw''
                gi_wp2
                exact ⟨(keeps_drewN _ _).trans (KeepsOthers.setCell _ _ _), ⟨(show Boxed (W'.drewN nq) _ _ _ from bR').set _, (below_drewN hB' nq).setCell (p := ⟨w.heap.size + 1, 0, none⟩) (by simp) _, (hM'.others (keeps_drewN _ nq)).others (KeepsOthers.setCell _ _ _)⟩, rfl, isOrdB_false.2 fun ho => Hbad.out (ho k hlt)⟩
          case done =>
            rintro D ys W' hD rfl ⟨⟨⟨bU', bR'⟩, bI', bW'⟩, ⟨hB', hM'⟩, hpre⟩ hK
            have Hgood := hide (show goodRow us k from (row_iff hf hin hlt).2 ⟨Hh.out, fun j hj => hpre ⟨j, hj⟩ (mem_elemsS _ _)⟩)
            clear hpre
            have hDl : D < W'.heap.size := (Array.getElem?_eq_some_iff.1 hK).1
            clear bI' bW' bI bW bX
            gi_wp2
            refine ⟨⟨k + 1, { target := .collected D, args := #[] } :: ds, _, _, _, _, _, _, _, _, _, _, _, _, _, _, _, _, _, _, _, _, _, _, _, _, _, _, _, _, _, _, _, _, _, rfl, by omega, fun i hi => ?_, bU', bR', hB', ⟨D, rfl, by omega, hDl, hK, hM'.mono (by omega)⟩⟩, by simp [intOf]; omega⟩
            by_cases e : i = k
            · rw [e]; exact Hgood.out
            · exact hrows i (by omega)
          case stop =>
            rintro D c pre W' hD hpre ⟨⟨bR', hB', hM'⟩, rfl, Hord⟩ hK
            have hDl : D < W'.heap.size := (Array.getElem?_eq_some_iff.1 hK).1
            have HO := hide Hord; clear Hord
            gi_wp2
            refine leaves_marks (OwnFrom.and (Own.from (boxed_own (w.heap.size + 1) 4 (fun _ => .bool (isOrdB us))) _) (ownFrom_below (Nat.le_refl _) (Nat.le_refl _))) (fun W' h => ?_) ({ target := .collected D, args := #[] } :: ds) W'.heap.size _ ⟨D, rfl, by omega, hDl, hK, hM'.mono (by omega)⟩ ⟨by rw [HO.out]; exact bR', hB'⟩
            have c2 := h.1.cell
            exact ⟨.bool (isOrdB us), by simp [results, Tryd.results39, go_sem, c2], rfl, h.2⟩
    · have Hord := hide (isOrdB_true.2 (show IsOrd us from fun i hi => hrows i (by omega)))
      gi_wp2
      refine leaves_marks (OwnFrom.and (Own.from (boxed_own (w.heap.size + 1) 4 (fun _ => .bool (isOrdB us))) _) (ownFrom_below (Nat.le_refl _) (Nat.le_refl _))) (fun W' h => ?_) ds _ _ (hM.others (KeepsOthers.setCell _ _ _)) ⟨by rw [Hord.out]; exact bR.set _, hB.setCell (p := ⟨w.heap.size + 1, 0, none⟩) (by simp) _⟩
      have c2 := h.1.cell
      exact ⟨.bool (isOrdB us), by simp [results, Tryd.results39, go_sem, c2], rfl, h.2⟩
end Go.Proofs.YtjbfjdijgfhjfaaDoor
