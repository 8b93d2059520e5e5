/- The contract of the program's heights: how many others are in the longest chain that comes to each element. Plain mathematics of the longest chain: by heights from above, each time the least element that has the height wanted. -/
import Derived.Test.YtemabboecmkoaaaDoorPart21
import Derived.Test.YtemabboecmkoaaaDoorPart22
import Derived.WalkKit
namespace Go.Proofs.YtemabboecmkoaaaDoor
open Go.RowKit Go.Shelf
attribute [local go_sem] Oper.semAt_some

theorem set_same {l : List Nat} {i m : Nat} (h : wd l i = m) : l.set i m = l := by
  apply List.ext_getElem (by simp)
  intro j h1 h2
  rw [List.getElem_set]
  split
  · rename_i e; subst e; rw [← h]; unfold wd; rw [List.getD_eq_getElem?_getD, List.getElem?_eq_getElem h2]; rfl
  · rfl
theorem wd_big {l : List Nat} {i : Nat} (h : l.length ≤ i) : wd l i = 0 := by
  unfold wd; rw [List.getD_eq_getElem?_getD, List.getElem?_eq_none h]; rfl

set_option maxRecDepth 100000 in
set_option maxHeartbeats 1000000 in
theorem heights_any (a : Option Addr) (cap : Nat) (es : List Nat) (n₀ : Nat) (hf : Fit es) (hin : Inside es) (hl : es.length ≤ 16) (hA : Acy (aheadB es) es.length) (w : World) (hT : TabAt w) (hw : IsWords n₀ w a es) (hg : 0 < n₀) (hn₀ : n₀ ≤ w.heap.size) :
    Calls Tryd.prog 32 #[.slice a es.length cap] w fun e w' => ∃ hs, e = .returned (.slice (some ⟨w.heap.size, 0, none⟩) es.length es.length) ∧ Below w.heap.size w w' ∧ Row w' w.heap.size 3 (ivals hs) ∧ HtK (aheadB es) es.length es.length hs := by
  have hfn := wide_fn
  have hdep := wide_depth
  have hmk := run_make_row' (P := Tryd.prog) 25 3 (.int .i64 0) 8 Tryd.underlying25 info_int rfl .i64 .i64 es.length (by omega) (by omega)
  refine (callsIn_wide (n := 6)).1 ?_
  refine callsIn_of_wp_marks Tryd.func32 rfl trivial ?_ rfl
  simp only [Tryd.ntmps32, List.size_toArray, List.length_cons, List.length_nil, Nat.reduceAdd, Nat.reduceSub, Array.replicate_succ, Array.replicate_zero, List.push_toArray, List.append_toArray, List.nil_append, List.cons_append]
  obtain ⟨w2, hw2⟩ : ∃ w2, (w.alloc (.cells (madeCells #[Value.int .i64 0] es.length) 3)).alloc (.cells #[.slice (some ⟨w.heap.size, 0, none⟩) es.length es.length] 25) = w2 := ⟨_, rfl⟩
  have rH2 : Row w2 w.heap.size 3 (ivals (List.replicate es.length 0)) := by
    rw [← hw2, ivals_replicate]; exact (Row.new w 3 (ivals (List.replicate es.length 0))).alloc _
  have bH2 : Boxed w2 (w.heap.size + 1) 25 (.slice (some ⟨w.heap.size, 0, none⟩) es.length es.length) := by
    have h2 := Boxed.new (w.alloc (.cells (madeCells #[Value.int .i64 0] es.length) 3)) 25 (.slice (some ⟨w.heap.size, 0, none⟩) es.length es.length)
    rw [World.size_alloc, hw2] at h2
    exact h2
  have hs2 : w2.heap.size = w.heap.size + 2 := by rw [← hw2]; simp
  have hB2 : Below w.heap.size w w2 := by rw [← hw2]; exact ((Below.refl _ _).alloc (Nat.le_refl _) _).alloc (by simp) _
  have hT2 := hT.below hB2 (by omega)
  have hwW := hw.below (hB2.mono hn₀)
  have hcall := sorted_any a cap es n₀ hf hl hA w2 hT2 hwW hg (by omega)
  gi_wp2_with (gi_at_call 51; refine (callsIn_wide.2 hcall).mono ?_; rintro e w3 ⟨av, cv, rfl, hB3, hown3⟩)
  have hB3' : Below w.heap.size w w3 := hB2.trans (hB3.mono (by omega))
  have rH3 := row_below rH2 hB3 (by omega)
  have bH3 : Boxed w3 (w.heap.size + 1) 25 (.slice (some ⟨w.heap.size, 0, none⟩) es.length es.length) := (hB3.block _ (by omega)).trans bH2
  rw [hs2] at hown3
  clear hw2 hcall
  refine wpIn_loop (fun ac W => ∃ (k : Nat) (ms : List Deferred) (hs : List Nat) (u4 u5 u6 u14 u15 u16 u17 u18 u19 u20 u21 u22 u23 u24 u25 u26 u27 u28 u29 u30 u31 u32 u33 u34 u35 u36 : Value), ac = { tmps := #[.slice a es.length cap, undef, .slice none 0 0, .pointer (some ⟨w.heap.size + 1, 0, none⟩), u4, u5, u6, .slice a es.length cap, .int .i64 es.length, .slice (some ⟨w.heap.size, 0, none⟩) es.length es.length, .slice a es.length cap, .slice av es.length cv, .int .i64 es.length, .int .i64 (k : Nat), u14, u15, u16, u17, u18, u19, u20, u21, u22, u23, u24, u25, u26, u27, u28, u29, u30, u31, u32, u33, u34, u35, u36, undef], defers := ms } ∧ k ≤ es.length ∧ HtK (aheadB es) es.length k hs ∧ Row W w.heap.size 3 (ivals hs) ∧ Boxed W (w.heap.size + 1) 25 (.slice (some ⟨w.heap.size, 0, none⟩) es.length es.length) ∧ W.ownsRow (w.heap.size + 2) 3 1 (.slice av es.length cv) es.length (ivals (sortF (aheadB es) es.length es.length)) ∧ Below w.heap.size w W ∧ Marks w.heap.size W W.heap.size ms) (fun ac _ => es.length - (intOf (ac.tmps.getD 13 undef)).toNat) ?start ?round
  case start =>
    exact ⟨0, [], _, _, _, _, _, _, _, _, _, _, _, _, _, _, _, _, _, _, _, _, _, _, _, _, _, _, _, rfl, Nat.zero_le _, HtK.start _ _, rH3, bH3, hown3, hB3', trivial⟩
  case round =>
    clear hmk rH3 bH3 hown3 hB3' hB3 rH2 bH2 hB2 hT2 hwW hs2
    rintro _ W ⟨k, ms, hs, u4, u5, u6, u14, u15, u16, u17, u18, u19, u20, u21, u22, u23, u24, u25, u26, u27, u28, u29, u30, u31, u32, u33, u34, u35, u36, rfl, hk, hHt, rH, bH, hown, hB, hM⟩
    have hsz := hB.size
    have hltH := bH.lt
    by_cases hlt : k < es.length
    · obtain ⟨g1, g2, _⟩ := next_spec (hA (sortF (aheadB es) es.length k) (left_some (by rw [sortF_len]; omega)))
      obtain ⟨r1, r2⟩ := readyB_true.1 g2
      have hLk := sortF_at (aheadB es) es.length hlt
      have hnx := fun (pre : List Nat) (m : Nat) => HtK.next (pre := pre) (m := m) hA hlt hHt
      obtain ⟨b', off', rfl, hb', hc'⟩ := (ownsRow_ints hown).at (i := k) (by rw [sortF_len]; exact hlt)
      have cL := hc' k (by rw [sortF_len]; exact hlt)
      rw [hLk] at cL
      generalize nextF (aheadB es) es.length (sortF (aheadB es) es.length k) = i at *
      obtain ⟨b, off, rfl, hb, hc⟩ := (hw.below (hB.mono hn₀)).at g1
      have hci := hc i g1
      have hfk := hf i
      have hbW : b < W.heap.size := by omega
      clear hc hc' hLk
      gi_wp2_with (gi_at_call 43; refine (callsIn_wide.2 (bitsOf_any (wd es i) _)).mono ?_; rintro e w' ⟨rfl, rfl⟩)
      obtain ⟨W2, hW2⟩ : ∃ W2, (W.alloc (.cells #[.int .i64 (i : Nat)] 3)).alloc (.cells #[.int .u32 (wd es i : Nat)] 55) = W2 := ⟨_, rfl⟩
      rw [hW2]
      obtain ⟨bI, bX, hs2, hb2, hk2, hbx⟩ := two_boxes W _ _ _ _ hW2
      have rH2 : Row W2 w.heap.size 3 (ivals hs) := by rw [← hW2]; exact (rH.alloc _).alloc _
      have hown2 : W2.ownsRow (w.heap.size + 2) 3 1 (.slice (some ⟨b', off', none⟩) es.length cv) es.length (ivals (sortF (aheadB es) es.length es.length)) := by rw [← hW2]; exact (hown.alloc _).alloc _
      clear hW2
      have hT2 : TabAt W2 := (hT.below hB (by omega)).below hb2 (by omega)
      have hil : i < hs.length := by rw [hHt.len]; exact g1
      refine wpIn_rangeFunc_ownF rfl (by omega) (gf := 54) (lb := #[.pointer (some ⟨W.heap.size + 1, 0, none⟩)]) rfl trivial (enters_of Tryd.func54 (by kernel_rfl) rfl)
        (bitsOf_stops 5 (W.heap.size + 1) w.heap.size _ hfk W2 (by omega) (by omega) bX.cell hT2 (by omega)) belowK_t (belowK_b (by omega)) (Below.refl _ _) (fun _ => rfl)
        (fun pre W' => ∃ m, ((Row W' w.heap.size 3 (ivals (hs.set i m)) ∧ W'.ownsRow (w.heap.size + 2) 3 1 (.slice (some ⟨b', off', none⟩) es.length cv) es.length (ivals (sortF (aheadB es) es.length es.length))) ∧ (Boxed W' (w.heap.size + 1) 25 (.slice (some ⟨w.heap.size, 0, none⟩) es.length es.length) ∧ Boxed W' W.heap.size 3 (.int .i64 (i : Nat)))) ∧ ((Below w.heap.size w W' ∧ Marks w.heap.size W' W.heap.size ms) ∧ HtJ hs (pre.map (·.1)) m))
        (fun _ _ _ => False)
        (ownFrom_ex fun m => OwnFrom.and (OwnFrom.and (OwnFrom.and (Own.from (row_own _ _ _) _) (Own.from (ownsRow_own _ _ _ _ _ _) _)) (OwnFrom.and (Own.from (boxed_own _ _ _) _) (Own.from (boxed_own _ _ _) _))) (OwnFrom.and (OwnFrom.and (ownFrom_below (Nat.le_refl _) (by omega)) (marks_own (by omega) ms)) (ownFrom_pure _ _)))
        (fun _ _ _ _ _ hs _ _ => hs)
        ⟨0, ⟨⟨by rw [set_same (hHt.off i r1)]; exact rH2, hown2⟩, hbx _ _ _ bH, bI⟩, ⟨hB.trans (hb2.mono hsz), hM.others hk2⟩, HtJ.start hs⟩
        (fun y => { tmps := #[.slice (some ⟨b, off, none⟩) es.length cap, undef, .slice none 0 0, .pointer (some ⟨w.heap.size + 1, 0, none⟩), u4, .pointer (some ⟨W.heap.size, 0, none⟩), .int .i64 (y.1 : Nat), .slice (some ⟨b, off, none⟩) es.length cap, .int .i64 es.length, .slice (some ⟨w.heap.size, 0, none⟩) es.length es.length, .slice (some ⟨b, off, none⟩) es.length cap, .slice (some ⟨b', off', none⟩) es.length cv, .int .i64 es.length, .int .i64 (k : Nat), .bool true, .pointer (some ⟨b', off' + k, none⟩), .int .i64 (i : Nat), .slice (some ⟨b, off, none⟩) es.length cap, .int .i64 (i : Nat), .pointer (some ⟨b, off + i, none⟩), .int .u32 (wd es i : Nat), .func (.func 54) #[] #[.pointer (some ⟨W.heap.size + 1, 0, none⟩)], .int .i64 (y.1 : Nat), u23, u24, u25, u26, u27, u28, u29, u30, u31, u32, u33, u34, u35, u36, undef], defers := [] }) ?assign ?body ?done ?stop
      case assign =>
        intro l x W' K hK
        gi_wp2
        exact hK
      case body =>
        rintro l pre y W' ⟨m, ⟨⟨rH', hown'⟩, bH', bI'⟩, ⟨hB', hM'⟩, hJ⟩ _
        have hyn : y.1 < es.length := hin i g1 y.1 (hasB_lt hfk y.2) y.2
        have hyk : y.1 ∈ sortF (aheadB es) es.length k := r2 y.1 hyn y.2
        have hiy : ¬ i = y.1 := fun e => r1 (by rw [e]; exact hyk)
        have cH' := bH'.cell
        have cI' := bI'.cell
        have cM := rH'.cell (i := i) (ivals_at (by rw [List.length_set]; exact hil))
        have cY := rH'.cell (i := y.1) (ivals_at (by rw [List.length_set, hHt.len]; exact hyn))
        rw [wd_set hil, if_pos rfl] at cM
        rw [wd_set hil, if_neg hiy] at cY
        have fY := rH'.frozen i
        have hmk' := hJ.small hHt.small
        have hyk' := hHt.small y.1
        gi_wp2
        have hmx : Tryd.prog.follows .mixedOrders = true := by kernel_rfl
        refine region_tailR l _ (List.take 12 _) (List.drop 12 _) (List.take_append_drop 12 _) (by kernel_rfl) hmx (by kernel_rfl) ?_
        simp only [List.take_succ_cons, List.take_zero, List.drop_succ_cons, List.drop_zero]
        repeat still_step
        have hwr : IntKind.i64.wrap ((wd hs y.1 : Nat) + 1) = ((wd hs y.1 + 1 : Nat) : Int) := by
          rw [IntWalk.i64_in _ (by omega)]; omega
        have hmax : (if ((m : Nat) : Int) < IntKind.i64.wrap ((wd hs y.1 : Nat) + 1) then IntKind.i64.wrap ((wd hs y.1 : Nat) + 1) else ((m : Nat) : Int)) = ((max m (wd hs y.1 + 1) : Nat) : Int) := by
          rw [hwr]; split <;> omega
        rw [hmax]
        clear hwr hmax
        refine wpStill_nil ?_
        show wpList _ _ _ _ _ _
        go_wp2
        have rH2 : Row (W'.setCell ⟨w.heap.size, i, none⟩ (.int .i64 ((max m (wd hs y.1 + 1) : Nat) : Int))).drew w.heap.size 3 (ivals (hs.set i (max m (wd hs y.1 + 1)))) := by
          have := rH'.set i (.int .i64 ((max m (wd hs y.1 + 1) : Nat) : Int))
          rw [ivals_set, List.set_set] at this
          exact this
        have hown2 := ownsRow_setAt hown' (b := w.heap.size) (by omega) i (.int .i64 ((max m (wd hs y.1 + 1) : Nat) : Int))
        exact ⟨rfl, (KeepsOthers.setCell _ _ _).trans (KeepsOthers.drew _), ((Below.refl _ W').setCell (p := ⟨w.heap.size, i, none⟩) (Nat.le_refl _) _).drew, max m (wd hs y.1 + 1),
            ⟨⟨rH2, hown2⟩, boxed_otherAt bH' (by omega) _ _, boxed_otherAt bI' (by omega) _ _⟩,
            ⟨(hB'.setCell (p := ⟨w.heap.size, i, none⟩) (Nat.le_refl _) _).drew, (hM'.others (KeepsOthers.setCell _ _ _)).others (KeepsOthers.drew _)⟩,
            by rw [List.map_append]; exact hJ.step⟩
      case done =>
        rintro D ys W' hD rfl ⟨m, ⟨⟨rH', hown'⟩, bH', bI'⟩, ⟨hB', hM'⟩, hJ⟩ hK
        have hDl : D < W'.heap.size := (Array.getElem?_eq_some_iff.1 hK).1
        rw [elemsS_val] at hJ
        have hn := hnx _ m hJ (fun z => ⟨fun hz => by
            have hz' := (mem_elems (by omega) z).1 hz
            exact ⟨hin i g1 z (hasB_lt hfk hz') hz', hz'⟩, fun hz => (mem_elems (by omega) z).2 hz.2⟩)
        clear hnx hJ bI' bI bX
        gi_wp2
        exact ⟨⟨k + 1, { target := .collected D, args := #[] } :: ms, _, _, _, _, _, _, _, _, _, _, _, _, _, _, _, _, _, _, _, _, _, _, _, _, _, _, _, rfl, by omega, hn, rH', bH', hown', hB', ⟨D, rfl, by omega, hDl, hK, hM'.mono (by omega)⟩⟩, by simp [intOf]; omega⟩
      case stop =>
        rintro D c pre W' _ _ h _
        exact h.elim
    · obtain rfl : k = es.length := by omega
      have cH := bH.cell
      gi_wp2
      refine leaves_marks (OwnFrom.and (Own.from (row_own w.heap.size 3 (fun _ => ivals hs)) _) (ownFrom_below (Nat.le_refl _) (Nat.le_refl _))) (fun W' h => ?_) ms _ _ hM ⟨rH, hB⟩
      exact ⟨_, results_tmp rfl _ _ _, hs, rfl, h.2, h.1, hHt⟩
end Go.Proofs.YtemabboecmkoaaaDoor

namespace Go.Proofs.YtemabboecmkoaaaDoor

theorem ht_congr {R R' : Nat → Nat → Bool} {n : Nat} {h : Nat → Nat} (e : ∀ i, i < n → ∀ x, x < n → R x i = R' x i) (hh : IsHt R n h) : IsHt R' n h := fun i hi => by
  obtain ⟨h1, h2⟩ := hh i hi
  refine ⟨fun j hj hR => h1 j hj (by rw [e i hi j hj]; exact hR), ?_⟩
  rcases h2 with g | ⟨j, hj, hR, g⟩
  · exact .inl g
  · exact .inr ⟨j, hj, by rw [← e i hi j hj]; exact hR, g⟩
/-- two that are heights are one -/
theorem ht_unique {R : Nat → Nat → Bool} {n : Nat} {h g : Nat → Nat} (hh : IsHt R n h) (hg : IsHt R n g) {i : Nat} (hi : i < n) : h i = g i := by
  have key : ∀ (p q : Nat → Nat), IsHt R n p → IsHt R n q → ∀ m i, i < n → p i ≤ m → p i ≤ q i := by
    intro p q hp hq m
    induction m with
    | zero => intro i _ h0; omega
    | succ m ih =>
      intro i hi hm
      rcases (hp i hi).2 with e | ⟨j, hj, hR, e⟩
      · omega
      · have h1 := ih j hj (by omega)
        have h2 := (hq i hi).1 j hj hR
        omega
  have a := key h g hh hg _ i hi (Nat.le_refl _)
  have b := key g h hg hh _ i hi (Nat.le_refl _)
  omega
/-- M is one more than the greatest of the first k numbers; 0, if there is none -/
def TopOf (h : Nat → Nat) (k M : Nat) : Prop := (∀ i, i < k → h i + 1 ≤ M) ∧ (M = 0 ∨ ∃ i, i < k ∧ h i + 1 = M)
theorem top_start (h : Nat → Nat) : TopOf h 0 0 := ⟨fun i hi => by omega, .inl rfl⟩
theorem top_step {h : Nat → Nat} {k M : Nat} (t : TopOf h k M) : TopOf h (k + 1) (max M (h k + 1)) := by
  obtain ⟨t1, t2⟩ := t
  constructor
  · intro i hi
    by_cases e : i = k
    · subst e; omega
    · have := t1 i (by omega); omega
  · rcases Nat.le_total M (h k + 1) with g | g
    · exact .inr ⟨k, by omega, by omega⟩
    · rcases t2 with e | ⟨i, hi, e⟩
      · omega
      · exact .inr ⟨i, by omega, by omega⟩
theorem top_unique {h g : Nat → Nat} {k M N : Nat} (e : ∀ i, i < k → h i = g i) (a : TopOf h k M) (b : TopOf g k N) : M = N := by
  have key : ∀ (p q : Nat → Nat) (A B : Nat), (∀ i, i < k → p i = q i) → TopOf p k A → TopOf q k B → A ≤ B := by
    intro p q A B e a b
    rcases a.2 with z | ⟨i, hi, z⟩
    · omega
    · have := b.1 i hi; have := e i hi; omega
  have x := key h g M N e a b
  have y := key g h N M (fun i hi => (e i hi).symm) b a
  omega
/-- may z follow in the chain L? -/
def mayC (us L : List Nat) (z : Nat) : Bool := decide (z < us.length) && (match L.getLast? with | none => true | some l => underB us l z)
theorem mayC_nil (us : List Nat) (z : Nat) : mayC us [] z = decide (z < us.length) := by unfold mayC; simp
theorem mayC_snoc (us L : List Nat) (y z : Nat) : mayC us (L ++ [y]) z = (decide (z < us.length) && underB us y z) := by unfold mayC; simp
/-- the next one of the chain -/
def nextC (us : List Nat) (h : Nat → Nat) (M : Nat) (L : List Nat) : Nat := ((List.range us.length).find? fun z => mayC us L z && decide (h z + L.length + 1 = M)).getD 0
/-- the first t of the chain -/
def chainF (us : List Nat) (h : Nat → Nat) (M : Nat) : Nat → List Nat
  | 0 => []
  | t + 1 => chainF us h M t ++ [nextC us h M (chainF us h M t)]
theorem chainF_len (us : List Nat) (h : Nat → Nat) (M : Nat) : ∀ t, (chainF us h M t).length = t
  | 0 => rfl
  | t + 1 => by unfold chainF; simp [chainF_len us h M t]
theorem nextC_spec {us : List Nat} {h : Nat → Nat} {M : Nat} {L : List Nat} (he : ∃ z, mayC us L z = true ∧ h z + L.length + 1 = M) :
    mayC us L (nextC us h M L) = true ∧ h (nextC us h M L) + L.length + 1 = M ∧ ∀ z, z < nextC us h M L → mayC us L z = true → h z + L.length + 1 ≠ M := by
  unfold nextC
  cases hf : (List.range us.length).find? (fun z => mayC us L z && decide (h z + L.length + 1 = M)) with
  | none =>
    obtain ⟨z, hz, e⟩ := he
    have hzn : z < us.length := by unfold mayC at hz; simp at hz; exact hz.1
    have := List.find?_eq_none.1 hf z (List.mem_range.2 hzn)
    rw [hz] at this
    simp [e] at this
  | some m =>
    have hm := List.find?_range_eq_some.1 hf
    have h1 := hm.1
    rw [Bool.and_eq_true, decide_eq_true_eq] at h1
    refine ⟨h1.1, h1.2, fun z hz hmz e => ?_⟩
    have := hm.2.2 z hz
    rw [hmz] at this
    simp [e] at this
theorem nextC_of {us : List Nat} {h : Nat → Nat} {M : Nat} {L : List Nat} {y : Nat} (hy : mayC us L y = true) (he : h y + L.length + 1 = M) (hl : ∀ z, z < y → mayC us L z = true → h z + L.length + 1 ≠ M) : nextC us h M L = y := by
  obtain ⟨a, b, c⟩ := nextC_spec ⟨y, hy, he⟩
  rcases Nat.lt_trichotomy (nextC us h M L) y with g | g | g
  · exact absurd b (hl _ g a)
  · exact g
  · exact absurd he (c y g hy)
theorem mayC_lt {us L : List Nat} {z : Nat} (h : mayC us L z = true) : z < us.length := by unfold mayC at h; simp at h; exact h.1
/-- as long as the chain is too short, one may follow -/
theorem chain_more {us : List Nat} {h : Nat → Nat} {M : Nat} (hh : IsHt (fun x i => underB us i x) us.length h) (ht : TopOf h us.length M) : ∀ t, t < M → ∃ z, mayC us (chainF us h M t) z = true ∧ h z + (chainF us h M t).length + 1 = M
  | 0, ht0 => by
    rcases ht.2 with e | ⟨i, hi, e⟩
    · omega
    · exact ⟨i, by rw [show chainF us h M 0 = [] from rfl, mayC_nil]; simp [hi], by rw [chainF_len]; omega⟩
  | t + 1, h1 => by
    obtain ⟨a, b, _⟩ := nextC_spec (chain_more hh ht t (by omega))
    rw [chainF_len] at b
    rcases (hh _ (mayC_lt a)).2 with e | ⟨j, hj, hR, e⟩
    · omega
    · refine ⟨j, ?_, by rw [chainF_len]; omega⟩
      show mayC us (chainF us h M t ++ [nextC us h M (chainF us h M t)]) j = true
      rw [mayC_snoc, show underB us (nextC us h M (chainF us h M t)) j = true from hR]; simp [hj]
/-- what is wanted of the chain, place by place -/
theorem chain_at {us : List Nat} {h : Nat → Nat} {M : Nat} (hh : IsHt (fun x i => underB us i x) us.length h) (ht : TopOf h us.length M) : ∀ T, T ≤ M → ∀ t, t < T →
    wd (chainF us h M T) t < us.length ∧ h (wd (chainF us h M T) t) + t + 1 = M ∧ (∀ s, s + 1 = t → underB us (wd (chainF us h M T) s) (wd (chainF us h M T) t) = true)
  | 0, _, t, hlt => by omega
  | T + 1, hT, t, hlt => by
    have ih := chain_at hh ht T (by omega)
    obtain ⟨a, b, _⟩ := nextC_spec (chain_more hh ht T (by omega))
    rw [chainF_len] at b
    have hlen := chainF_len us h M T
    show wd (chainF us h M T ++ [nextC us h M (chainF us h M T)]) t < us.length ∧ h (wd (chainF us h M T ++ [nextC us h M (chainF us h M T)]) t) + t + 1 = M ∧ (∀ s, s + 1 = t → underB us (wd (chainF us h M T ++ [nextC us h M (chainF us h M T)]) s) (wd (chainF us h M T ++ [nextC us h M (chainF us h M T)]) t) = true)
    by_cases e : t < T
    · rw [wd_app _ _ _ (by rw [hlen]; exact e)]
      obtain ⟨x, y, z⟩ := ih t e
      refine ⟨x, y, fun s hs => ?_⟩
      rw [wd_app _ _ _ (by rw [hlen]; omega)]
      exact z s hs
    · obtain rfl : t = T := by omega
      have hl := wd_last (chainF us h M t) (nextC us h M (chainF us h M t))
      rw [hlen] at hl
      rw [hl]
      refine ⟨mayC_lt a, b, fun s hs => ?_⟩
      rw [wd_app _ _ _ (by rw [hlen]; omega)]
      subst hs
      have hl' := wd_last (chainF us h M s) (nextC us h M (chainF us h M s))
      rw [chainF_len] at hl'
      have e2 : wd (chainF us h M (s + 1)) s = nextC us h M (chainF us h M s) := hl'
      rw [e2]
      have a' : mayC us (chainF us h M s ++ [nextC us h M (chainF us h M s)]) (nextC us h M (chainF us h M (s + 1))) = true := a
      rw [mayC_snoc, Bool.and_eq_true] at a'
      exact a'.2
end Go.Proofs.YtemabboecmkoaaaDoor
