/- The contract of the program's sorted: the line of all elements, each behind what must come ahead of it. -/
import Derived.Test.YtekpielpfegclabDoorSortPlain
import Derived.Test.YtekpielpfegclabDoorQuietRound
import Derived.WalkMore
namespace Go.Proofs.YtekpielpfegclabDoor
open Go.RowKit Go.Shelf
attribute [local go_sem] Oper.semAt_some

theorem scope_wide {n : Nat} {P : Program} {c : Code} {Q : Exit → Act → World → Prop} {a : Act} {w : World} (h : c.wpIn Fence.wide n P (Exit.noGoto Q) a w) : (Code.scope c).wpIn Fence.wide n P Q a w :=
  wpIn_wide.2 (wp_scope_straight (wpIn_wide.1 h))
/-- x must come ahead of i -/
def aheadB (es : List Nat) (x i : Nat) : Bool := hasB (wd es i) x
/-- the word has just what is left -/
def LeftIs (n : Nat) (done : List Nat) (x : Nat) : Prop := x < 4294967296 ∧ ∀ i, hasB x i = (decide (i < n) && !memB done i)
theorem left_start {n : Nat} (h : n ≤ 16) : LeftIs n [] (allW n) := ⟨allW_lt (by omega), fun i => by rw [hasB_all]; simp [memB]⟩
theorem left_step {n : Nat} {done : List Nat} {x y : Nat} (h : LeftIs n done x) : LeftIs n (done ++ [y]) (andN x (bitW y)) := by
  refine ⟨andN_lt h.1, fun i => ?_⟩
  rw [hasB_andN h.1, hasB_bitW, h.2]
  by_cases e : y = i
  · subst e; simp [memB]
  · have e' : ¬ i = y := fun h => e h.symm
    simp [memB, e, e']
theorem left_ready {es : List Nat} {done : List Nat} {x y : Nat} (h : LeftIs es.length done x) (hy : hasB x y = true) : andW (wd es y) x = 0 ↔ readyB (aheadB es) es.length done y = true := by
  have hyd := h.2 y
  rw [hy, eq_comm, Bool.and_eq_true, Bool.not_eq_true'] at hyd
  have hyn : y ∉ done := memB_false.1 hyd.2
  rw [word_zero, readyB_true]
  constructor
  · intro g
    refine ⟨hyn, fun z hz hR => ?_⟩
    have := g z
    rw [hasB_and, h.2] at this
    unfold aheadB at hR
    rw [hR] at this
    exact memB_true.1 (by simpa [hz] using this)
  · rintro ⟨_, g⟩ z
    rw [hasB_and, h.2]
    cases hR : hasB (wd es y) z with
    | false => rfl
    | true =>
      by_cases hz : z < es.length
      · simp [memB_true.2 (g z hz hR)]
      · simp [hz]
/-- the one that was found is the next one -/
theorem left_next {es : List Nat} {done : List Nat} {x : Nat} (h : LeftIs es.length done x) (h64 : x < 18446744073709551616) {pre : List (El x)} {y : El x} (hp : pre ++ [y] <+: elemsS x h64)
    (hno : ∀ z ∈ pre, readyB (aheadB es) es.length done z.1 = false) (hr : readyB (aheadB es) es.length done y.1 = true) : nextF (aheadB es) es.length done = y.1 := by
  have hyn : y.1 < es.length := by have := h.2 y.1; rw [y.2] at this; simp at this; exact this.1
  refine next_of hyn hr fun j hj => ?_
  by_cases hjl : hasB x j = true
  · -- j is ahead of y in the list of elements
    obtain ⟨t, ht⟩ := hp
    have hs := sorted_elems h64
    rw [← elemsS_val x h64, ← ht] at hs
    have hjm : (⟨j, hjl⟩ : El x) ∈ elemsS x h64 := mem_elemsS h64 _
    rw [← ht] at hjm
    rcases List.mem_append.1 hjm with hm | hm
    · rcases List.mem_append.1 hm with hm | hm
      · exact hno _ hm
      · simp at hm
        have : j = y.1 := by rw [← hm]
        omega
    · rw [List.map_append, List.pairwise_append] at hs
      have := hs.2.2 y.1 (by simp) j (List.mem_map.2 ⟨_, hm, rfl⟩)
      omega
  · apply readyB_false
    rintro ⟨hnd, _⟩
    apply hjl
    rw [h.2]
    simp [memB_false.2 hnd]; omega

set_option maxRecDepth 100000 in
set_option maxHeartbeats 1000000 in
theorem sorted_any (a : Option Addr) (cap : Nat) (es : List Nat) (n₀ : Nat) (hf : Fit es) (hl : es.length ≤ 16) (hA : Acy (aheadB es) es.length) (w : World) (hT : TabAt w) (hw : IsWords n₀ w a es) (hg : 0 < n₀) (hn₀ : n₀ ≤ w.heap.size) :
    Calls Tryd.prog 39 #[.slice a es.length cap] w fun e w' => ∃ av cv, e = .returned (.slice av es.length cv) ∧ Below w.heap.size w w' ∧ w'.ownsRow w.heap.size 3 1 (.slice av es.length cv) es.length (ivals (sortF (aheadB es) es.length es.length)) := by
  have hfn := wide_fn
  have hdep := wide_depth
  obtain ⟨i0, hi, hz0, hz1, hz2⟩ := info_parts info_int
  refine (callsIn_wide (n := 6)).1 ?_
  refine callsIn_of_wp_marks Tryd.func39 rfl trivial ?_ rfl
  simp only [Tryd.ntmps39, List.size_toArray, List.length_cons, List.length_nil, Nat.reduceAdd, Nat.reduceSub, Array.replicate_succ, Array.replicate_zero, List.push_toArray, List.append_toArray, List.nil_append, List.cons_append]
  gi_wp2
  refine scope_wide ?_
  gi_wp2_with (first
    | (gi_at_make; refine wpListIn_make_own _ rfl _ _ 44 rfl (w.heap.size + 1) 3 i0 (.int .i64 0) 1 Tryd.underlying44 hi hz0 hz1 .i64 .i64 _ es.length rfl rfl rfl (by rw [hz2]; omega) (by unfold maxLen; omega) (by simp) ?_; intro w1 hown1 hgrow1; have bU1 := (Boxed.new w 22 (.slice a es.length cap)).kept hgrow1 (by simp); have cU1 := bU1.cell; have lU1 := bU1.lt)
    | (gi_at_call 46; refine (callsIn_wide.2 (all_any es.length (by omega) _)).mono ?_; rintro e w' ⟨rfl, rfl⟩)
    | refine wpIn_label ?_)
  refine wpIn_loop (fun ac W => ∃ (k : Nat) (ms : List Deferred) (L : List Nat) (av : Option Addr) (cv x : Nat) (u5 u15 u16 u17 u18 u19 u20 u21 u22 u23 u24 u25 u26 u27 u28 u29 u30 u31 u32 u33 u34 : Value), ac = { tmps := #[.slice a es.length cap, .pointer (some ⟨w.heap.size, 0, none⟩), .slice none 0 0, .pointer (some ⟨w1.heap.size, 0, none⟩), .pointer (some ⟨w1.heap.size + 1, 0, none⟩), u5, .slice a es.length cap, .int .i64 es.length, .slice (some ⟨w.heap.size + 1, 0, none⟩) 0 es.length, .slice a es.length cap, .int .i64 es.length, .int .u32 (allW es.length : Nat), .slice a es.length cap, .int .i64 es.length, .int .i64 (k : Nat), u15, u16, u17, u18, u19, u20, u21, u22, u23, u24, u25, u26, u27, u28, u29, u30, u31, u32, u33, u34, undef], defers := ms } ∧ k ≤ es.length ∧ L = sortF (aheadB es) es.length k ∧ LeftIs es.length L x ∧ (Boxed W w.heap.size 22 (.slice a es.length cap) ∧ Boxed W w1.heap.size 44 (.slice av L.length cv) ∧ Boxed W (w1.heap.size + 1) 40 (.int .u32 (x : Nat))) ∧ W.ownsRow (w.heap.size + 1) 3 1 (.slice av L.length cv) L.length (ivals L) ∧ Below w.heap.size w W ∧ Marks w.heap.size W W.heap.size ms) (fun ac _ => es.length - (intOf (ac.tmps.getD 14 undef)).toNat) ?start ?round
  case start =>
    have hB1 : Below w.heap.size w w1 := ((Below.refl _ _).alloc (Nat.le_refl _) _).grown hgrow1 (by simp) (fun j e => by cases e)
    have hs1 := hB1.size
    have b2 := Boxed.new (w1.alloc (.cells #[.slice (some ⟨w.heap.size + 1, 0, none⟩) 0 es.length] 44)) 40 (.int .u32 (allW es.length : Nat))
    rw [World.size_alloc] at b2 hown1
    exact ⟨0, [], [], some ⟨w.heap.size + 1, 0, none⟩, es.length, _, _, _, _, _, _, _, _, _, _, _, _, _, _, _, _, _, _, _, _, _, _, rfl, Nat.zero_le _, rfl, left_start hl, ⟨(bU1.alloc _).alloc _, (Boxed.new w1 _ _).alloc _, b2⟩, (hown1.alloc _).alloc _, (hB1.alloc hs1 _).alloc (by simp; omega) _, trivial⟩
  case round =>
    have hB1 : Below w.heap.size w w1 := ((Below.refl _ _).alloc (Nat.le_refl _) _).grown hgrow1 (by simp) (fun j e => by cases e)
    have hs1 : w.heap.size + 1 ≤ w1.heap.size := by have := hgrow1.size; simpa using this
    clear bU1 cU1 lU1 hown1 hgrow1 hB1
    rintro _ W ⟨k, ms, L, av, cv, x, u5, u15, u16, u17, u18, u19, u20, u21, u22, u23, u24, u25, u26, u27, u28, u29, u30, u31, u32, u33, u34, rfl, hk, hL, hLeft, ⟨bU, bL, bX⟩, hown, hB, hM⟩
    have HL := hide hL
    clear hL
    have hsz := hB.size
    have cX := bX.cell
    have cL := bL.cell
    have ltX := bX.lt
    have ltL := bL.lt
    by_cases hlt : k < es.length
    · gi_wp2_with (gi_at_call 44; refine (callsIn_wide.2 (bitsOf_any x _)).mono ?_; rintro e w' ⟨rfl, rfl⟩)
      have bY := Boxed.new W 40 (.int .u32 (x : Nat))
      have hB2 := hB.alloc hsz (.cells #[.int .u32 (x : Nat)] 40)
      have hT2 : TabAt (W.alloc (.cells #[.int .u32 (x : Nat)] 40)) := hT.below hB2 (by omega)
      refine wpIn_rangeFunc_ownF rfl (by omega) (gf := 48) (lb := #[.pointer (some ⟨W.heap.size, 0, none⟩)]) rfl trivial (enters_of Tryd.func48 (by kernel_rfl) rfl)
        (bitsOf_stops 5 W.heap.size w.heap.size _ hLeft.1 _ (by simp) (by simp; omega) bY.cell hT2 (by omega)) belowK_t (belowK_b (by simp; omega)) (Below.refl _ _) (fun _ => rfl)
        (fun pre W' => ((Boxed W' w.heap.size 22 (.slice a es.length cap) ∧ (Boxed W' w1.heap.size 44 (.slice av L.length cv) ∧ Boxed W' (w1.heap.size + 1) 40 (.int .u32 (x : Nat)))) ∧ W'.ownsRow (w.heap.size + 1) 3 1 (.slice av L.length cv) L.length (ivals L)) ∧ ((Below w.heap.size w W' ∧ Marks w.heap.size W' W.heap.size ms) ∧ ∀ z ∈ pre, readyB (aheadB es) es.length L z.1 = false))
        (fun c pre W' => ∃ (y : El x) (av' : Option Addr) (cv' : Nat), ((Boxed W' w.heap.size 22 (.slice a es.length cap) ∧ (Boxed W' w1.heap.size 44 (.slice av' (L ++ [y.1]).length cv') ∧ Boxed W' (w1.heap.size + 1) 40 (.int .u32 (andN x (bitW y.1) : Nat)))) ∧ W'.ownsRow (w.heap.size + 1) 3 1 (.slice av' (L ++ [y.1]).length cv') (L ++ [y.1]).length (ivals (L ++ [y.1]))) ∧ ((Below w.heap.size w W' ∧ Marks w.heap.size W' W.heap.size ms) ∧ (c = .exit 1 ∧ readyB (aheadB es) es.length L y.1 = true ∧ ∃ pre', pre = pre' ++ [y] ∧ ∀ z ∈ pre', readyB (aheadB es) es.length L z.1 = false)))
        (OwnFrom.and (OwnFrom.and (OwnFrom.and (Own.from (boxed_own _ _ _) _) (OwnFrom.and (Own.from (boxed_own _ _ _) _) (Own.from (boxed_own _ _ _) _))) (Own.from (ownsRow_own _ _ _ _ _ _) _)) (OwnFrom.and (OwnFrom.and (ownFrom_below (Nat.le_refl _) (by simp; omega)) (marks_own (by simp) ms)) (ownFrom_pure _ _)))
        (fun c => ownFrom_ex fun y => ownFrom_ex fun av' => ownFrom_ex fun cv' => OwnFrom.and (OwnFrom.and (OwnFrom.and (Own.from (boxed_own _ _ _) _) (OwnFrom.and (Own.from (boxed_own _ _ _) _) (Own.from (boxed_own _ _ _) _))) (Own.from (ownsRow_own _ _ _ _ _ _) _)) (OwnFrom.and (OwnFrom.and (ownFrom_below (Nat.le_refl _) (by simp; omega)) (marks_own (by simp) ms)) (ownFrom_pure _ _)))
        ⟨⟨⟨bU.alloc _, bL.alloc _, bX.alloc _⟩, hown.alloc _⟩, ⟨hB2, hM.others (KeepsOthers.alloc _ _)⟩, by simp⟩
        (fun y => { tmps := #[.slice a es.length cap, .pointer (some ⟨w.heap.size, 0, none⟩), .slice none 0 0, .pointer (some ⟨w1.heap.size, 0, none⟩), .pointer (some ⟨w1.heap.size + 1, 0, none⟩), .int .i64 (y.1 : Nat), .slice a es.length cap, .int .i64 es.length, .slice (some ⟨w.heap.size + 1, 0, none⟩) 0 es.length, .slice a es.length cap, .int .i64 es.length, .int .u32 (allW es.length : Nat), .slice a es.length cap, .int .i64 es.length, .int .i64 (k : Nat), .bool true, .int .u32 (x : Nat), .func (.func 48) #[] #[.pointer (some ⟨W.heap.size, 0, none⟩)], .int .i64 (y.1 : Nat), u19, u20, u21, u22, u23, u24, u25, u26, u27, u28, u29, u30, u31, u32, u33, u34, undef], defers := [] }) ?assign ?body ?done ?stop
      case assign =>
        intro l x W' K hK
        gi_wp2
        exact hK
      case body =>
        rintro l pre y W' ⟨⟨⟨bU', bL', bX'⟩, hown'⟩, ⟨hB', hM'⟩, hno⟩ _
        have hyn : y.1 < es.length := by have := hLeft.2 y.1; rw [y.2, eq_comm, Bool.and_eq_true] at this; simpa using this.1
        have hlen : L.length ≤ 16 := by rw [HL.out, sortF_len]; omega
        have hiff := left_ready hLeft y.2
        have cU' := bU'.cell
        have cX' := bX'.cell
        have cL' := bL'.cell
        have ltU' := bU'.lt
        have ltX' := bX'.lt
        have ltL' := bL'.lt
        obtain ⟨b, off, rfl, hb, hc⟩ := (hw.below (hB'.mono hn₀)).at hyn
        have cY := hc y.1 hyn
        clear hc
        have hbits := bits_and32 (wd es y.1) x (hf _) hLeft.1
        cases hr : readyB (aheadB es) es.length L y.1 with
        | false =>
          have hne : andW (wd es y.1) x ≠ 0 := fun e => by rw [hiff.1 e] at hr; cases hr
          have hd : (((andW (wd es y.1) x : Nat) : Int) == 0) = false := by rw [beq_eq_false_iff_ne]; omega
          have Hr := hide hr
          clear hr hne hiff
          gi_wp2
          refine region_quietR l rfl (by kernel_rfl) (by kernel_rfl) (by kernel_rfl) ?_
          repeat (gi_big_quiet_step (fail))
          refine wpQuietIn_nil ?_
          intro _ hw'
          obtain ⟨nq, hw''⟩ := hw'
          subst hw''
          gi_wp2
          exact ⟨keeps_drewN _ _, below_drewN (Below.refl _ _) _, ⟨⟨bU', bL', bX'⟩, hown'⟩, ⟨below_drewN hB' nq, hM'.others (keeps_drewN _ nq)⟩, fun z hz => (List.mem_append.1 hz).elim (hno z) (fun e => by simp at e; subst e; exact Hr.out)⟩
        | true =>
          have hz := hiff.2 hr
          rw [hz] at hbits
          have Hr := hide hr
          clear hr hz hiff
          gi_wp2
          refine region_quietR l rfl (by kernel_rfl) (by kernel_rfl) (by kernel_rfl) ?_
          repeat (gi_big_quiet_step (fail))
          refine wpQuietIn_nil ?_
          intro _ hw'
          obtain ⟨nq, hw''⟩ := hw'
          subst hw''
          have bUv : Boxed (W'.drewN nq) w.heap.size 22 (.slice (some ⟨b, off, none⟩) es.length cap) := bU'
          have bLv : Boxed (W'.drewN nq) w1.heap.size 44 (.slice av L.length cv) := bL'
          have bXv : Boxed (W'.drewN nq) (w1.heap.size + 1) 40 (.int .u32 (x : Nat)) := bX'
          have hownv : (W'.drewN nq).ownsRow (w.heap.size + 1) 3 1 (.slice av L.length cv) L.length (ivals L) := hown'
          have hBv := below_drewN hB' nq
          have hMv := hM'.others (keeps_drewN _ nq)
          have hKv := keeps_drewN W' nq
          have hBW := below_drewN (Below.refl w.heap.size W') nq
          clear bU' bL' bX' hown' hB' hM' cU' cX' cL' cY ltU' ltX' ltL'
          generalize W'.drewN nq = V at *
          have cL' := bLv.cell
          have hVs := hBv.size
          have hVL := bLv.lt
          have hVX := bXv.lt
          have hneL := bLv.not_row (by decide) hownv
          have hneX := bXv.not_row (by decide) hownv
          have hneU := bUv.not_row (by decide) hownv
          gi_wp2_with (gi_at_builtin; refine wpListIn_append_own _ rfl _ _ 44 rfl (w.heap.size + 1) 3 i0 (.int .i64 0) 1 8 Tryd.underlying44 hi hz0 hz1 hz2 rfl (by decide) _ _ _ rfl (hownv.alloc _) ⟨V.heap.size, 0, none⟩ 1 1 [.int .i64 (y.1 : Nat)] rfl rfl (cell_one_new _ _ _) (fun u hu => by simp at hu; subst hu; rfl) (by unfold maxLen; omega) (by omega) (by simp; omega) ?_; intro v' w3 hown3 hgrow3 _; obtain ⟨g', cap', rfl⟩ := ownsRow_succ hown3; have bL3 := (bLv.alloc (.cells #[.int .i64 (y.1 : Nat)] 3)).kept hgrow3 hneL; have bX3 := (bXv.alloc (.cells #[.int .i64 (y.1 : Nat)] 3)).kept hgrow3 hneX; have cL3 := bL3.cell; have fL3 := bL3.frozen)
          have hout : ∀ j, Value.ownBlock (.slice av L.length cv) = some j → w.heap.size ≤ j := fun j ej => by
            apply Nat.le_of_not_lt; intro hjl
            exact ownBlock_ge hownv (b := j) (by omega) ej.symm
          have bU3 := (bUv.alloc (.cells #[.int .i64 (y.1 : Nat)] 3)).kept hgrow3 hneU
          have hK3 : KeepsOthers W' w3 := (hKv.trans (KeepsOthers.alloc _ _)).trans (keeps_own (hownv.alloc _) hgrow3)
          have hB3 : Below w.heap.size w w3 := (hBv.alloc hVs _).grown hgrow3 (by simp; omega) hout
          have hM3 : Marks w.heap.size w3 W.heap.size ms := (hMv.others (KeepsOthers.alloc _ _)).others (keeps_own (hownv.alloc _) hgrow3)
          have hneL3 := bL3.not_row (by decide) hown3
          have hneX3 := bX3.not_row (by decide) hown3
          have bU4 := boxed_otherAt bU3 (b := w1.heap.size) (by omega) 0 (.slice (some ⟨g', 0, none⟩) (L.length + 1) cap')
          have bX4 := boxed_otherAt bX3 (b := w1.heap.size) (by omega) 0 (.slice (some ⟨g', 0, none⟩) (L.length + 1) cap')
          have bL4 := bL3.set (.slice (some ⟨g', 0, none⟩) (L.length + 1) cap')
          have hown4 := hown3.kept (grownBy_setCellAt w3 w1.heap.size 0 (.slice (some ⟨g', 0, none⟩) (L.length + 1) cap')) (.inr hneL3.symm)
          have hK4 := hK3.trans (KeepsOthers.setCell w3 ⟨w1.heap.size, 0, none⟩ (.slice (some ⟨g', 0, none⟩) (L.length + 1) cap'))
          have hB4 := hB3.setCell (p := ⟨w1.heap.size, 0, none⟩) (by simp; omega) (.slice (some ⟨g', 0, none⟩) (L.length + 1) cap')
          have hM4 := hM3.others (KeepsOthers.setCell w3 ⟨w1.heap.size, 0, none⟩ (.slice (some ⟨g', 0, none⟩) (L.length + 1) cap'))
          clear bU3 bX3 bL3 hown3 hK3 hB3 hM3 cL3 fL3 cL' bUv bLv bXv hownv hBv hMv hKv hBW hneL hneX hneU hneL3 hgrow3 hout
          generalize w3.setCell ⟨w1.heap.size, 0, none⟩ (.slice (some ⟨g', 0, none⟩) (L.length + 1) cap') = V4 at *
          have cX4 := bX4.cell
          have fX4 := bX4.frozen
          have hneX4 := bX4.not_row (by decide) hown4
          have hbn := bits_andN32 x (bitW y.1) hLeft.1 (bitW_lt (by omega))
          have hmx : Tryd.prog.follows .mixedOrders = true := by kernel_rfl
          first | gi_region_with_o (gi_at_call 45; refine (CallsIn.inRound l (callsIn_wide.2 (bit_any y.1 (by omega) _))).mono ?_; rintro e w' ⟨rfl, rfl⟩) | fail
          all_goals gi_wp2
          all_goals
            refine ⟨(hK4.trans (KeepsOthers.setCell _ _ _)).trans (KeepsOthers.drew _), y, some ⟨g', 0, none⟩, cap', ⟨⟨?_, ?_, ?_⟩, ?_⟩, ⟨?_, ?_⟩, rfl, Hr.out, pre, rfl, hno⟩
            · exact boxed_otherAt bU4 (by omega) _ _
            · rw [List.length_append]; exact boxed_otherAt bL4 (by omega) _ _
            · exact bX4.set _
            · rw [ivals_snoc, List.length_append]
              have hown5 := hown4.kept (grownBy_setCellAt V4 (w1.heap.size + 1) 0 (.int .u32 (andN x (bitW y.1) : Nat))) (.inr hneX4.symm)
              exact hown5
            · exact (hB4.setCell (p := ⟨w1.heap.size + 1, 0, none⟩) (by simp; omega) _).drew
            · exact (hM4.others (KeepsOthers.setCell _ _ _)).others (KeepsOthers.drew _)
      case done =>
        rintro D ys W' hD rfl ⟨⟨⟨bU', bL', bX'⟩, hown'⟩, ⟨hB', hM'⟩, hno⟩ hK
        exfalso
        obtain ⟨i, hi', hr⟩ := hA L (left_some (by rw [HL.out, sortF_len]; exact hlt))
        have hin : hasB x i = true := by rw [hLeft.2]; simp [hi', memB_false.2 (readyB_true.1 hr).1]
        rw [hno ⟨i, hin⟩ (mem_elemsS _ _)] at hr
        cases hr
      case stop =>
        rintro D c pre W' hD hpre ⟨y, av', cv', ⟨⟨bU', bL', bX'⟩, hown'⟩, ⟨hB', hM'⟩, rfl, hr, pre', rfl, hno⟩ hK
        have hDl : D < W'.heap.size := (Array.getElem?_eq_some_iff.1 hK).1
        have hnx := left_next hLeft _ hpre hno hr
        obtain ⟨L2, hL2⟩ : ∃ L2, L2 = L ++ [y.1] := ⟨_, rfl⟩
        have HL2 := hide (show L2 = sortF (aheadB es) es.length (k + 1) by rw [hL2, ← hnx, HL.out]; rfl)
        have hLf2 : LeftIs es.length L2 (andN x (bitW y.1)) := by rw [hL2]; exact left_step hLeft
        rw [← hL2] at bL' hown'
        clear hnx hL2 bY cX cL bL bX bU hown
        simp at hD
        gi_wp2
        exact ⟨⟨k + 1, { target := .collected D, args := #[] } :: ms, L2, av', cv', _, _, _, _, _, _, _, _, _, _, _, _, _, _, _, _, _, _, _, _, _, _, rfl, by omega, HL2.out, hLf2, ⟨bU', bL', bX'⟩, hown', hB', ⟨D, rfl, by omega, hDl, hK, hM'.mono (by omega)⟩⟩, by simp [intOf]; omega⟩
    · obtain rfl : k = es.length := by omega
      have e0 : L.length = es.length := by rw [HL.out, sortF_len]
      gi_wp2
      rw [e0] at hown
      refine leaves_marks (G := fun _ W' => W'.ownsRow (w.heap.size + 1) 3 1 (.slice av es.length cv) es.length (ivals L) ∧ Below w.heap.size w W') (OwnFrom.and (Own.from (ownsRow_own _ _ _ _ (fun _ => es.length) (fun _ => ivals L)) _) (ownFrom_below (Nat.le_refl _) (Nat.le_refl _))) (fun W' h => ?_) ms _ _ hM ⟨hown, hB⟩
      have e1 := HL.out
      subst e1
      exact ⟨_, results_tmp rfl _ _ _, av, cv, rfl, h.2, ownsRow_base h.1 (by omega)⟩
end Go.Proofs.YtekpielpfegclabDoor
