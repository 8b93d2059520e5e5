/- The contract of the closure in the program's reached: what is come to from an element, beside what is seen. -/
import Derived.Test.YtbdigkjahfdmjaaDoorReachPlain
import Derived.Test.YtbdigkjahfdmjaaDoorTurned
import Derived.WalkMore
namespace Go.Proofs.YtbdigkjahfdmjaaDoor
open Go.RowKit Go.Shelf
attribute [local go_sem] Oper.semAt_some

theorem keeps_below {W W' : World} (h : Below W.heap.size W W') : KeepsOthers W W' := ⟨h.size, fun k _ hk _ => (h.block k (Array.getElem?_eq_some_iff.1 hk).1).trans hk⟩

theorem two_boxes_drew (W : World) (t1 t2 : TypeId) (v1 v2 : Value) {W2 : World} (h : ((W.alloc (.cells #[v1] t1)).alloc (.cells #[v2] t2)).drew = W2) :
    Boxed W2 W.heap.size t1 v1 ∧ Boxed W2 (W.heap.size + 1) t2 v2 ∧ W2.heap.size = W.heap.size + 2 ∧ Below W.heap.size W W2 := by
  subst h
  have b2 := Boxed.new (W.alloc (.cells #[v1] t1)) t2 v2
  simp only [World.size_alloc] at b2
  exact ⟨(Boxed.new W t1 v1).alloc _, b2, by simp, (((Below.refl _ _).alloc (Nat.le_refl _) _).alloc (by simp) _).drew⟩

set_option maxRecDepth 100000 in
set_option maxHeartbeats 2000000 in
theorem come_any (Bn Bc : Nat) (a : Option Addr) (cap : Nat) (nx : List Nat) (n₀ : Nat) (hf : Fit nx) (hin : Inside nx) (hl : nx.length ≤ 16) (_hg : 0 < n₀) (hBn : Bn < n₀) (hBc : Bc < n₀) (m : Nat) : ∀ (x seen : Nat) (w : World), x < nx.length → seen < 4294967296 → hasB seen x = false → unseen nx.length seen ≤ m → TabAt w → IsWords n₀ w a nx → n₀ ≤ w.heap.size →
    w.cell? ⟨Bn, 0, none⟩ = some (.slice a nx.length cap) → w.cell? ⟨Bc, 0, none⟩ = some (.func (.func 49) #[] #[.pointer (some ⟨Bn, 0, none⟩), .pointer (some ⟨Bc, 0, none⟩)]) →
    Calls Tryd.prog 49 #[.int .i64 x, .int .u32 seen, .pointer (some ⟨Bn, 0, none⟩), .pointer (some ⟨Bc, 0, none⟩)] w fun e w' => ∃ s : Nat, e = .returned (.int .u32 (s : Nat)) ∧ Below w.heap.size w w' ∧ Dfs nx x seen s := by
  have hfn := wide_fn
  have hdep := wide_depth
  induction m with
  | zero =>
    intro x seen w hx _ hn hu
    exfalso
    have : x ∈ (List.range nx.length).filter fun z => !hasB seen z := List.mem_filter.2 ⟨List.mem_range.2 hx, by simp [hn]⟩
    have := List.length_pos_of_mem this
    unfold unseen at hu
    omega
  | succ m ih =>
    intro x seen w hx hs hn hu hT hw hn₀ hcN hcC
    obtain ⟨b, off, rfl, hb, hc⟩ := hw.at hx
    have cX := hc x hx
    have hbw : b < w.heap.size := by omega
    have hNw : Bn < w.heap.size := by omega
    have hor := bits_or32 seen (bitW x) hs (bitW_lt (by omega))
    have HN := hide hn
    clear hc hn
    refine (callsIn_wide (n := 6)).1 ?_
    refine callsIn_of_wp_marks Tryd.func49 rfl trivial ?_ rfl
    simp only [Tryd.ntmps49, List.size_toArray, List.length_cons, List.length_nil, Nat.reduceAdd, Nat.reduceSub, Array.replicate_succ, Array.replicate_zero, List.push_toArray, List.append_toArray, List.nil_append, List.cons_append]
    gi_wp2
    have hmx : Tryd.prog.follows .mixedOrders = true := by kernel_rfl
    first | gi_region_with_o (gi_at_call 48; refine (callsIn_wide.2 (bit_any x (by omega) _)).mono ?_; rintro e w' ⟨rfl, rfl⟩) | fail
    all_goals gi_wp2_with (gi_at_call 37; refine (callsIn_wide.2 (bitsOf_any (wd nx x) _)).mono ?_; rintro e w' ⟨rfl, rfl⟩)
    all_goals
      obtain ⟨W2, hW2⟩ : ∃ W2, ((w.alloc (.cells #[.int .u32 (orW seen (bitW x) : Nat)] 36)).alloc (.cells #[.int .u32 (wd nx x : Nat)] 36)).drew = W2 := ⟨_, rfl⟩
      rw [hW2]
      obtain ⟨bS, bX, hs2, hb2⟩ := two_boxes_drew w _ _ _ _ hW2
      clear hW2
      have hT2 : TabAt W2 := hT.below hb2 (by omega)
      refine wpIn_rangeFunc_ownF rfl (by omega) (gf := 51) (lb := #[.pointer (some ⟨w.heap.size + 1, 0, none⟩)]) rfl trivial (enters_of Tryd.func51 (by kernel_rfl) rfl)
        (bitsOf_stops 5 (w.heap.size + 1) w.heap.size _ (hf x) W2 (by omega) (by omega) bX.cell hT2 (by omega)) belowK_t (belowK_b (by omega)) (Below.refl _ _) (fun _ => rfl)
        (fun pre W' => ∃ s, Boxed W' w.heap.size 36 (.int .u32 (s : Nat)) ∧ (Below w.heap.size w W' ∧ DfsTo nx x seen (pre.map (·.1)) s))
        (fun _ _ _ => False)
        (ownFrom_ex fun s => OwnFrom.and (Own.from (boxed_own _ _ _) _) (OwnFrom.and (ownFrom_below (Nat.le_refl _) (by omega)) (ownFrom_pure _ _)))
        (fun _ _ _ _ _ hs _ _ => hs)
        ⟨_, bS, hb2, DfsTo.start hs (by omega)⟩
        (fun y => { tmps := #[.int .i64 (x : Nat), .int .u32 (seen : Nat), .pointer (some ⟨Bn, 0, none⟩), .pointer (some ⟨Bc, 0, none⟩), undef, .pointer (some ⟨w.heap.size, 0, none⟩), .int .u32 0, .int .i64 (y.1 : Nat), .int .u32 (seen : Nat), .int .i64 (x : Nat), .int .u32 (bitW x : Nat), .int .u32 (orW seen (bitW x) : Nat), .slice (some ⟨b, off, none⟩) nx.length cap, .int .i64 (x : Nat), .pointer (some ⟨b, off + x, none⟩), .int .u32 (wd nx x : Nat), .func (.func 51) #[] #[.pointer (some ⟨w.heap.size + 1, 0, none⟩)], .int .i64 (y.1 : Nat), undef, undef, undef, undef, undef, undef, undef, undef, undef], defers := [] }) ?assign ?body ?done ?stop
      case assign =>
        intro l x W' K hK
        gi_wp2
        exact hK
      case body =>
        rintro l pre y W' ⟨s, bS', hB', hD⟩ _
        have hyn : y.1 < nx.length := hin x hx y.1 (hasB_lt (hf x) y.2) y.2
        have cS' := bS'.cell
        have ltS := bS'.lt
        have hs' := hB'.size
        have hhas := has_any s y.1 hD.lt (by omega)
        have cC' := (hB'.cell (p := ⟨Bc, 0, none⟩) (show Bc < w.heap.size by omega)).trans hcC
        have cN' := (hB'.cell (p := ⟨Bn, 0, none⟩) hNw).trans hcN
        cases hh : hasB s y.1 with
        | true =>
          simp only [hh] at hhas
          have HH := hide hh
          clear hh
          gi_wp2_with (gi_at_call 50; refine (CallsIn.inRound l (callsIn_wide.2 (hhas _))).mono ?_; rintro e w' ⟨rfl, rfl⟩)
          exact ⟨KeepsOthers.refl _, Below.refl _ _, s, bS', hB', by rw [List.map_append]; exact hD.skip HH.out⟩
        | false =>
          simp only [hh] at hhas
          have hlt := unseen_lt hx HN.out hD.keeps hD.has
          have hrec := ih y.1 s W' hyn hD.lt hh (by omega) (hT.below hB' (by omega)) (hw.below (hB'.mono hn₀)) (by omega) cN' cC'
          clear hh
          gi_wp2_with (first
            | (gi_at_call 50; refine (CallsIn.inRound l (callsIn_wide.2 (hhas _))).mono ?_; rintro e w' ⟨rfl, rfl⟩)
            | (gi_at_call 49; refine (CallsIn.inRound l (callsIn_wide.2 hrec)).mono ?_; rintro e w4 ⟨s2, rfl, hb4, hd4⟩; have bS4 : Boxed w4 w.heap.size 36 (.int .u32 (s : Nat)) := (hb4.block _ ltS).trans bS'; have cS4 := bS4.cell; have fS4 := bS4.frozen))
          exact ⟨(keeps_below hb4).trans (KeepsOthers.setCell _ _ _), (hb4.mono hs').setCell (p := ⟨w.heap.size, 0, none⟩) (Nat.le_refl _) _, s2, bS4.set _, (hB'.trans (hb4.mono hs')).setCell (p := ⟨w.heap.size, 0, none⟩) (Nat.le_refl _) _, by rw [List.map_append]; exact hD.call y.2 hd4⟩
      case done =>
        rintro D ys W' hD rfl ⟨s, bS', hB', hDf⟩ hK
        have hDl : D < W'.heap.size := (Array.getElem?_eq_some_iff.1 hK).1
        rw [elemsS_val] at hDf
        have hDn := hDf.done (fun y hy => (mem_elems (by have := hf x; omega) y).2 hy)
        have cS' := bS'.cell
        gi_wp2
        refine leaves_marks (G := fun _ W' => Below w.heap.size w W') (ownFrom_below (Nat.le_refl _) (Nat.le_refl _)) (fun W' h => ?_) [{ target := .collected D, args := #[] }] W'.heap.size _ ⟨D, rfl, by omega, hDl, hK, trivial⟩ hB'
        exact ⟨_, results_tmp rfl _ _ _, s, rfl, h, hDn⟩
      case stop =>
        rintro D c pre W' _ _ h _
        exact h.elim
end Go.Proofs.YtbdigkjahfdmjaaDoor
