/- The contract of the program's others: each word without its own element. The contract of the program's Covers: what is wrong, or the pairs of which one covers the other. -/
import Derived.Test.YtdomcjfgmnpbmaaDoorPart14
import Derived.Test.YtdomcjfgmnpbmaaDoorPart9
import Derived.Test.YtdomcjfgmnpbmaaDoorPart8
import Derived.Test.YtdomcjfgmnpbmaaDoorPart27
import Derived.Test.YtdomcjfgmnpbmaaDoorPart15
import Derived.Test.YtdomcjfgmnpbmaaDoorPart5
namespace Go.Proofs.YtdomcjfgmnpbmaaDoor
open Go.RowKit Go.Shelf

set_option maxRecDepth 100000 in
set_option maxHeartbeats 1000000 in
theorem others_any (a : Option Addr) (cap : Nat) (us : List Nat) (n₀ : Nat) (hf : Fit us) (hl : us.length ≤ 16) (w : World) (hw : IsWords n₀ w a us) (hn₀ : n₀ ≤ w.heap.size) :
    Calls Tryd.prog 65 #[.slice a us.length cap] w fun e w' => e = .returned (.slice (some ⟨w.heap.size, 0, none⟩) us.length us.length) ∧ Below w.heap.size w w' ∧ Row w' w.heap.size 53 (wvals (othL us)) := by
  have hmk := run_make_row' (P := Tryd.prog) 22 53 (.int .u32 0) 4 Tryd.underlying22 info_u32 rfl .i64 .i64 us.length (by omega) (by omega)
  go_enter Tryd.func65, Tryd.ntmps65
  go_wp2
  go_loopw [11] (fun i wr => ∃ (k : Nat) (ds : List Nat), k ≤ us.length ∧ i = .int .i64 k ∧ ds.length = us.length ∧ (∀ j, j < k → wd ds j = andN (wd us j) (bitW j)) ∧ Row wr w.heap.size 53 (wvals ds) ∧ Below w.heap.size w wr) (fun i _ => us.length - (intOf i).toNat)
  case atStart =>
    have h1 := Row.new w 53 (wvals (List.replicate us.length 0))
    rw [← wvals_replicate] at h1
    exact ⟨0, _, Nat.zero_le _, rfl, by simp, fun j h => by omega, h1, (Below.refl _ _).alloc (Nat.le_refl _) _⟩
  case round =>
    clear hmk
    obtain ⟨k, ds, hk, rfl, hdl, hall, rD, hB⟩ := hrel
    by_cases hlt : k < us.length
    · obtain ⟨b, off, rfl, hb, hc⟩ := (hw.below (hB.mono hn₀)).at hlt
      have hck := hc k hlt
      clear hc
      have cK := rD.cell (wvals_at (us := ds) (i := k) (by omega))
      have fK := rD.frozen k
      have hbits := bits_andN32 (wd us k) (bitW k) (hf k) (bitW_lt (by omega))
      go_wp2_with (go_at_call 67; refine (bit_any _ (by omega) _).mono ?_; rintro e w' ⟨rfl, rfl⟩)
      refine ⟨⟨k + 1, ds.set k (andN (wd us k) (bitW k)), by omega, by go_num, by simp [hdl], fun j hj => ?_, by rw [← wvals_set]; exact rD.set k _, hB.setCell (p := ⟨w.heap.size, k, none⟩) (Nat.le_refl _) _⟩, by simp [intOf]; omega⟩
      rw [wd_set (by omega)]
      by_cases e : k = j
      · rw [if_pos e, e]
      · rw [if_neg e]; exact hall j (by omega)
    · obtain rfl : ds = othL us := wd_ext (by rw [othL_len]; exact hdl) fun i hi => by rw [hall i (by omega), wd_othL (by omega)]
      go_wp2
      go_ret
      exact ⟨rfl, hB, rD⟩
end Go.Proofs.YtdomcjfgmnpbmaaDoor

namespace Go.Proofs.YtdomcjfgmnpbmaaDoor
open Go.RowKit Go.Shelf
attribute [local go_sem] Oper.semAt_some

set_option maxRecDepth 100000 in
set_option maxHeartbeats 1000000 in
theorem Covers_bad (n : Int) (a : Option Addr) (cap : Nat) (us : List Nat) (n₀ : Nat) (hf : Fit us) (w : World) (hT : TabAt w) (hw : IsWords n₀ w a us) (hg : 0 < n₀) (hn₀ : n₀ ≤ w.heap.size) (hc : codeOf n us ≠ 0) :
    Calls Tryd.prog 45 #[.agg #[.int .i64 n, .slice a us.length cap]] w fun e w' => e = .returned (.tuple #[.slice none 0 0, .int .i64 (codeOf n us)]) ∧ Below w.heap.size w w' := by
  have hfn := wide_fn
  have hdep := wide_depth
  have r0 := Row.new w 24 [.int .i64 n, .slice a us.length cap]
  have hb0 : Below w.heap.size w (w.alloc (.cells #[.int .i64 n, .slice a us.length cap] 24)) := (Below.refl _ _).alloc (Nat.le_refl _) _
  have hck := Check_any n a cap us n₀ hf _ (hT.below hb0 (by omega)) (hw.below (hb0.mono hn₀)) hg (by simp; omega)
  generalize codeOf n us = c at *
  have hne : (c != 0) = true := by rw [bne_iff_ne]; exact hc
  have Hb := hide hb0
  clear hb0 hc
  refine (callsIn_wide (n := 6)).1 ?_
  refine callsIn_of_wp_marks Tryd.func45 rfl trivial ?_ rfl
  simp only [Tryd.ntmps45, List.size_toArray, List.length_cons, List.length_nil, Nat.reduceAdd, Nat.reduceSub, Array.replicate_succ, Array.replicate_zero, List.push_toArray, List.append_toArray, List.nil_append, List.cons_append]
  gi_wp2_with (gi_at_call 38; refine (callsIn_wide.2 hck).mono ?_; rintro e w1 ⟨rfl, hb1⟩)
  refine leaves_marks (G := fun _ W => Below w.heap.size w W) (ownFrom_below (Nat.le_refl _) (Nat.le_refl _)) (fun W' h => ?_) [] 0 _ trivial (Hb.out.trans (hb1.mono (by simp)))
  exact ⟨_, results_tmp2 rfl _ _ _, rfl, h⟩

set_option maxRecDepth 100000 in
set_option maxHeartbeats 2000000 in
theorem Covers_ok (n : Int) (a : Option Addr) (cap : Nat) (us : List Nat) (n₀ : Nat) (hf : Fit us) (w : World) (hT : TabAt w) (hw : IsWords n₀ w a us) (hg : 0 < n₀) (hn₀ : n₀ ≤ w.heap.size) (hc : codeOf n us = 0) :
    Calls Tryd.prog 45 #[.agg #[.int .i64 n, .slice a us.length cap]] w fun e w' => ∃ av cv, e = .returned (.tuple #[.slice av (coverL us us.length).length cv, .int .i64 0]) ∧ Below w.heap.size w w' ∧ w'.ownsRow w.heap.size 82 2 (.slice av (coverL us us.length).length cv) (coverL us us.length).length (pvals (coverL us us.length)) := by
  have hfn := wide_fn
  have hdep := wide_depth
  obtain ⟨h0, h16, hlen, hin, hord⟩ := code_zero hc
  have r0 := Row.new w 24 [.int .i64 n, .slice a us.length cap]
  have hb0 : Below w.heap.size w (w.alloc (.cells #[.int .i64 n, .slice a us.length cap] 24)) := (Below.refl _ _).alloc (Nat.le_refl _) _
  have hT1 := hT.below hb0 (by omega)
  have hw1 := hw.below (hb0.mono hn₀)
  have hck := Check_any n a cap us n₀ hf _ hT1 hw1 hg (by simp; omega)
  rw [hc] at hck
  have hl16 : us.length ≤ 16 := by omega
  have c00 := r0.cell (i := 0) rfl
  have c01 := r0.cell (i := 1) rfl
  clear h0 hlen hord hc
  refine (callsIn_wide (n := 6)).1 ?_
  refine callsIn_of_wp_marks Tryd.func45 rfl trivial ?_ rfl
  simp only [Tryd.ntmps45, List.size_toArray, List.length_cons, List.length_nil, Nat.reduceAdd, Nat.reduceSub, Array.replicate_succ, Array.replicate_zero, List.push_toArray, List.append_toArray, List.nil_append, List.cons_append]
  gi_wp2_with (gi_at_call 38; refine (callsIn_wide.2 hck).mono ?_; rintro e w1 ⟨rfl, hb1⟩; have q0 := Row.below r0 hb1 r0.lt; have d00 := q0.cell (i := 0) rfl; have d01 := q0.cell (i := 1) rfl)
  have hB1 : Below w.heap.size w w1 := hb0.trans (hb1.mono (by simp))
  have hs1 := hB1.size
  have lt0 := q0.lt
  have hT1' : TabAt w1 := hT.below hB1 (by omega)
  have hw1' : IsWords n₀ w1 a us := hw.below (hB1.mono hn₀)
  clear hck hT1 hw1 r0 c00 c01 hb0 hb1
  refine (callsIn_wide.2 (others_any a cap us n₀ hf hl16 w1 hw1' (by omega))).mono ?_
  rintro e w2 ⟨rfl, hb2, rA⟩
  have hs2 := hb2.size
  have p0 := Row.below q0 hb2 lt0
  have hB2 : Below w.heap.size w w2 := hB1.trans (hb2.mono hs1)
  have e00 := p0.cell (i := 0) rfl
  have e01 := p0.cell (i := 1) rfl
  have ltA := rA.lt
  have lt02 := p0.lt
  clear d00 d01 q0
  gi_wp2_with fail
  obtain ⟨W3, hW3⟩ : ∃ W3, w2.alloc (.cells #[.slice (some ⟨w1.heap.size, 0, none⟩) us.length us.length] 22) = W3 := ⟨_, rfl⟩
  have hs3 : W3.heap.size = w2.heap.size + 1 := by rw [← hW3]; simp
  have hb3 : Below w2.heap.size w2 W3 := by rw [← hW3]; exact (Below.refl _ _).alloc (Nat.le_refl _) _
  have bA : Boxed W3 w2.heap.size 22 (.slice (some ⟨w1.heap.size, 0, none⟩) us.length us.length) := by rw [← hW3]; exact Boxed.new w2 _ _
  rw [hW3]
  have h3a : w2.heap.size + 1 ≤ W3.heap.size := by omega
  have h3b : W3.heap.size ≤ w2.heap.size + 1 := by omega
  clear hW3 hs3
  have hB3 : Below w.heap.size w W3 := hB2.trans (hb3.mono (by omega))
  refine (callsIn_wide.2 (turned_any a cap us n₀ hf hin hl16 W3 (hT.below hB3 (by omega)) (hw.below (hB3.mono hn₀)) hg (by omega))).mono ?_
  rintro e w4 ⟨ds, rfl, hb4, rT, hTur⟩
  have hs4 := hb4.size
  have hB4 : Below w.heap.size w w4 := hB3.trans (hb4.mono (by omega))
  have rA4 : Row w4 w1.heap.size 53 (wvals (othL us)) := Row.below (Row.below rA hb3 ltA) hb4 (by omega)
  have bA4 : Boxed w4 w2.heap.size 22 (.slice (some ⟨w1.heap.size, 0, none⟩) us.length us.length) := (hb4.block _ bA.lt).trans bA
  have ltT := rT.lt
  have hoth := others_any (some ⟨W3.heap.size, 0, none⟩) us.length ds w4.heap.size hTur.fit (by rw [hTur.len]; exact hl16) w4 (rT.words ltT) (Nat.le_refl _)
  rw [hTur.len] at hoth
  clear e00 e01 rA bA
  gi_wp2_with fail
  refine (callsIn_wide.2 hoth).mono ?_
  rintro e w5 ⟨rfl, hb5, rC⟩
  have hs5 := hb5.size
  have hB5 : Below w.heap.size w w5 := hB4.trans (hb5.mono (by omega))
  have rA5 := Row.below rA4 hb5 rA4.lt
  have bA5 : Boxed w5 w2.heap.size 22 (.slice (some ⟨w1.heap.size, 0, none⟩) us.length us.length) := (hb5.block _ bA4.lt).trans bA4
  have cA5 := bA5.cell
  have ltC := rC.lt
  have ltA5 := bA5.lt
  clear hoth
  gi_wp2
  refine wpIn_loop (fun ac W => ∃ (k : Nat) (ms : List Deferred) (L : List (Nat × Nat)) (av : Option Addr) (cv : Nat) (u8 u9 u25 u26 u27 u28 u29 u30 u31 u32 u33 u34 u35 u36 u37 u38 u39 u40 u41 u42 u43 u44 u45 u46 u47 u48 u49 : Value), ac = { tmps := #[.agg #[.int .i64 n, .slice a us.length cap], .pointer (some ⟨w.heap.size, 0, none⟩), .slice none 0 0, .int .i64 0, .int .i64 0, .pointer (some ⟨w2.heap.size, 0, none⟩), .pointer (some ⟨w5.heap.size, 0, none⟩), .pointer (some ⟨w5.heap.size + 1, 0, none⟩), u8, u9, .agg #[.int .i64 n, .slice a us.length cap], .int .i64 0, .int .i64 0, .bool false, undef, .pointer (some ⟨w.heap.size, 1, none⟩), .slice a us.length cap, .slice (some ⟨w1.heap.size, 0, none⟩) us.length us.length, .pointer (some ⟨w.heap.size, 1, none⟩), .slice a us.length cap, .slice (some ⟨W3.heap.size, 0, none⟩) us.length us.length, .slice (some ⟨w4.heap.size, 0, none⟩) us.length us.length, .slice (some ⟨w1.heap.size, 0, none⟩) us.length us.length, .int .i64 us.length, .int .i64 (k : Nat), u25, u26, u27, u28, u29, u30, u31, u32, u33, u34, u35, u36, u37, u38, u39, u40, u41, u42, u43, u44, u45, u46, u47, u48, u49, undef], defers := ms } ∧ k ≤ us.length ∧ L = coverL us k ∧ (Row W w1.heap.size 53 (wvals (othL us)) ∧ Boxed W w2.heap.size 22 (.slice (some ⟨w1.heap.size, 0, none⟩) us.length us.length) ∧ Row W w4.heap.size 53 (wvals (othL ds)) ∧ Boxed W w5.heap.size 22 (.slice (some ⟨w4.heap.size, 0, none⟩) us.length us.length)) ∧ Boxed W (w5.heap.size + 1) 78 (.slice av L.length cv) ∧ W.ownsRow (w5.heap.size + 1 + 1) 82 2 (.slice av L.length cv) L.length (pvals L) ∧ Below w.heap.size w W ∧ Marks w.heap.size W W.heap.size ms) (fun ac _ => us.length - (intOf (ac.tmps.getD 24 undef)).toNat) ?start ?round
  case start =>
    have h2 := Boxed.new (w5.alloc (.cells #[.slice (some ⟨w4.heap.size, 0, none⟩) us.length us.length] 22)) 78 (.slice none 0 0)
    rw [World.size_alloc] at h2
    exact ⟨0, [], [], none, 0, _, _, _, _, _, _, _, _, _, _, _, _, _, _, _, _, _, _, _, _, _, _, _, _, _, _, _, rfl, Nat.zero_le _, rfl, ⟨(rA5.alloc _).alloc _, (bA5.alloc _).alloc _, (rC.alloc _).alloc _, (Boxed.new w5 _ _).alloc _⟩, h2, World.ownsRow_nil .., (hB5.alloc (by omega) _).alloc (by simp; omega) _, trivial⟩
  case round =>
    have hltC : w4.heap.size < w5.heap.size := ltC
    have hltAb : w2.heap.size < w4.heap.size := bA4.lt
    have hltA : w1.heap.size < w2.heap.size := ltA
    obtain ⟨i0, hi, hz0, hz1, hz2⟩ := info_parts info_pair
    clear cA5 rA5 bA5 rA4 bA4 rC rT hb5 hb4 hb3 hb2 p0 hT1' hw1' hB1 hB2 hB3 hB4 hB5
    rintro _ W ⟨k, ms, L, av, cv, u8, u9, u25, u26, u27, u28, u29, u30, u31, u32, u33, u34, u35, u36, u37, u38, u39, u40, u41, u42, u43, u44, u45, u46, u47, u48, u49, rfl, hk, hL, ⟨rA, bA, rC, bC⟩, bL, hown, hB, hM⟩
    have HL := hide hL
    clear hL
    have cA := bA.cell
    have cL := bL.cell
    have hsz := hB.size
    have hltL := bL.lt
    have hltA2 := bA.lt
    have hltA1 := rA.lt
    by_cases hlt : k < us.length
    · have cAk := rA.cell (wvals_at (us := othL us) (i := k) (by rw [othL_len]; exact hlt))
      gi_wp2_with (gi_at_call 66; refine (callsIn_wide.2 (bitsOf_any (wd (othL us) k) _)).mono ?_; rintro e w' ⟨rfl, rfl⟩)
      obtain ⟨W2, hW2⟩ : ∃ W2, (W.alloc (.cells #[.int .i64 (k : Nat)] 3)).alloc (.cells #[.int .u32 (wd (othL us) k : Nat)] 53) = W2 := ⟨_, rfl⟩
      rw [hW2]
      obtain ⟨bI, bX, hs2, hb2, hk2, hbx⟩ := two_boxes W _ _ _ _ hW2
      have rA2 : Row W2 w1.heap.size 53 (wvals (othL us)) := by rw [← hW2]; exact (rA.alloc _).alloc _
      have rC2 : Row W2 w4.heap.size 53 (wvals (othL ds)) := by rw [← hW2]; exact (rC.alloc _).alloc _
      have hown2 : W2.ownsRow (w5.heap.size + 1 + 1) 82 2 (.slice av L.length cv) L.length (pvals L) := by rw [← hW2]; exact (hown.alloc _).alloc _
      clear hW2
      have hT2 : TabAt W2 := (hT.below hB (by omega)).below hb2 (by omega)
      have hfk : wd (othL us) k < 4294967296 := othL_fit hf k
      refine wpIn_rangeFunc_ownF rfl (by omega) (gf := 74) (lb := #[.pointer (some ⟨W.heap.size + 1, 0, none⟩)]) rfl trivial (enters_of Tryd.func74 (by kernel_rfl) rfl)
        (bitsOf_stops 5 (W.heap.size + 1) w.heap.size _ hfk W2 (by omega) (by omega) bX.cell hT2 (by omega)) belowK_t (belowK_b (by omega)) (Below.refl _ _) (fun _ => rfl)
        (fun pre W' => ∃ (av : Option Addr) (cv : Nat), ((Row W' w1.heap.size 53 (wvals (othL us)) ∧ Boxed W' w2.heap.size 22 (.slice (some ⟨w1.heap.size, 0, none⟩) us.length us.length)) ∧ (Row W' w4.heap.size 53 (wvals (othL ds)) ∧ Boxed W' w5.heap.size 22 (.slice (some ⟨w4.heap.size, 0, none⟩) us.length us.length))) ∧ ((Boxed W' (w5.heap.size + 1) 78 (.slice av (L ++ coverPart us k (pre.map (·.1))).length cv) ∧ W'.ownsRow (w5.heap.size + 1 + 1) 82 2 (.slice av (L ++ coverPart us k (pre.map (·.1))).length cv) (L ++ coverPart us k (pre.map (·.1))).length (pvals (L ++ coverPart us k (pre.map (·.1))))) ∧ (Boxed W' W.heap.size 3 (.int .i64 (k : Nat)) ∧ (Below w.heap.size w W' ∧ Marks w.heap.size W' W.heap.size ms))))
        (fun _ _ _ => False)
        (ownFrom_ex fun av => ownFrom_ex fun cv => OwnFrom.and (OwnFrom.and (OwnFrom.and (Own.from (row_own _ _ _) _) (Own.from (boxed_own _ _ _) _)) (OwnFrom.and (Own.from (row_own _ _ _) _) (Own.from (boxed_own _ _ _) _)))
          (OwnFrom.and (OwnFrom.and (Own.from (boxed_own (w5.heap.size + 1) 78 (fun pre : List (El (wd (othL us) k)) => Value.slice av (L ++ coverPart us k (pre.map (·.1))).length cv)) _) (fun s X Y row hs hg hr => ownsRow_own (w5.heap.size + 1 + 1) 82 2 (.slice av (L ++ coverPart us k (s.map (·.1))).length cv) (fun _ : Unit => (L ++ coverPart us k (s.map (·.1))).length) (fun _ => pvals (L ++ coverPart us k (s.map (·.1)))) () X Y row hs hg (fun r e => (hr r e).2)))
            (OwnFrom.and (Own.from (boxed_own _ _ _) _) (OwnFrom.and (ownFrom_below (Nat.le_refl _) (by omega)) (marks_own (by omega) ms)))))
        (fun _ _ _ _ _ hs _ _ => hs)
        ⟨av, cv, ⟨⟨rA2, hbx _ _ _ bA⟩, rC2, hbx _ _ _ bC⟩, ⟨by simpa [coverPart] using hbx _ _ _ bL, by simpa [coverPart] using hown2⟩, bI, hB.trans (hb2.mono hsz), hM.others hk2⟩
        (fun y => { tmps := #[.agg #[.int .i64 n, .slice a us.length cap], .pointer (some ⟨w.heap.size, 0, none⟩), .slice none 0 0, .int .i64 0, .int .i64 0, .pointer (some ⟨w2.heap.size, 0, none⟩), .pointer (some ⟨w5.heap.size, 0, none⟩), .pointer (some ⟨w5.heap.size + 1, 0, none⟩), .pointer (some ⟨W.heap.size, 0, none⟩), .int .i64 (y.1 : Nat), .agg #[.int .i64 n, .slice a us.length cap], .int .i64 0, .int .i64 0, .bool false, undef, .pointer (some ⟨w.heap.size, 1, none⟩), .slice a us.length cap, .slice (some ⟨w1.heap.size, 0, none⟩) us.length us.length, .pointer (some ⟨w.heap.size, 1, none⟩), .slice a us.length cap, .slice (some ⟨W3.heap.size, 0, none⟩) us.length us.length, .slice (some ⟨w4.heap.size, 0, none⟩) us.length us.length, .slice (some ⟨w1.heap.size, 0, none⟩) us.length us.length, .int .i64 us.length, .int .i64 (k : Nat), .bool true, .int .i64 (k : Nat), .slice (some ⟨w1.heap.size, 0, none⟩) us.length us.length, .int .i64 (k : Nat), .pointer (some ⟨w1.heap.size, k, none⟩), .int .u32 (wd (othL us) k : Nat), .func (.func 74) #[] #[.pointer (some ⟨W.heap.size + 1, 0, none⟩)], .int .i64 (y.1 : Nat), u33, u34, u35, u36, u37, u38, u39, u40, u41, u42, u43, u44, u45, u46, u47, u48, u49, undef], defers := [] }) ?assign ?body ?done ?stop
      case assign =>
        intro l x W' K hK
        gi_wp2
        exact hK
      case body =>
        rintro l pre y W' ⟨av', cv', ⟨⟨rA', bA'⟩, rC', bC'⟩, ⟨bL', hown'⟩, bI', hB', hM'⟩ hpl
        have hu : underB us k y.1 = true := by rw [← hasB_above hf hlt]; exact y.2
        have hyn : y.1 < us.length := under_lt hf hin hlt hu
        have hpart := coverPart_snoc us k (pre.map (·.1)) y.1
        have hlp : (L ++ coverPart us k (pre.map (·.1))).length ≤ 512 := by
          have h1 := coverL_len us k
          have h2 := coverPart_len us k (pre.map (·.1))
          have h3 : k * us.length ≤ 16 * 16 := Nat.mul_le_mul (by omega) hl16
          have h4 := elems_len (x := wd (othL us) k) (n := us.length) (by omega) (fun j hj => under_lt hf hin hlt (by rw [← hasB_above hf hlt]; exact hj))
          rw [List.length_append, HL.out]; simp only [List.length_map] at h2; omega
        obtain ⟨Lp, hLp⟩ : ∃ Lp, L ++ coverPart us k (pre.map (·.1)) = Lp := ⟨_, rfl⟩
        rw [hLp] at bL' hown' hlp
        have HP := hide hLp
        have HS := hide hpart
        clear hLp hpart
        have cA' := bA'.cell
        have cC' := bC'.cell
        have cI' := bI'.cell
        have cL' := bL'.cell
        have cAk' := rA'.cell (wvals_at (us := othL us) (i := k) (by rw [othL_len]; exact hlt))
        have cCy := rC'.cell (wvals_at (us := othL ds) (i := y.1) (by rw [othL_len, hTur.len]; exact hyn))
        have hbits := bits_and32 (wd (othL us) k) (wd (othL ds) y.1) hfk (othL_fit hTur.fit _)
        have hciff := cover_iff hf hin hTur hlt hu
        have ltI := bI'.lt
        have ltL' := bL'.lt
        cases hcb : coverB us k y.1 with
        | false =>
          have hne : andW (wd (othL us) k) (wd (othL ds) y.1) ≠ 0 := fun e => by rw [hciff.1 e] at hcb; cases hcb
          have hd : (((andW (wd (othL us) k) (wd (othL ds) y.1) : Nat) : Int) == 0) = false := by rw [beq_eq_false_iff_ne]; omega
          have HC := hide hcb
          clear hcb hne hciff hu
          gi_wp2
          refine region_quietR l rfl (by kernel_rfl) (by kernel_rfl) (by kernel_rfl) ?_
          repeat (gi_big_quiet_step (fail))
          refine wpQuietIn_nil ?_
          intro _ hw'
          obtain ⟨nq, hw''⟩ := hw'
          subst hw''
          gi_wp2
          have e1 : L ++ coverPart us k ((pre ++ [y]).map (·.1)) = Lp := by rw [List.map_append]; show L ++ coverPart us k (pre.map (·.1) ++ [y.1]) = Lp; rw [HS.out, HC.out, ← HP.out]; simp
          exact ⟨keeps_drewN _ _, below_drewN (Below.refl _ _) _, av', cv', ⟨⟨rA', bA'⟩, rC', bC'⟩, ⟨by rw [e1]; exact bL', by rw [e1]; exact hown'⟩, bI', below_drewN hB' nq, hM'.others (keeps_drewN _ nq)⟩
        | true =>
          have hz := hciff.2 hcb
          rw [hz] at hbits
          have HC := hide hcb
          clear hcb hz hciff hu
          gi_wp2
          refine region_quietR l rfl (by kernel_rfl) (by kernel_rfl) (by kernel_rfl) ?_
          repeat (gi_big_quiet_step (fail))
          refine wpQuietIn_nil ?_
          intro _ hw'
          obtain ⟨nq, hw''⟩ := hw'
          subst hw''
          have rAv : Row (W'.drewN nq) w1.heap.size 53 (wvals (othL us)) := rA'
          have rCv : Row (W'.drewN nq) w4.heap.size 53 (wvals (othL ds)) := rC'
          have bAv : Boxed (W'.drewN nq) w2.heap.size 22 (.slice (some ⟨w1.heap.size, 0, none⟩) us.length us.length) := bA'
          have bCv : Boxed (W'.drewN nq) w5.heap.size 22 (.slice (some ⟨w4.heap.size, 0, none⟩) us.length us.length) := bC'
          have bLv : Boxed (W'.drewN nq) (w5.heap.size + 1) 78 (.slice av' Lp.length cv') := bL'
          have bIv : Boxed (W'.drewN nq) W.heap.size 3 (.int .i64 (k : Nat)) := bI'
          have hownv : (W'.drewN nq).ownsRow (w5.heap.size + 1 + 1) 82 2 (.slice av' Lp.length cv') Lp.length (pvals Lp) := hown'
          have hBv := below_drewN hB' nq
          have hMv := hM'.others (keeps_drewN _ nq)
          have hKv := keeps_drewN W' nq
          have hBW := below_drewN (Below.refl w.heap.size W') nq
          clear rA' rC' bA' bC' bL' bI' hown' hB' hM' cA' cC' cI' cL' cAk' cCy
          generalize W'.drewN nq = V at *
          have cI' := bIv.cell
          have cL' := bLv.cell
          have hVs := hBv.size
          have hVL := bLv.lt
          have hneL := ownBlock_ge hownv (b := w5.heap.size + 1) (by omega)
          gi_wp2_with (gi_at_builtin; refine wpListIn_append_own _ rfl _ _ 78 rfl (w5.heap.size + 1 + 1) 82 i0 (.agg #[.int .i64 0, .int .i64 0]) 2 16 Tryd.underlying78 hi hz0 hz1 hz2 rfl (by decide) _ _ _ rfl (hownv.alloc _) ⟨V.heap.size, 0, none⟩ 1 1 [.int .i64 (k : Nat), .int .i64 (y.1 : Nat)] rfl rfl (cell_two_new _ _ _ _) (fun x hx => by simp at hx; rcases hx with rfl | rfl <;> rfl) (by unfold maxLen; omega) (by omega) (by simp; omega) ?_; intro v' w3 hown3 hgrow3 _; obtain ⟨g', cap', rfl⟩ := ownsRow_succ hown3; have bL3 := (bLv.alloc (.cells #[.int .i64 (k : Nat), .int .i64 (y.1 : Nat)] 82)).kept hgrow3 hneL; have cL3 := bL3.cell; have fL3 := bL3.frozen)
          have hout : ∀ j, Value.ownBlock (.slice av' Lp.length cv') = some j → w.heap.size ≤ j := fun j ej => by
            apply Nat.le_of_not_lt; intro hjl
            exact ownBlock_ge hownv (b := j) (by omega) ej.symm
          have e1 : L ++ coverPart us k ((pre ++ [y]).map (·.1)) = Lp ++ [(k, y.1)] := by rw [List.map_append]; show L ++ coverPart us k (pre.map (·.1) ++ [y.1]) = _; rw [HS.out, HC.out, ← HP.out]; simp
          refine ⟨((hKv.trans (KeepsOthers.alloc _ _)).trans (keeps_own (hownv.alloc _) hgrow3)).trans (KeepsOthers.setCell _ _ _),
            ((hBW.alloc (by omega) _).grown hgrow3 (by simp; omega) hout).setCell (p := ⟨w5.heap.size + 1, 0, none⟩) (by simp; omega) _, some ⟨g', 0, none⟩, cap', ⟨⟨?_, ?_⟩, ?_, ?_⟩, ⟨?_, ?_⟩, ?_, ?_, ?_⟩
          · exact ((rAv.alloc _).kept hgrow3 (ownBlock_ge hownv (by omega))).other (by omega) _ _
          · exact boxed_otherAt ((bAv.alloc _).kept hgrow3 (ownBlock_ge hownv (by omega))) (by omega) _ _
          · exact ((rCv.alloc _).kept hgrow3 (ownBlock_ge hownv (by omega))).other (by omega) _ _
          · exact boxed_otherAt ((bCv.alloc _).kept hgrow3 (ownBlock_ge hownv (by omega))) (by omega) _ _
          · rw [e1, List.length_append]; exact bL3.set _
          · rw [e1, pvals_snoc, List.length_append]; exact ownsRow_setAt hown3 (by omega) _ _
          · have hneI : some W.heap.size ≠ Value.ownBlock (.slice av' Lp.length cv') := fun e => (bIv.not_row (by decide) hownv) e
            exact boxed_otherAt ((bIv.alloc _).kept hgrow3 hneI) (by omega) _ _
          · exact (((hBv.alloc (by omega) _).grown hgrow3 (by simp; omega) hout)).setCell (p := ⟨w5.heap.size + 1, 0, none⟩) (by simp; omega) _
          · exact ((hMv.others (KeepsOthers.alloc _ _)).others (keeps_own (hownv.alloc _) hgrow3)).others (KeepsOthers.setCell _ _ _)
      case done =>
        rintro D ys W' hD rfl ⟨av', cv', ⟨⟨rA', bA'⟩, rC', bC'⟩, ⟨bL', hown'⟩, bI', hB', hM'⟩ hK
        have hDl : D < W'.heap.size := (Array.getElem?_eq_some_iff.1 hK).1
        rw [elemsS_val, coverPart_all hf hin hlt] at bL' hown'
        obtain ⟨L2, hL2⟩ : ∃ L2, L2 = L ++ coverRow us k us.length := ⟨_, rfl⟩
        rw [← hL2] at bL' hown'
        have HL2 := hide (show L2 = coverL us (k + 1) by rw [hL2, HL.out]; rfl)
        clear hL2
        clear bI bX bI' hown2 hown rA2 rC2 rA rC bA bC bL cA cL
        gi_wp2
        exact ⟨⟨k + 1, { target := .collected D, args := #[] } :: ms, L2, av', cv', _, _, _, _, _, _, _, _, _, _, _, _, _, _, _, _, _, _, _, _, _, _, _, _, _, _, _, rfl, by omega, HL2.out, ⟨rA', bA', rC', bC'⟩, bL', hown', hB', ⟨D, rfl, by omega, hDl, hK, hM'.mono (by omega)⟩⟩, by simp [intOf]; omega⟩
      case stop =>
        rintro D c pre W' _ _ h _
        exact h.elim
    · obtain rfl : k = us.length := by omega
      gi_wp2
      have e0 := HL.out
      subst e0
      refine leaves_marks (G := fun _ W' => W'.ownsRow (w5.heap.size + 1 + 1) 82 2 (.slice av (coverL us us.length).length cv) (coverL us us.length).length (pvals (coverL us us.length)) ∧ Below w.heap.size w W') (OwnFrom.and (Own.from (ownsRow_own _ _ _ _ (fun _ => (coverL us us.length).length) (fun _ => pvals (coverL us us.length))) _) (ownFrom_below (Nat.le_refl _) (Nat.le_refl _))) (fun W' h => ?_) ms _ _ hM ⟨hown, hB⟩
      exact ⟨_, results_tmp2 rfl _ _ _, av, cv, rfl, h.2, ownsRow_base h.1 (by omega)⟩
end Go.Proofs.YtdomcjfgmnpbmaaDoor
