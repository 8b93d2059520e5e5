/- The contract of the program's leastOf: the least element of a word that has the number wanted. The contract of the program's others: each word without its own element. -/
import Derived.Test.YtemabboecmkoaaaDoorPart6
import Derived.Test.YtemabboecmkoaaaDoorPart4
import Derived.Test.YtemabboecmkoaaaDoorPart18
namespace Go.Proofs.YtemabboecmkoaaaDoor
open Go.RowKit Go.Shelf
attribute [local go_sem] Oper.semAt_some

/-- the lesser elements of a word come ahead -/
theorem elems_before {x : Nat} (h64 : x < 18446744073709551616) {pre : List (El x)} {y : El x} (hp : pre ++ [y] <+: elemsS x h64) {z : Nat} (hz : hasB x z = true) (hzy : z < y.1) : (⟨z, hz⟩ : El x) ∈ pre := by
  obtain ⟨t, ht⟩ := hp
  have hs := sorted_elems h64
  rw [← elemsS_val x h64, ← ht] at hs
  have hm : (⟨z, hz⟩ : El x) ∈ elemsS x h64 := mem_elemsS h64 _
  rw [← ht] at hm
  rcases List.mem_append.1 hm with hm | hm
  · rcases List.mem_append.1 hm with hm | hm
    · exact hm
    · simp at hm
      have : z = y.1 := by rw [← hm]
      omega
  · rw [List.map_append, List.pairwise_append] at hs
    have := hs.2.2 y.1 (by simp) z (List.mem_map.2 ⟨_, hm, rfl⟩)
    omega

theorem four_boxes (W : World) (t1 t2 t3 t4 : TypeId) (v1 v2 v3 v4 : Value) {W2 : World} (h : (((W.alloc (.cells #[v1] t1)).alloc (.cells #[v2] t2)).alloc (.cells #[v3] t3)).alloc (.cells #[v4] t4) = W2) :
    Boxed W2 W.heap.size t1 v1 ∧ Boxed W2 (W.heap.size + 1) t2 v2 ∧ Boxed W2 (W.heap.size + 1 + 1) t3 v3 ∧ Boxed W2 (W.heap.size + 1 + 1 + 1) t4 v4 ∧ W2.heap.size = W.heap.size + 4 ∧ Below W.heap.size W W2 := by
  subst h
  have b2 := Boxed.new (W.alloc (.cells #[v1] t1)) t2 v2
  have b3 := Boxed.new ((W.alloc (.cells #[v1] t1)).alloc (.cells #[v2] t2)) t3 v3
  have b4 := Boxed.new (((W.alloc (.cells #[v1] t1)).alloc (.cells #[v2] t2)).alloc (.cells #[v3] t3)) t4 v4
  simp only [World.size_alloc] at b2 b3 b4
  exact ⟨(((Boxed.new W t1 v1).alloc _).alloc _).alloc _, (b2.alloc _).alloc _, b3.alloc _, b4, by simp, ((((Below.refl _ _).alloc (Nat.le_refl _) _).alloc (by simp) _).alloc (by simp; omega) _).alloc (by simp; omega) _⟩

set_option maxRecDepth 100000 in
set_option maxHeartbeats 1000000 in
theorem leastOf_any (x : Nat) (a : Option Addr) (cap : Nat) (hs : List Nat) (want n₀ : Nat) (hx : x < 4294967296) (hin : ∀ y, hasB x y = true → y < hs.length) (hex : ∃ y, hasB x y = true ∧ wd hs y = want) (w : World) (hT : TabAt w) (hw : IsInts n₀ w a hs) (hg : 0 < n₀) (hn₀ : n₀ ≤ w.heap.size) :
    Calls Tryd.prog 34 #[.int .u32 (x : Nat), .slice a hs.length cap, .int .i64 (want : Nat)] w fun e w' => ∃ y : Nat, e = .returned (.int .i64 (y : Nat)) ∧ Below w.heap.size w w' ∧ hasB x y = true ∧ wd hs y = want ∧ ∀ z, z < y → hasB x z = true → wd hs z ≠ want := by
  have hfn := wide_fn
  have hdep := wide_depth
  obtain ⟨y0, hy0, hy0'⟩ := hex
  obtain ⟨b, off, rfl, hb, hc⟩ := hw.at (hin y0 hy0)
  have hbw : b < w.heap.size := by omega
  refine (callsIn_wide (n := 6)).1 ?_
  refine callsIn_of_wp_marks Tryd.func34 rfl trivial ?_ rfl
  simp only [Tryd.ntmps34, List.size_toArray, List.length_cons, List.length_nil, Nat.reduceAdd, Nat.reduceSub, Array.replicate_succ, Array.replicate_zero, List.push_toArray, List.append_toArray, List.nil_append, List.cons_append]
  gi_wp2_with (gi_at_call 43; refine (callsIn_wide.2 (bitsOf_any x _)).mono ?_; rintro e w' ⟨rfl, rfl⟩)
  obtain ⟨W2, hW2⟩ : ∃ W2, (((w.alloc (.cells #[.slice (some ⟨b, off, none⟩) hs.length cap] 25)).alloc (.cells #[.int .i64 (want : Nat)] 3)).alloc (.cells #[.int .i64 0] 3)).alloc (.cells #[.int .u32 (x : Nat)] 55) = W2 := ⟨_, rfl⟩
  rw [hW2]
  obtain ⟨b0, b1, b2, b3, hs2, hb2⟩ := four_boxes w _ _ _ _ _ _ _ _ hW2
  clear hW2
  have hT2 : TabAt W2 := hT.below hb2 (by omega)
  refine wpIn_rangeFunc_ownF rfl (by omega) (gf := 54) (lb := #[.pointer (some ⟨w.heap.size + 1 + 1 + 1, 0, none⟩)]) rfl trivial (enters_of Tryd.func54 (by kernel_rfl) rfl)
    (bitsOf_stops 5 (w.heap.size + 1 + 1 + 1) w.heap.size _ hx W2 (by omega) (by omega) b3.cell hT2 (by omega)) belowK_t (belowK_b (by omega)) (Below.refl _ _) (fun _ => rfl)
    (fun pre W' => (Boxed W' w.heap.size 25 (.slice (some ⟨b, off, none⟩) hs.length cap) ∧ (Boxed W' (w.heap.size + 1) 3 (.int .i64 (want : Nat)) ∧ Boxed W' (w.heap.size + 1 + 1) 3 (.int .i64 0))) ∧ (Below w.heap.size w W' ∧ ∀ z ∈ pre, wd hs z.1 ≠ want))
    (fun c pre W' => ∃ y : El x, Boxed W' (w.heap.size + 1 + 1) 3 (.int .i64 (y.1 : Nat)) ∧ (Below w.heap.size w W' ∧ (c = .ret ∧ wd hs y.1 = want ∧ ∃ pre', pre = pre' ++ [y] ∧ ∀ z ∈ pre', wd hs z.1 ≠ want)))
    (OwnFrom.and (OwnFrom.and (Own.from (boxed_own _ _ _) _) (OwnFrom.and (Own.from (boxed_own _ _ _) _) (Own.from (boxed_own _ _ _) _))) (OwnFrom.and (ownFrom_below (Nat.le_refl _) (by omega)) (ownFrom_pure _ _)))
    (fun c => ownFrom_ex fun y => OwnFrom.and (Own.from (boxed_own _ _ _) _) (OwnFrom.and (ownFrom_below (Nat.le_refl _) (by omega)) (ownFrom_pure _ _)))
    ⟨⟨b0, b1, b2⟩, hb2, by simp⟩
    (fun y => { tmps := #[.int .u32 (x : Nat), .slice (some ⟨b, off, none⟩) hs.length cap, .int .i64 (want : Nat), undef, .pointer (some ⟨w.heap.size, 0, none⟩), .pointer (some ⟨w.heap.size + 1, 0, none⟩), .pointer (some ⟨w.heap.size + 1 + 1, 0, none⟩), .int .i64 (y.1 : Nat), .int .u32 (x : Nat), .func (.func 54) #[] #[.pointer (some ⟨w.heap.size + 1 + 1 + 1, 0, none⟩)], .int .i64 (y.1 : Nat), undef, undef, undef, undef, undef, undef, undef], defers := [] }) ?assign ?body ?done ?stop
  case assign =>
    intro l x W' K hK
    gi_wp2
    exact hK
  case body =>
    rintro l pre y W' ⟨⟨b0', b1', b2'⟩, hB', hno⟩ _
    have hyn := hin y.1 y.2
    have c0 := b0'.cell
    have c1 := b1'.cell
    have c2 := b2'.cell
    have f2 := b2'.frozen
    have cY := ((hB'.cell (p := ⟨b, off + y.1, none⟩) hbw).trans (hc y.1 hyn))
    by_cases he : wd hs y.1 = want
    · have hd : (((wd hs y.1 : Nat) : Int) == (want : Int)) = true := by rw [beq_iff_eq]; omega
      have He := hide he
      clear he
      gi_wp2
      refine region_quietR l rfl (by kernel_rfl) (by kernel_rfl) (by kernel_rfl) ?_
      repeat (gi_big_quiet_step (fail))
      refine wpQuietIn_nil ?_
      intro _ hw'
      obtain ⟨nq, hw''⟩ := hw'
      subst hw''
      gi_wp2
      exact ⟨(keeps_drewN _ _).trans (KeepsOthers.setCell _ _ _), y, (show Boxed (W'.drewN nq) _ _ _ from b2').set _, (below_drewN hB' nq).setCell (p := ⟨w.heap.size + 1 + 1, 0, none⟩) (by simp; omega) _, rfl, He.out, pre, rfl, hno⟩
    · have hd : (((wd hs y.1 : Nat) : Int) == (want : Int)) = false := by rw [beq_eq_false_iff_ne]; omega
      have He := hide he
      clear he
      gi_wp2
      refine region_quietR l rfl (by kernel_rfl) (by kernel_rfl) (by kernel_rfl) ?_
      repeat (gi_big_quiet_step (fail))
      refine wpQuietIn_nil ?_
      intro _ hw'
      obtain ⟨nq, hw''⟩ := hw'
      subst hw''
      gi_wp2
      exact ⟨keeps_drewN _ _, below_drewN (Below.refl _ _) _, ⟨b0', b1', b2'⟩, below_drewN hB' nq, fun z hz => (List.mem_append.1 hz).elim (hno z) (fun e => by simp at e; subst e; exact He.out)⟩
  case done =>
    rintro D ys W' hD rfl ⟨_, _, hno⟩ hK
    exact absurd hy0' (hno ⟨y0, hy0⟩ (mem_elemsS _ _))
  case stop =>
    rintro D c pre W' hD hpre ⟨y, b2', hB', rfl, hr, pre', rfl, hno⟩ hK
    have hDl : D < W'.heap.size := (Array.getElem?_eq_some_iff.1 hK).1
    have Hr := hide hr
    clear hr
    gi_wp2
    refine leaves_marks (OwnFrom.and (Own.from (boxed_own (w.heap.size + 1 + 1) 3 (fun _ => .int .i64 (y.1 : Nat))) _) (ownFrom_below (Nat.le_refl _) (Nat.le_refl _))) (fun W' h => ?_) [{ target := .collected D, args := #[] }] W'.heap.size _ ⟨D, rfl, by omega, hDl, hK, trivial⟩ ⟨b2', hB'⟩
    have c2 := h.1.cell
    exact ⟨.int .i64 (y.1 : Nat), by simp [results, Tryd.results34, go_sem, c2], y.1, rfl, h.2, y.2, Hr.out, fun z hz hzx => hno _ (elems_before _ hpre hzx hz)⟩
end Go.Proofs.YtemabboecmkoaaaDoor

namespace Go.Proofs.YtemabboecmkoaaaDoor
open Go.RowKit Go.Shelf

set_option maxRecDepth 100000 in
set_option maxHeartbeats 1000000 in
theorem others_any (a : Option Addr) (cap : Nat) (us : List Nat) (n₀ : Nat) (hf : Fit us) (hl : us.length ≤ 16) (w : World) (hw : IsWords n₀ w a us) (hn₀ : n₀ ≤ w.heap.size) :
    Calls Tryd.prog 31 #[.slice a us.length cap] w fun e w' => e = .returned (.slice (some ⟨w.heap.size, 0, none⟩) us.length us.length) ∧ Below w.heap.size w w' ∧ Row w' w.heap.size 55 (wvals (othL us)) := by
  have hmk := run_make_row' (P := Tryd.prog) 22 55 (.int .u32 0) 4 Tryd.underlying22 info_u32 rfl .i64 .i64 us.length (by omega) (by omega)
  go_enter Tryd.func31, Tryd.ntmps31
  go_wp2
  go_loopw [11] (fun i wr => ∃ (k : Nat) (ds : List Nat), k ≤ us.length ∧ i = .int .i64 k ∧ ds.length = us.length ∧ (∀ j, j < k → wd ds j = andN (wd us j) (bitW j)) ∧ Row wr w.heap.size 55 (wvals ds) ∧ Below w.heap.size w wr) (fun i _ => us.length - (intOf i).toNat)
  case atStart =>
    have h1 := Row.new w 55 (wvals (List.replicate us.length 0))
    rw [← wvals_replicate] at h1
    exact ⟨0, _, Nat.zero_le _, rfl, by simp, fun j h => by omega, h1, (Below.refl _ _).alloc (Nat.le_refl _) _⟩
  case round =>
    clear hmk
    obtain ⟨k, ds, hk, rfl, hdl, hall, rD, hB⟩ := hrel
    by_cases hlt : k < us.length
    · obtain ⟨b, off, rfl, hb, hc⟩ := (hw.below (hB.mono hn₀)).at hlt
      have hck := hc k hlt
      clear hc
      have cK := rD.cell (wvals_at (us := ds) (i := k) (by omega))
      have fK := rD.frozen k
      have hbits := bits_andN32 (wd us k) (bitW k) (hf k) (bitW_lt (by omega))
      go_wp2_with (go_at_call 44; refine (bit_any _ (by omega) _).mono ?_; rintro e w' ⟨rfl, rfl⟩)
      refine ⟨⟨k + 1, ds.set k (andN (wd us k) (bitW k)), by omega, by go_num, by simp [hdl], fun j hj => ?_, by rw [← wvals_set]; exact rD.set k _, hB.setCell (p := ⟨w.heap.size, k, none⟩) (Nat.le_refl _) _⟩, by simp [intOf]; omega⟩
      rw [wd_set (by omega)]
      by_cases e : k = j
      · rw [if_pos e, e]
      · rw [if_neg e]; exact hall j (by omega)
    · obtain rfl : ds = othL us := wd_ext (by rw [othL_len]; exact hdl) fun i hi => by rw [hall i (by omega), wd_othL (by omega)]
      go_wp2
      go_ret
      exact ⟨rfl, hB, rD⟩
end Go.Proofs.YtemabboecmkoaaaDoor
