/- The contract of the closure in the program's anti: what is come to from an element by links. -/
import Derived.Test.YtnlkjklcikolaaaDoorLinkPlain
import Derived.WalkMore
namespace Go.Proofs.YtnlkjklcikolaaaDoor
open Go.RowKit Go.Shelf
attribute [local go_sem] Oper.semAt_some

theorem after_or {w : World} {Bw Bu : Nat} {t : TypeId} {v u : Value} (bW : Boxed w Bw t v) (bU : Boxed w Bu t u) (hne : Bw ≠ Bu) (v' z : Value) (t' : TypeId) {W2 : World} (h : ((w.setCell ⟨Bw, 0, none⟩ v').alloc (.cells #[z] t')).drew = W2) :
    KeepX (Two Bw Bu) w W2 ∧ Boxed W2 Bw t v' ∧ Boxed W2 Bu t u ∧ Boxed W2 w.heap.size t' z ∧ W2.heap.size = w.heap.size + 1 := by
  have hs : (w.setCell ⟨Bw, 0, none⟩ v').heap.size = w.heap.size := by simp
  have hb : Below (w.setCell ⟨Bw, 0, none⟩ v').heap.size (w.setCell ⟨Bw, 0, none⟩ v') W2 := by
    rw [← h]; exact ((Below.refl _ _).alloc (Nat.le_refl _) _).drew
  have ltW := bW.lt
  have ltU := bU.lt
  have b1 : Boxed (w.setCell ⟨Bw, 0, none⟩ v') Bw t v' := bW.set _
  have b2 : Boxed (w.setCell ⟨Bw, 0, none⟩ v') Bu t u := (Below.heap_setCell w ⟨Bw, 0, none⟩ v' Bu (fun e => hne e.symm)).trans bU
  refine ⟨((KeepX.refl _ w).set (.inl rfl) v').trans (.of_below hb), (hb.block _ (by omega)).trans b1, (hb.block _ (by omega)).trans b2, ?_, by rw [← h]; simp⟩
  have := Boxed.new (w.setCell ⟨Bw, 0, none⟩ v') t' z
  rw [hs] at this
  rw [← h]; exact this

set_option maxRecDepth 100000 in
set_option maxHeartbeats 4000000 in
theorem acome_any (Bw Ba Bu Bl Bc : Nat) (a : Option Addr) (cap : Nat) (es : List Nat) (aN : Option Addr) (cN : Nat) (aP : Option Addr) (cP : Nat) (pz : List Int) (n₁ : Nat) (w₀ : World) (hf : Fit es) (hin : Inside es) (hl : es.length ≤ 16) (hpz : LinkZ es.length pz) (hg : 0 < n₁) (hn1 : n₁ ≤ w₀.heap.size) (hT : TabAt w₀) (hw : IsWords n₁ w₀ a es) (hz : ZInts n₁ w₀ aP pz) (hBw : n₁ ≤ Bw) (hBu : n₁ ≤ Bu) (hne : Bw ≠ Bu) (hxa : ¬ Two Bw Bu Ba) (hxl : ¬ Two Bw Bu Bl) (hxc : ¬ Two Bw Bu Bc)
    (fA : Boxed w₀ Ba 22 (.slice a es.length cap)) (fL : Row w₀ Bl 43 [.slice aN es.length cN, .slice aP es.length cP]) (fC : Boxed w₀ Bc 52 (.func (.func 26) #[] #[.pointer (some ⟨Bw, 0, none⟩), .pointer (some ⟨Ba, 0, none⟩), .pointer (some ⟨Bu, 0, none⟩), .pointer (some ⟨Bl, 0, none⟩), .pointer (some ⟨Bc, 0, none⟩)])) (m : Nat) :
    ∀ (x lo hi : Nat) (w : World), x < es.length → lo < 4294967296 → hi < 4294967296 → hasB lo x = false → unseen es.length lo ≤ m → KeepX (Two Bw Bu) w₀ w → Boxed w Bw 25 (.int .u32 (lo : Nat)) → Boxed w Bu 25 (.int .u32 (hi : Nat)) →
    Calls Tryd.prog 26 #[.int .i64 x, .pointer (some ⟨Bw, 0, none⟩), .pointer (some ⟨Ba, 0, none⟩), .pointer (some ⟨Bu, 0, none⟩), .pointer (some ⟨Bl, 0, none⟩), .pointer (some ⟨Bc, 0, none⟩)] w fun e w' => ∃ lo' hi' : Nat, e = .returned (.tuple #[]) ∧ KeepX (Two Bw Bu) w w' ∧ Boxed w' Bw 25 (.int .u32 (lo' : Nat)) ∧ Boxed w' Bu 25 (.int .u32 (hi' : Nat)) ∧ Came (upE es) (optZ pz) x lo hi lo' hi' := by
  have hfn := wide_fn
  have hdep := wide_depth
  induction m with
  | zero =>
    intro x lo hi w hx _ _ hn hu
    exfalso
    have : x ∈ (List.range es.length).filter fun z => !hasB lo z := List.mem_filter.2 ⟨List.mem_range.2 hx, by simp [hn]⟩
    have := List.length_pos_of_mem this
    unfold unseen at hu
    omega
  | succ m ih =>
    intro x lo hi w hx hlo hhi hn hu hk bW bU
    have hB0 : Below n₁ w₀ w := hk.below hn1 (by rintro k (rfl | rfl) <;> omega)
    have hks := hk.size
    obtain ⟨b, off, rfl, hb, hc⟩ := (hw.below hB0).at hx
    have cX := hc x hx
    have hbw : b < w.heap.size := by omega
    have cA := (hk.boxed fA hxa).cell
    have cW := bW.cell
    have fW := bW.frozen
    have ltW := bW.lt
    have hor := bits_or32 lo (bitW x) hlo (bitW_lt (by omega))
    have hAne : Ba ≠ Bw := fun e => hxa (.inl e)
    have hbne : b ≠ Bw := by omega
    have HN := hide hn
    clear hc hn
    refine (callsIn_wide (n := 6)).1 ?_
    refine callsIn_of_wp_marks Tryd.func26 rfl trivial ?_ rfl
    simp only [Tryd.ntmps26, List.size_toArray, List.length_cons, List.length_nil, Nat.reduceAdd, Nat.reduceSub, Array.replicate_succ, Array.replicate_zero, List.push_toArray, List.append_toArray, List.nil_append, List.cons_append]
    gi_wp2
    have hmx : Tryd.prog.follows .mixedOrders = true := by kernel_rfl
    first | gi_region_with_o (gi_at_call 23; refine (callsIn_wide.2 (bit_any x (by omega) _)).mono ?_; rintro e w' ⟨rfl, rfl⟩) | fail
    all_goals gi_wp2_with (gi_at_call 27; refine (callsIn_wide.2 (bitsOf_any (wd es x) _)).mono ?_; rintro e w' ⟨rfl, rfl⟩)
    all_goals
      obtain ⟨W2, hW2⟩ : ∃ W2, ((w.setCell ⟨Bw, 0, none⟩ (.int .u32 (orW lo (bitW x) : Nat))).alloc (.cells #[.int .u32 (wd es x : Nat)] 25)).drew = W2 := ⟨_, rfl⟩
      rw [hW2]
      obtain ⟨k2, bW2, bU2, bX, hs2⟩ := after_or bW bU hne _ _ _ hW2
      clear hW2
      have hB2 : Below n₁ w W2 := k2.below (by omega) (by rintro k (rfl | rfl) <;> omega)
      have hT2 : TabAt W2 := (hT.below hB0 hg).below hB2 hg
      refine wpIn_rangeFunc_ownF rfl (by omega) (gf := 32) (lb := #[.pointer (some ⟨w.heap.size, 0, none⟩)]) rfl trivial (enters_of Tryd.func32 (by kernel_rfl) rfl)
        (bitsOf_stops 5 w.heap.size n₁ _ (hf x) W2 (by omega) (by omega) bX.cell hT2 hg) belowK_t (belowK_b (by omega)) (Below.refl _ _) (fun _ => rfl)
        (fun pre W' => ∃ lo', ∃ hi', Boxed W' Bw 25 (.int .u32 (lo' : Nat)) ∧ (Boxed W' Bu 25 (.int .u32 (hi' : Nat)) ∧ (KeepX (Two Bw Bu) w W' ∧ ComeTo (upE es) (optZ pz) x lo hi (pre.map (·.1)) lo' hi')))
        (fun _ _ _ => False)
        (ownFrom_ex fun lo' => ownFrom_ex fun hi' => OwnFrom.and (Own.from (boxed_own _ _ _) _) (OwnFrom.and (Own.from (boxed_own _ _ _) _) (OwnFrom.and (ownFrom_keepX (by omega)) (ownFrom_pure _ _))))
        (fun _ _ _ _ _ hs _ _ => hs)
        ⟨_, _, bW2, bU2, k2, ComeTo.start hlo hhi (by omega)⟩
        (fun y => { tmps := #[.int .i64 (x : Nat), .pointer (some ⟨Bw, 0, none⟩), .pointer (some ⟨Ba, 0, none⟩), .pointer (some ⟨Bu, 0, none⟩), .pointer (some ⟨Bl, 0, none⟩), .pointer (some ⟨Bc, 0, none⟩), undef, .int .i64 (y.1 : Nat), undef, .int .u32 (lo : Nat), .int .i64 (x : Nat), .int .u32 (bitW x : Nat), .int .u32 (orW lo (bitW x) : Nat), .slice (some ⟨b, off, none⟩) es.length cap, .int .i64 (x : Nat), .pointer (some ⟨b, off + x, none⟩), .int .u32 (wd es x : Nat), .func (.func 32) #[] #[.pointer (some ⟨w.heap.size, 0, none⟩)], .int .i64 (y.1 : Nat), undef, undef, undef, undef, undef, undef, undef, undef, undef, undef, undef, undef, undef, undef, undef, undef, undef, undef, undef, undef], defers := [] }) ?assign ?body ?done ?stop
      case assign =>
        intro l x W' K hK
        gi_wp2
        exact hK
      case body =>
        rintro l pre y W' ⟨lo', hi', bW', bU', kk, hC⟩ _
        have hyn : y.1 < es.length := hin x hx y.1 (hasB_lt (hf x) y.2) y.2
        have hup : upE es x y.1 := ⟨hx, y.2⟩
        have cW' := bW'.cell
        have cU' := bU'.cell
        have fU' := bU'.frozen
        have ltU := bU'.lt
        have kAll := hk.trans kk
        have hB' : Below n₁ w₀ W' := kAll.below hn1 (by rintro k (rfl | rfl) <;> omega)
        have hsz := kAll.size
        obtain ⟨bz, oz, rfl, hbz, hcz⟩ := (hz.below hB').at (i := y.1) (by rw [hpz.1]; exact hyn)
        have cP := hcz y.1 (by rw [hpz.1]; exact hyn)
        have cL := (kAll.row fL hxl).cell (i := 1) rfl
        have cC := (kAll.boxed fC hxc).cell
        have hLne : Bl ≠ Bu := fun e => hxl (.inr e)
        have hCne : Bc ≠ Bu := fun e => hxc (.inr e)
        have hzne : bz ≠ Bu := by omega
        have hor' := bits_or32 hi' (bitW y.1) hC.lt2 (bitW_lt (by omega))
        clear hcz
        have hbit := bit_any y.1 (by omega)
        have hcells : ∀ k, Two Bw Bu k → ∃ cs t o, W'.heap[k]? = some (.cells cs t o) := by
          rintro k (rfl | rfl)
          · exact ⟨_, _, _, bW'⟩
          · exact ⟨_, _, _, bU'⟩
        have hfin : ∀ {W3 : World} {lo2 hi2 : Nat}, KeepX (Two Bw Bu) W' W3 → Boxed W3 Bw 25 (.int .u32 (lo2 : Nat)) → Boxed W3 Bu 25 (.int .u32 (hi2 : Nat)) → ComeTo (upE es) (optZ pz) x lo hi (pre.map (·.1) ++ [y.1]) lo2 hi2 → KeepsOthers W' W3 ∧ Below n₁ W' W3 ∧ ∃ lo', ∃ hi', Boxed W3 Bw 25 (.int .u32 (lo' : Nat)) ∧ (Boxed W3 Bu 25 (.int .u32 (hi' : Nat)) ∧ (KeepX (Two Bw Bu) w W3 ∧ ComeTo (upE es) (optZ pz) x lo hi ((pre ++ [y]).map (·.1)) lo' hi')) := fun k3 b3 u3 c3 =>
          ⟨k3.others hcells, k3.below (by omega) (by rintro k (rfl | rfl) <;> omega), _, _, b3, u3, kk.trans k3, by rw [List.map_append]; exact c3⟩
        have kU : KeepX (Two Bw Bu) W' (W'.setCell ⟨Bu, 0, none⟩ (.int .u32 (orW hi' (bitW y.1) : Nat))) := (KeepX.refl _ W').set (.inr rfl) _
        have bU3 : Boxed (W'.setCell ⟨Bu, 0, none⟩ (.int .u32 (orW hi' (bitW y.1) : Nat))) Bu 25 (.int .u32 (orW hi' (bitW y.1) : Nat)) := bU'.set _
        have bW3 : Boxed (W'.setCell ⟨Bu, 0, none⟩ (.int .u32 (orW hi' (bitW y.1) : Nat))) Bw 25 (.int .u32 (lo' : Nat)) := (Below.heap_setCell W' ⟨Bu, 0, none⟩ _ Bw hne).trans bW'
        have hlenP : pz.length = es.length := hpz.1
        have hmx : Tryd.prog.follows .mixedOrders = true := by kernel_rfl
        rcases hpz.2 y.1 hyn with e0 | ⟨p, hpn, e0⟩
        · have hskip := hC.skip (b := y.1) (by omega) hup (fun p e => by
            unfold optZ at e; rw [e0] at e; simp at e)
          rw [e0] at cP
          clear hC hpz ih hcells e0
          gi_wp2
          first | gi_region_with_o (gi_at_call 23; refine (CallsIn.inRound l (callsIn_wide.2 (hbit _))).mono ?_; rintro e w' ⟨rfl, rfl⟩) | fail
          all_goals gi_wp2
          all_goals exact hfin (kU.trans (.of_below (Below.refl _ _).drew)) bW3 bU3 hskip
        · have hopt : optZ pz y.1 = some p := by
            unfold optZ; rw [e0, if_pos ⟨by omega, by omega⟩]; simp
          rw [e0] at cP
          have hnp : ((p : Int) != (-1)) = true := by rw [bne_iff_ne]; omega
          rcases two_ways (hasB lo' p) with hh | hh
          · have hlt := unseen_lt hx HN.out hC.keep1 hC.has
            have hrec := ih p lo' (orW hi' (bitW y.1)) (W'.setCell ⟨Bu, 0, none⟩ (.int .u32 (orW hi' (bitW y.1) : Nat))).drew hpn hC.lt1 (orW_lt hC.lt2 (bitW_lt (by omega))) hh (by omega) (kAll.trans (kU.trans (.of_below (Below.refl _ _).drew))) bW3 bU3
            have hhas := has_any lo' p hC.lt1 (by omega)
            simp only [hh] at hhas
            have hcall := fun lo2 hi2 => hC.call (lo2 := lo2) (hi2 := hi2) (by omega) hup hopt
            clear hC hpz ih hcells e0 hopt hh hlt
            gi_wp2
            first | gi_region_with_o (gi_at_call 23; refine (CallsIn.inRound l (callsIn_wide.2 (hbit _))).mono ?_; rintro e w' ⟨rfl, rfl⟩) | fail
            all_goals gi_wp2_with (first
              | (gi_at_call 28; refine (CallsIn.inRound l (callsIn_wide.2 (hhas _))).mono ?_; rintro e w' ⟨rfl, rfl⟩)
              | (gi_at_call 26; refine (CallsIn.inRound l (callsIn_wide.2 hrec)).mono ?_; rintro e w4 ⟨lo2, hi2, rfl, k4, b4, u4, hcame⟩))
            all_goals exact hfin ((kU.trans (.of_below (Below.refl _ _).drew)).trans k4) b4 u4 (hcall lo2 hi2 hcame)
          · have hskip := hC.skip (b := y.1) (by omega) hup (fun q e => by rw [hopt] at e; cases e; exact hh)
            have hhas := has_any lo' p hC.lt1 (by omega)
            simp only [hh] at hhas
            clear hC hpz ih hcells e0 hopt hh
            gi_wp2
            first | gi_region_with_o (gi_at_call 23; refine (CallsIn.inRound l (callsIn_wide.2 (hbit _))).mono ?_; rintro e w' ⟨rfl, rfl⟩) | fail
            all_goals gi_wp2_with (gi_at_call 28; refine (CallsIn.inRound l (callsIn_wide.2 (hhas _))).mono ?_; rintro e w' ⟨rfl, rfl⟩)
            all_goals exact hfin (kU.trans (.of_below (Below.refl _ _).drew)) bW3 bU3 hskip
      case done =>
        rintro D ys W' hD rfl ⟨lo', hi', bW', bU', kk, hC⟩ hK
        have hDl : D < W'.heap.size := (Array.getElem?_eq_some_iff.1 hK).1
        rw [elemsS_val] at hC
        have hDn := hC.done (fun y hy => (mem_elems (by have := hf x; omega) y).2 hy.2)
        gi_wp2
        refine leaves_marks (G := fun _ W' => Boxed W' Bw 25 (.int .u32 (lo' : Nat)) ∧ (Boxed W' Bu 25 (.int .u32 (hi' : Nat)) ∧ KeepX (Two Bw Bu) w W')) (n₀ := w.heap.size) (OwnFrom.and (Own.from (boxed_own Bw _ fun _ => _) _) (OwnFrom.and (Own.from (boxed_own Bu _ fun _ => _) _) (ownFrom_keepX (Nat.le_refl _)))) (fun W' h => ?_) [{ target := .collected D, args := #[] }] W'.heap.size _ ⟨D, rfl, by omega, hDl, hK, trivial⟩ ⟨bW', bU', kk⟩
        exact ⟨_, results_none rfl _ _ _, lo', hi', rfl, h.2.2, h.1, h.2.1, hDn⟩
      case stop =>
        rintro D c pre W' _ _ h _
        exact h.elim
end Go.Proofs.YtnlkjklcikolaaaDoor
