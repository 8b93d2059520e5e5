/- The contract of the closure in the program's link: it finds a next one for an element, moving links on the way, or tells that there is none. -/
import Derived.Test.YtnlkjklcikolaaaDoorUnlinked
import Derived.Test.YtnlkjklcikolaaaDoorHeldRound
import Derived.StillTailTactics
namespace Go.Proofs.YtnlkjklcikolaaaDoor
open Go.RowKit Go.Shelf
attribute [local go_sem] Oper.semAt_some

theorem three_boxes_at (w : World) (t1 t2 t3 : TypeId) (v1 v2 v3 : Value) {W : World} (h : ((w.alloc (.cells #[v1] t1)).alloc (.cells #[v2] t2)).alloc (.cells #[v3] t3) = W) :
    Boxed W w.heap.size t1 v1 ∧ Boxed W (w.heap.size + 1) t2 v2 ∧ Boxed W (w.heap.size + 1 + 1) t3 v3 ∧ W.heap.size = w.heap.size + 1 + 1 + 1 ∧ Below w.heap.size w W := by
  subst h
  have b1 := ((Boxed.new w t1 v1).alloc (.cells #[v2] t2)).alloc (.cells #[v3] t3)
  have b2 := (Boxed.new (w.alloc (.cells #[v1] t1)) t2 v2).alloc (.cells #[v3] t3)
  have b3 := Boxed.new ((w.alloc (.cells #[v1] t1)).alloc (.cells #[v2] t2)) t3 v3
  simp only [World.size_alloc] at b2 b3
  exact ⟨b1, b2, b3, by simp, (((Below.refl _ _).alloc (Nat.le_refl _) _).alloc (by simp) _).alloc (by simp; omega) _⟩

theorem KeepX.setNew {X : Nat → Prop} {w W : World} (h : KeepX X w W) {b i : Nat} (hb : w.heap.size ≤ b) (v : Value) : KeepX X w (W.setCell ⟨b, i, none⟩ v) :=
  ⟨h.os, h.tape, h.output, Nat.le_trans h.size (KeepsOthers.setCell W ⟨b, i, none⟩ v).size, fun k hk hx => (Below.heap_setCell W ⟨b, i, none⟩ v k (fun e => by have : k = b := e; omega)).trans (h.same k hk hx)⟩

/-- what a call of place leaves -/
structure Placed (Bs gN gP n : Nat) (es : List Nat) (nz pz : List Int) (sn x : Nat) (w : World) (r : Bool) (w' : World) (sn' : Nat) (nz' pz' : List Int) : Prop where
  keep : KeepX (Three Bs gN gP) w w'
  lt : sn' < 4294967296
  box : Boxed w' Bs 25 (.int .u32 (sn' : Nat))
  rowN : Row w' gN 3 (zvals nz')
  rowP : Row w' gP 3 (zvals pz')
  linkN : LinkZ n nz'
  linkP : LinkZ n pz'
  yes : r = true → Moved (upE es) (optZ nz) (optZ pz) (fun z => hasB sn z = true) x (optZ nz') (optZ pz')
  no : r = false → nz' = nz ∧ pz' = pz ∧ Stuck (upE es) (optZ pz) (fun z => hasB sn z = true) (fun z => hasB sn' z = true) (upE es x)

set_option maxRecDepth 100000 in
set_option maxHeartbeats 4000000 in
theorem place_any (Bs Ba Bl Bc gN gP : Nat) (a : Option Addr) (cap : Nat) (es : List Nat) (n₁ : Nat) (w₀ : World) (hf : Fit es) (hin : Inside es) (hl : es.length ≤ 16) (hg : 0 < n₁) (hn1 : n₁ ≤ w₀.heap.size) (hT : TabAt w₀) (hw : IsWords n₁ w₀ a es) (hBs : n₁ ≤ Bs) (hgN : n₁ ≤ gN) (hgP : n₁ ≤ gP) (hne1 : Bs ≠ gN) (hne2 : Bs ≠ gP) (hne3 : gN ≠ gP) (hls : Bs < w₀.heap.size) (hlN : gN < w₀.heap.size) (hlP : gP < w₀.heap.size) (hxa : ¬ Three Bs gN gP Ba) (hxl : ¬ Three Bs gN gP Bl) (hxc : ¬ Three Bs gN gP Bc)
    (fA : Boxed w₀ Ba 22 (.slice a es.length cap)) (fL : Row w₀ Bl 43 [.slice (some ⟨gN, 0, none⟩) es.length es.length, .slice (some ⟨gP, 0, none⟩) es.length es.length]) (fC : Boxed w₀ Bc 56 (.func (.func 31) #[] #[.pointer (some ⟨Ba, 0, none⟩), .pointer (some ⟨Bs, 0, none⟩), .pointer (some ⟨Bl, 0, none⟩), .pointer (some ⟨Bc, 0, none⟩)])) (m : Nat) :
    ∀ (x sn : Nat) (nz pz : List Int) (w : World), x < es.length → sn < 4294967296 → unseen es.length sn < m → LinkZ es.length nz → LinkZ es.length pz → Mat (upE es) (optZ nz) (optZ pz) → (∀ y, optZ nz x = some y → hasB sn y = true) → KeepX (Three Bs gN gP) w₀ w → Boxed w Bs 25 (.int .u32 (sn : Nat)) → Row w gN 3 (zvals nz) → Row w gP 3 (zvals pz) →
    Calls Tryd.prog 31 #[.int .i64 x, .pointer (some ⟨Ba, 0, none⟩), .pointer (some ⟨Bs, 0, none⟩), .pointer (some ⟨Bl, 0, none⟩), .pointer (some ⟨Bc, 0, none⟩)] w fun e w' => ∃ r sn' nz' pz', e = .returned (.bool r) ∧ Placed Bs gN gP es.length es nz pz sn x w r w' sn' nz' pz' := by
  have hfn := wide_fn
  have hdep := wide_depth
  induction m with
  | zero => intro x sn nz pz w _ _ hu; omega
  | succ m ih =>
    intro x sn nz pz w hx hsn hu lN lP hMat hnx hk bS rN rP
    have hX : ∀ k, Three Bs gN gP k → n₁ ≤ k := by rintro k (rfl | rfl | rfl) <;> assumption
    have hB0 : Below n₁ w₀ w := hk.below hn1 hX
    have hks := hk.size
    obtain ⟨b, off, rfl, hb, hc⟩ := (hw.below hB0).at hx
    have cX := hc x hx
    have hbw : b < w.heap.size := by omega
    have cA := (hk.boxed fA hxa).cell
    have lA := (hk.boxed fA hxa).lt
    clear hc
    refine (callsIn_wide (n := 6)).1 ?_
    refine callsIn_of_wp_marks Tryd.func31 rfl trivial ?_ rfl
    simp only [Tryd.ntmps31, List.size_toArray, List.length_cons, List.length_nil, Nat.reduceAdd, Nat.reduceSub, Array.replicate_succ, Array.replicate_zero, List.push_toArray, List.append_toArray, List.nil_append, List.cons_append]
    gi_wp2_with (gi_at_call 27; refine (callsIn_wide.2 (bitsOf_any (wd es x) _)).mono ?_; rintro e w' ⟨rfl, rfl⟩)
    obtain ⟨W2, hW2⟩ : ∃ W2, ((w.alloc (.cells #[.int .i64 (x : Nat)] 3)).alloc (.cells #[.bool false] 4)).alloc (.cells #[.int .u32 (wd es x : Nat)] 25) = W2 := ⟨_, rfl⟩
    rw [hW2]
    obtain ⟨bX2, bR2, bW2, hs2, hb2⟩ := three_boxes_at w _ _ _ _ _ _ hW2
    clear hW2
    have ltS := bS.lt
    have ltN := rN.lt
    have ltP := rP.lt
    have k2 : KeepX (Three Bs gN gP) w W2 := .of_below hb2
    have hB2 : Below n₁ w W2 := k2.below (by omega) hX
    have hT2 : TabAt W2 := (hT.below hB0 hg).below hB2 hg
    refine wpIn_rangeFunc_ownF rfl (by omega) (gf := 32) (lb := #[.pointer (some ⟨w.heap.size + 1 + 1, 0, none⟩)]) rfl trivial (enters_of Tryd.func32 (by kernel_rfl) rfl)
      (bitsOf_stops 5 (w.heap.size + 1 + 1) n₁ _ (hf x) W2 (by omega) (by omega) bW2.cell hT2 hg) belowK_t (belowK_b (by omega)) (Below.refl _ _) (fun _ => rfl)
      (fun pre W' => ∃ s, Boxed W' Bs 25 (.int .u32 (s : Nat)) ∧ (Row W' gN 3 (zvals nz) ∧ (Row W' gP 3 (zvals pz) ∧ (Boxed W' w.heap.size 3 (.int .i64 (x : Nat)) ∧ (Boxed W' (w.heap.size + 1) 4 (.bool false) ∧ (KeepX (Three Bs gN gP) w W' ∧ (s < 4294967296 ∧ Stuck (upE es) (optZ pz) (fun z => hasB sn z = true) (fun z => hasB s z = true) (fun c => c ∈ pre.map (·.1)))))))))
      (fun c _ W' => ∃ s, ∃ nz', ∃ pz', Boxed W' Bs 25 (.int .u32 (s : Nat)) ∧ (Row W' gN 3 (zvals nz') ∧ (Row W' gP 3 (zvals pz') ∧ (Boxed W' (w.heap.size + 1) 4 (.bool true) ∧ (KeepX (Three Bs gN gP) w W' ∧ (c = .ret ∧ s < 4294967296 ∧ LinkZ es.length nz' ∧ LinkZ es.length pz' ∧ Moved (upE es) (optZ nz) (optZ pz) (fun z => hasB sn z = true) x (optZ nz') (optZ pz')))))))
      (ownFrom_ex fun s => OwnFrom.and (Own.from (boxed_own _ _ _) _) (OwnFrom.and (Own.from (row_own _ _ _) _) (OwnFrom.and (Own.from (row_own _ _ _) _) (OwnFrom.and (Own.from (boxed_own _ _ _) _) (OwnFrom.and (Own.from (boxed_own _ _ _) _) (OwnFrom.and (ownFrom_keepX (by omega)) (ownFrom_pure _ _)))))))
      (fun c => ownFrom_ex fun s => ownFrom_ex fun nz' => ownFrom_ex fun pz' => OwnFrom.and (Own.from (boxed_own _ _ _) _) (OwnFrom.and (Own.from (row_own _ _ _) _) (OwnFrom.and (Own.from (row_own _ _ _) _) (OwnFrom.and (Own.from (boxed_own _ _ _) _) (OwnFrom.and (ownFrom_keepX (by omega)) (ownFrom_pure _ _))))))
      ⟨sn, (hb2.block _ ltS).trans bS, (hb2.block _ ltN).trans rN, (hb2.block _ ltP).trans rP, bX2, bR2, k2, hsn, Stuck.start _ _ _⟩
      (fun y => { tmps := #[.int .i64 (x : Nat), .pointer (some ⟨Ba, 0, none⟩), .pointer (some ⟨Bs, 0, none⟩), .pointer (some ⟨Bl, 0, none⟩), .pointer (some ⟨Bc, 0, none⟩), .pointer (some ⟨w.heap.size, 0, none⟩), .pointer (some ⟨w.heap.size + 1, 0, none⟩), .int .i64 (y.1 : Nat), .slice (some ⟨b, off, none⟩) es.length cap, .int .i64 (x : Nat), .pointer (some ⟨b, off + x, none⟩), .int .u32 (wd es x : Nat), .func (.func 32) #[] #[.pointer (some ⟨w.heap.size + 1 + 1, 0, none⟩)], .int .i64 (y.1 : Nat), undef, undef, undef, undef, undef, undef, undef, undef, undef, undef, undef, undef, undef, undef, undef, undef, undef, undef, undef, undef, undef, undef, undef, undef, undef, undef, undef, undef, undef, undef, undef, undef], defers := [] }) ?assign ?body ?done ?stop
    case assign =>
      intro l x W' K hK
      gi_wp2
      exact hK
    case body =>
      rintro l pre y W' ⟨s, bS', rN', rP', bX', bR', kk, hs, hSt⟩ _
      have hyn : y.1 < es.length := hin x hx y.1 (hasB_lt (hf x) y.2) y.2
      have hup : upE es x y.1 := ⟨hx, y.2⟩
      have cS' := bS'.cell
      have kAll := hk.trans kk
      have hcells : ∀ k, Three Bs gN gP k → ∃ cs t o, W'.heap[k]? = some (.cells cs t o) := by
        rintro k (rfl | rfl | rfl)
        · exact ⟨_, _, _, bS'⟩
        · exact ⟨_, _, _, rN'⟩
        · exact ⟨_, _, _, rP'⟩
      have hhas := has_any s y.1 hs (by omega)
      rcases two_ways (hasB s y.1) with hh | hh
      · simp only [hh] at hhas
        have hs4 := orW_lt hs (bitW_lt (i := y.1) (by omega))
        have hor := bits_or32 s (bitW y.1) hs (bitW_lt (by omega))
        have hbit := bit_any y.1 (by omega)
        have fS' := bS'.frozen
        have ltS' := bS'.lt
        have hmx : Tryd.prog.follows .mixedOrders = true := by kernel_rfl
        obtain ⟨W4, hW4⟩ : ∃ W4, (W'.setCell ⟨Bs, 0, none⟩ (.int .u32 (orW s (bitW y.1) : Nat))).drew = W4 := ⟨_, rfl⟩
        have k4 : KeepX (Three Bs gN gP) W' W4 := by rw [← hW4]; exact ((KeepX.refl _ W').set (.inl rfl) _).trans (.of_below (Below.refl _ _).drew)
        have bS4 : Boxed W4 Bs 25 (.int .u32 (orW s (bitW y.1) : Nat)) := by rw [← hW4]; exact bS'.set _
        have rN4 : Row W4 gN 3 (zvals nz) := by rw [← hW4]; exact rN'.other (fun e => hne1 e.symm) _ _
        have rP4 : Row W4 gP 3 (zvals pz) := by rw [← hW4]; exact rP'.other (fun e => hne2 e.symm) _ _
        have bX4 : Boxed W4 w.heap.size 3 (.int .i64 (x : Nat)) := by rw [← hW4]; exact boxed_otherAt bX' (by omega) _ _
        have bR4 : Boxed W4 (w.heap.size + 1) 4 (.bool false) := by rw [← hW4]; exact boxed_otherAt bR' (by omega) _ _
        have rL4 := (kAll.trans k4).row fL hxl
        have bC4 := (kAll.trans k4).boxed fC hxc
        have lL := rL4.lt
        have hLN : Bl ≠ gN := fun e => hxl (.inr (.inl e))
        have hLP : Bl ≠ gP := fun e => hxl (.inr (.inr e))
        have hnl : nz.length = es.length := lN.1
        have hpl : pz.length = es.length := lP.1
        have cL := rL4.cell (i := 1) rfl
        have cC := bC4.cell
        have cP := rP4.cell (zvals_at (show y.1 < pz.length by omega))
        have hnS : ¬ hasB sn y.1 = true := fun h => by rw [hSt.sub y.1 h] at hh; cases hh
        have HSt := hide hSt
        have Hh := hide hh
        clear hSt hh
        rcases lP.2 y.1 hyn with e0 | ⟨p, hpn, e0⟩
        · rw [e0] at cP
          have HMv := hide (moved_free hMat hnx hnS hup (optZ_none e0))
          have HMv2 : Hid (Moved (upE es) (optZ nz) (optZ pz) (fun z => hasB sn z = true) x (optZ (nz.set x (y.1 : Nat))) (optZ (pz.set y.1 (x : Nat)))) := by
            unfold Hid; rw [optZ_set (by omega), optZ_set (by omega)]; exact HMv.out
          have hS0 : Row W4.drew.drew Bl 43 [.slice (some ⟨gN, 0, none⟩) es.length es.length, .slice (some ⟨gP, 0, none⟩) es.length es.length] ∧ Boxed W4.drew.drew w.heap.size 3 (.int .i64 (x : Nat)) := ⟨rL4, bX4⟩
          have rNd : Row W4.drew.drew gN 3 (zvals nz) := rN4
          have rPd : Row W4.drew.drew gP 3 (zvals pz) := rP4
          have bSd : Boxed W4.drew.drew Bs 25 (.int .u32 (orW s (bitW y.1) : Nat)) := bS4
          have bRd : Boxed W4.drew.drew (w.heap.size + 1) 4 (.bool false) := bR4
          have kd : KeepX (Three Bs gN gP) W' W4.drew.drew := (k4.trans (.of_below (Below.refl _ _).drew)).trans (.of_below (Below.refl _ _).drew)
          clear HMv e0 ih hMat hnx HSt
          gi_wp2_with (gi_at_call 28; refine (CallsIn.inRound l (callsIn_wide.2 (hhas _))).mono ?_; rintro e w' ⟨rfl, rfl⟩)
          first | gi_region_with_o (gi_at_call 23; refine (CallsIn.inRound l (callsIn_wide.2 (hbit _))).mono ?_; rintro e w' ⟨rfl, rfl⟩) | fail
          all_goals gi_wp2
          all_goals
            refine region_tailR l _ (List.take 13 _) (List.drop 13 _) (List.take_append_drop 13 _) (by kernel_rfl) hmx (by kernel_rfl) ?_
            simp only [List.take_succ_cons, List.take_zero, List.drop_succ_cons, List.drop_zero]
            repeat (refine no_implicit_lambda% (wpStill_step ?_); intro K hK; go_simp; refine hK _ ?_; clear hK K)
            refine no_implicit_lambda% (wpStill_nil ?_)
            show wpList _ _ _ _ _ _
            go_wp2
            refine ⟨rfl, ?_⟩
            clear cL cC cP
            gi_wp2
            refine region_heldR (fun U => Row U Bl 43 [.slice (some ⟨gN, 0, none⟩) es.length es.length, .slice (some ⟨gP, 0, none⟩) es.length es.length] ∧ Boxed U w.heap.size 3 (.int .i64 (x : Nat))) l _ (by kernel_rfl) hmx ?_
            generalize W4.drew.drew = ud at *
            refine wpAnyH_take (i := 0) (v := .pointer (some ⟨Bl, 0, none⟩)) rfl (by kernel_rfl) (by kernel_rfl) (by kernel_rfl) plain_no' (Or.inl ⟨by rfl, ?_⟩) hS0 ?_
            · intro w' hS'
              go_simp
            simp only [Act.put]
            refine wpAnyH_take (i := 1) (v := .slice (some ⟨gN, 0, none⟩) es.length es.length) rfl (by kernel_rfl) (by kernel_rfl) (by kernel_rfl) plain_no' (Or.inl ⟨by rfl, ?_⟩) hS0 ?_
            · intro w' hS'
              have c := hS'.1.cell (i := 0) rfl; have lb := hS'.1.lt; go_simp
            simp only [Act.put]
            refine wpAnyH_take (i := 2) (v := .int .i64 (x : Nat)) rfl (by kernel_rfl) (by kernel_rfl) (by kernel_rfl) plain_no' (Or.inl ⟨by rfl, ?_⟩) hS0 ?_
            · intro w' hS'
              have c := hS'.2.cell; have lb := hS'.2.lt; go_simp
            simp only [Act.put]
            refine wpAnyH_take (i := 3) (v := .pointer (some ⟨Bl, 1, none⟩)) rfl (by kernel_rfl) (by kernel_rfl) (by kernel_rfl) plain_no' (Or.inl ⟨by rfl, ?_⟩) hS0 ?_
            · intro w' hS'
              go_simp
            simp only [Act.put]
            refine wpAnyH_take (i := 4) (v := .slice (some ⟨gP, 0, none⟩) es.length es.length) rfl (by kernel_rfl) (by kernel_rfl) (by kernel_rfl) plain_no' (Or.inl ⟨by rfl, ?_⟩) hS0 ?_
            · intro w' hS'
              have c := hS'.1.cell (i := 1) rfl; have lb := hS'.1.lt; go_simp
            simp only [Act.put]
            refine wpAnyH_take (i := 5) (v := .int .i64 (y.1 : Nat)) rfl (by kernel_rfl) (by kernel_rfl) (by kernel_rfl) plain_no' (Or.inl ⟨by rfl, ?_⟩) hS0 ?_
            · intro w' hS'
              go_simp
            simp only [Act.put]
            refine wpAnyH_take (i := 6) (v := .int .i64 (y.1 : Nat)) rfl (by kernel_rfl) (by kernel_rfl) (by kernel_rfl) plain_no' (Or.inl ⟨by rfl, ?_⟩) hS0 ?_
            · intro w' hS'
              go_simp
            simp only [Act.put]
            refine wpAnyH_take (i := 7) (v := .int .i64 (x : Nat)) rfl (by kernel_rfl) (by kernel_rfl) (by kernel_rfl) plain_no' (Or.inl ⟨by rfl, ?_⟩) hS0 ?_
            · intro w' hS'
              have c := hS'.2.cell; have lb := hS'.2.lt; go_simp
            simp only [Act.put]
            refine wpAnyH_take (i := 8) (v := .pointer (some ⟨gN, x, none⟩)) rfl (by kernel_rfl) (by kernel_rfl) (by kernel_rfl) plain_no' (Or.inl ⟨by rfl, ?_⟩) hS0 ?_
            · intro w' hS'
              go_simp
            simp only [Act.put]
            refine wpAnyH_ready (rs := [9]) (by kernel_rfl) (by simp) (AllReadyH.cons rfl (fun K hK => ?_) AllReadyH.nil)
            have kc0 := rNd.cell (zvals_at (show x < nz.length by omega))
            have kf0 := rNd.frozen x
            go_simp
            have hS1 : Row (ud.setCell ⟨gN, x, none⟩ (.int .i64 (y.1 : Nat))) Bl 43 [.slice (some ⟨gN, 0, none⟩) es.length es.length, .slice (some ⟨gP, 0, none⟩) es.length es.length] ∧ Boxed (ud.setCell ⟨gN, x, none⟩ (.int .i64 (y.1 : Nat))) w.heap.size 3 (.int .i64 (x : Nat)) := ⟨hS0.1.other hLN _ _, boxed_otherAt hS0.2 (by omega) _ _⟩
            have rN1 := rNd.set x (.int .i64 (y.1 : Nat))
            rw [zvals_set] at rN1
            have rP1 := rPd.other (fun e => hne3 e.symm) x (.int .i64 (y.1 : Nat)) (b := gN)
            refine hK.out _ _ hS1 (fun _ => ?_)
            clear hK K kc0 kf0
            refine wpAnyH_take (i := 10) (v := .pointer (some ⟨gP, y.1, none⟩)) rfl (by kernel_rfl) (by kernel_rfl) (by kernel_rfl) plain_no' (Or.inl ⟨by rfl, ?_⟩) hS1 ?_
            · intro w' hS'
              go_simp
            simp only [Act.put]
            refine wpAnyH_ready (rs := [11]) (by kernel_rfl) (by simp) (AllReadyH.cons rfl (fun K hK => ?_) AllReadyH.nil)
            have kc1 := rP1.cell (zvals_at (show y.1 < pz.length by omega))
            have kf1 := rP1.frozen y.1
            go_simp
            have hS2 : Row ((ud.setCell ⟨gN, x, none⟩ (.int .i64 (y.1 : Nat))).setCell ⟨gP, y.1, none⟩ (.int .i64 (x : Nat))) Bl 43 [.slice (some ⟨gN, 0, none⟩) es.length es.length, .slice (some ⟨gP, 0, none⟩) es.length es.length] ∧ Boxed ((ud.setCell ⟨gN, x, none⟩ (.int .i64 (y.1 : Nat))).setCell ⟨gP, y.1, none⟩ (.int .i64 (x : Nat))) w.heap.size 3 (.int .i64 (x : Nat)) := ⟨hS1.1.other hLP _ _, boxed_otherAt hS1.2 (by omega) _ _⟩
            have rP2 := rP1.set y.1 (.int .i64 (x : Nat))
            rw [zvals_set] at rP2
            have rN2 := rN1.other hne3 y.1 (.int .i64 (x : Nat)) (b := gP)
            refine hK.out _ _ hS2 (fun _ => ?_)
            clear hK K kc1 kf1
            refine wpAnyH_done (by kernel_rfl) ⟨rfl, ?_⟩ _
            have bS2 := boxed_otherAt (boxed_otherAt bSd hne1 x (.int .i64 (y.1 : Nat))) hne2 y.1 (.int .i64 (x : Nat))
            have bR2' := boxed_otherAt (boxed_otherAt bRd (show w.heap.size + 1 ≠ gN by omega) x (.int .i64 (y.1 : Nat))) (show w.heap.size + 1 ≠ gP by omega) y.1 (.int .i64 (x : Nat))
            have kd2 := (kd.set (b := gN) (i := x) (.inr (.inl rfl)) (.int .i64 (y.1 : Nat))).set (b := gP) (i := y.1) (.inr (.inr rfl)) (.int .i64 (x : Nat))
            clear hS1 hS2 rN1 rP1
            obtain ⟨u2, hu2⟩ : ∃ u2, (ud.setCell ⟨gN, x, none⟩ (.int .i64 (y.1 : Nat))).setCell ⟨gP, y.1, none⟩ (.int .i64 (x : Nat)) = u2 := ⟨_, rfl⟩
            rw [hu2] at bS2 bR2' kd2 rN2 rP2 ⊢
            clear hu2
            have cR2 := bR2'.cell
            have fR2 := bR2'.frozen
            have ltR2 := bR2'.lt
            gi_wp2
            exact ⟨(kd2.others hcells).trans (KeepsOthers.setCell _ _ _), (orW s (bitW y.1)), _, _, boxed_otherAt bS2 (by omega) _ _, rN2.other (by omega) _ _, rP2.other (by omega) _ _, bR2'.set _, (kk.trans kd2).setNew (by omega) _, rfl, hs4, lN.set hx hyn, lP.set hyn hx, HMv2.out⟩
        · rw [e0] at cP
          have hopt := optZ_some lP hyn e0
          have hnp : (((p : Nat) : Int) == (-1)) = false := by rw [beq_eq_false_iff_ne]; omega
          have hnxp : optZ nz p = some y.1 := (hMat.two p y.1).2 hopt
          have hub : unseen es.length (orW s (bitW y.1)) < m := by
            have hf0 : hasB sn y.1 = false := by
              cases q : hasB sn y.1 with
              | false => rfl
              | true => exact absurd q hnS
            have := unseen_lt (s := orW s (bitW y.1)) hyn hf0 (fun z hz => by rw [hasB_or, HSt.out.sub z hz]; rfl) (by rw [hasB_or, hasB_bitW]; simp)
            omega
          have hrec := ih p (orW s (bitW y.1)) nz pz W4.drew hpn hs4 hub lN lP hMat (fun z hz => by rw [hnxp] at hz; cases hz; rw [hasB_or, hasB_bitW]; simp) ((kAll.trans k4).trans (.of_below (Below.refl _ _).drew)) bS4 rN4 rP4
          have HMo := hide (fun nz7 pz7 K => moved_on (S' := fun z => hasB (orW s (bitW y.1)) z = true) (nx' := optZ nz7) (pv' := optZ pz7) hMat hnx hnS hup hopt (fun z hz => by rw [hasB_or, HSt.out.sub z hz]; rfl) (by rw [hasB_or, hasB_bitW]; simp) K)
          have HCa := hide (fun s7 C => HSt.out.call (s2 := s7) hopt C)
          clear e0 ih hMat hnx HSt hopt hnxp hub
          gi_wp2_with (gi_at_call 28; refine (CallsIn.inRound l (callsIn_wide.2 (hhas _))).mono ?_; rintro e w' ⟨rfl, rfl⟩)
          first | gi_region_with_o (gi_at_call 23; refine (CallsIn.inRound l (callsIn_wide.2 (hbit _))).mono ?_; rintro e w' ⟨rfl, rfl⟩) | fail
          all_goals gi_wp2
          all_goals
            refine region_tailR l _ (List.take 13 _) (List.drop 13 _) (List.take_append_drop 13 _) (by kernel_rfl) hmx (by kernel_rfl) ?_
            simp only [List.take_succ_cons, List.take_zero, List.drop_succ_cons, List.drop_zero]
            repeat (refine no_implicit_lambda% (wpStill_step ?_); intro K hK; go_simp; refine hK _ ?_; clear hK K)
            refine no_implicit_lambda% (wpStill_nil ?_)
            show wpList _ _ _ _ _ _
            go_wp2_with (go_at_call 31; refine hrec.mono ?_)
            rintro e w7 ⟨r, s7, nz7, pz7, rfl, hPl⟩
            have kS := (k4.trans (KeepX.of_below (Below.refl W4.heap.size W4).drew)).trans hPl.keep
            have hs7 := kS.size
            have bX7 : Boxed w7 w.heap.size 3 (.int .i64 (x : Nat)) := hPl.keep.boxed (show Boxed W4.drew _ _ _ from bX4) (by rintro (e | e | e) <;> omega)
            have bR7 : Boxed w7 (w.heap.size + 1) 4 (.bool false) := hPl.keep.boxed (show Boxed W4.drew _ _ _ from bR4) (by rintro (e | e | e) <;> omega)
            have rL7 := (kAll.trans kS).row fL hxl
            cases r
            · obtain ⟨e1, e2, hstk⟩ := hPl.no rfl
              subst e1
              subst e2
              have HC2 := hide (HCa.out s7 hstk)
              clear hstk hrec cL cC cP
              go_wp2
              refine ⟨rfl, ?_⟩
              gi_wp2
              exact ⟨kS.others hcells, kS.below (by have := kAll.size; omega) hX, s7, hPl.box, hPl.rowN, hPl.rowP, bX7, bR7, kk.trans kS, hPl.lt, by rw [List.map_append]; exact HC2.out⟩
            · have HMv2 : Hid (Moved (upE es) (optZ nz) (optZ pz) (fun z => hasB sn z = true) x (optZ (nz7.set x (y.1 : Nat))) (optZ (pz7.set y.1 (x : Nat)))) := by
                have l1 := hPl.linkN.1
                have l2 := hPl.linkP.1
                unfold Hid; rw [optZ_set (by omega), optZ_set (by omega)]; exact HMo.out nz7 pz7 (hPl.yes rfl)
              have hnl7 : nz7.length = es.length := hPl.linkN.1
              have hpl7 : pz7.length = es.length := hPl.linkP.1
              have hS0 : Row w7.drew Bl 43 [.slice (some ⟨gN, 0, none⟩) es.length es.length, .slice (some ⟨gP, 0, none⟩) es.length es.length] ∧ Boxed w7.drew w.heap.size 3 (.int .i64 (x : Nat)) := ⟨rL7, bX7⟩
              have rNd : Row w7.drew gN 3 (zvals nz7) := hPl.rowN
              have rPd : Row w7.drew gP 3 (zvals pz7) := hPl.rowP
              have bSd : Boxed w7.drew Bs 25 (.int .u32 (s7 : Nat)) := hPl.box
              have bRd : Boxed w7.drew (w.heap.size + 1) 4 (.bool false) := bR7
              have kd := kS.trans (KeepX.of_below (Below.refl w7.heap.size w7).drew)
              have hlt7 := hPl.lt
              have lN7 := hPl.linkN
              have lP7 := hPl.linkP
              clear hrec cL cC cP hPl HMo HCa
              go_wp2
              refine ⟨rfl, ?_⟩
              gi_wp2
              refine region_heldR (fun U => Row U Bl 43 [.slice (some ⟨gN, 0, none⟩) es.length es.length, .slice (some ⟨gP, 0, none⟩) es.length es.length] ∧ Boxed U w.heap.size 3 (.int .i64 (x : Nat))) l _ (by kernel_rfl) hmx ?_
              generalize w7.drew = ud at *
              refine wpAnyH_take (i := 0) (v := .pointer (some ⟨Bl, 0, none⟩)) rfl (by kernel_rfl) (by kernel_rfl) (by kernel_rfl) plain_no' (Or.inl ⟨by rfl, ?_⟩) hS0 ?_
              · intro w' hS'
                go_simp
              simp only [Act.put]
              refine wpAnyH_take (i := 1) (v := .slice (some ⟨gN, 0, none⟩) es.length es.length) rfl (by kernel_rfl) (by kernel_rfl) (by kernel_rfl) plain_no' (Or.inl ⟨by rfl, ?_⟩) hS0 ?_
              · intro w' hS'
                have c := hS'.1.cell (i := 0) rfl; have lb := hS'.1.lt; go_simp
              simp only [Act.put]
              refine wpAnyH_take (i := 2) (v := .int .i64 (x : Nat)) rfl (by kernel_rfl) (by kernel_rfl) (by kernel_rfl) plain_no' (Or.inl ⟨by rfl, ?_⟩) hS0 ?_
              · intro w' hS'
                have c := hS'.2.cell; have lb := hS'.2.lt; go_simp
              simp only [Act.put]
              refine wpAnyH_take (i := 3) (v := .pointer (some ⟨Bl, 1, none⟩)) rfl (by kernel_rfl) (by kernel_rfl) (by kernel_rfl) plain_no' (Or.inl ⟨by rfl, ?_⟩) hS0 ?_
              · intro w' hS'
                go_simp
              simp only [Act.put]
              refine wpAnyH_take (i := 4) (v := .slice (some ⟨gP, 0, none⟩) es.length es.length) rfl (by kernel_rfl) (by kernel_rfl) (by kernel_rfl) plain_no' (Or.inl ⟨by rfl, ?_⟩) hS0 ?_
              · intro w' hS'
                have c := hS'.1.cell (i := 1) rfl; have lb := hS'.1.lt; go_simp
              simp only [Act.put]
              refine wpAnyH_take (i := 5) (v := .int .i64 (y.1 : Nat)) rfl (by kernel_rfl) (by kernel_rfl) (by kernel_rfl) plain_no' (Or.inl ⟨by rfl, ?_⟩) hS0 ?_
              · intro w' hS'
                go_simp
              simp only [Act.put]
              refine wpAnyH_take (i := 6) (v := .int .i64 (y.1 : Nat)) rfl (by kernel_rfl) (by kernel_rfl) (by kernel_rfl) plain_no' (Or.inl ⟨by rfl, ?_⟩) hS0 ?_
              · intro w' hS'
                go_simp
              simp only [Act.put]
              refine wpAnyH_take (i := 7) (v := .int .i64 (x : Nat)) rfl (by kernel_rfl) (by kernel_rfl) (by kernel_rfl) plain_no' (Or.inl ⟨by rfl, ?_⟩) hS0 ?_
              · intro w' hS'
                have c := hS'.2.cell; have lb := hS'.2.lt; go_simp
              simp only [Act.put]
              refine wpAnyH_take (i := 8) (v := .pointer (some ⟨gN, x, none⟩)) rfl (by kernel_rfl) (by kernel_rfl) (by kernel_rfl) plain_no' (Or.inl ⟨by rfl, ?_⟩) hS0 ?_
              · intro w' hS'
                go_simp
              simp only [Act.put]
              refine wpAnyH_ready (rs := [9]) (by kernel_rfl) (by simp) (AllReadyH.cons rfl (fun K hK => ?_) AllReadyH.nil)
              have kc0 := rNd.cell (zvals_at (show x < nz7.length by omega))
              have kf0 := rNd.frozen x
              go_simp
              have hS1 : Row (ud.setCell ⟨gN, x, none⟩ (.int .i64 (y.1 : Nat))) Bl 43 [.slice (some ⟨gN, 0, none⟩) es.length es.length, .slice (some ⟨gP, 0, none⟩) es.length es.length] ∧ Boxed (ud.setCell ⟨gN, x, none⟩ (.int .i64 (y.1 : Nat))) w.heap.size 3 (.int .i64 (x : Nat)) := ⟨hS0.1.other hLN _ _, boxed_otherAt hS0.2 (by omega) _ _⟩
              have rN1 := rNd.set x (.int .i64 (y.1 : Nat))
              rw [zvals_set] at rN1
              have rP1 := rPd.other (fun e => hne3 e.symm) x (.int .i64 (y.1 : Nat)) (b := gN)
              refine hK.out _ _ hS1 (fun _ => ?_)
              clear hK K kc0 kf0
              refine wpAnyH_take (i := 10) (v := .pointer (some ⟨gP, y.1, none⟩)) rfl (by kernel_rfl) (by kernel_rfl) (by kernel_rfl) plain_no' (Or.inl ⟨by rfl, ?_⟩) hS1 ?_
              · intro w' hS'
                go_simp
              simp only [Act.put]
              refine wpAnyH_ready (rs := [11]) (by kernel_rfl) (by simp) (AllReadyH.cons rfl (fun K hK => ?_) AllReadyH.nil)
              have kc1 := rP1.cell (zvals_at (show y.1 < pz7.length by omega))
              have kf1 := rP1.frozen y.1
              go_simp
              have hS2 : Row ((ud.setCell ⟨gN, x, none⟩ (.int .i64 (y.1 : Nat))).setCell ⟨gP, y.1, none⟩ (.int .i64 (x : Nat))) Bl 43 [.slice (some ⟨gN, 0, none⟩) es.length es.length, .slice (some ⟨gP, 0, none⟩) es.length es.length] ∧ Boxed ((ud.setCell ⟨gN, x, none⟩ (.int .i64 (y.1 : Nat))).setCell ⟨gP, y.1, none⟩ (.int .i64 (x : Nat))) w.heap.size 3 (.int .i64 (x : Nat)) := ⟨hS1.1.other hLP _ _, boxed_otherAt hS1.2 (by omega) _ _⟩
              have rP2 := rP1.set y.1 (.int .i64 (x : Nat))
              rw [zvals_set] at rP2
              have rN2 := rN1.other hne3 y.1 (.int .i64 (x : Nat)) (b := gP)
              refine hK.out _ _ hS2 (fun _ => ?_)
              clear hK K kc1 kf1
              refine wpAnyH_done (by kernel_rfl) ⟨rfl, ?_⟩ _
              have bS2 := boxed_otherAt (boxed_otherAt bSd hne1 x (.int .i64 (y.1 : Nat))) hne2 y.1 (.int .i64 (x : Nat))
              have bR2' := boxed_otherAt (boxed_otherAt bRd (show w.heap.size + 1 ≠ gN by omega) x (.int .i64 (y.1 : Nat))) (show w.heap.size + 1 ≠ gP by omega) y.1 (.int .i64 (x : Nat))
              have kd2 := (kd.set (b := gN) (i := x) (.inr (.inl rfl)) (.int .i64 (y.1 : Nat))).set (b := gP) (i := y.1) (.inr (.inr rfl)) (.int .i64 (x : Nat))
              clear hS1 hS2 rN1 rP1
              obtain ⟨u2, hu2⟩ : ∃ u2, (ud.setCell ⟨gN, x, none⟩ (.int .i64 (y.1 : Nat))).setCell ⟨gP, y.1, none⟩ (.int .i64 (x : Nat)) = u2 := ⟨_, rfl⟩
              rw [hu2] at bS2 bR2' kd2 rN2 rP2 ⊢
              clear hu2
              have cR2 := bR2'.cell
              have fR2 := bR2'.frozen
              have ltR2 := bR2'.lt
              gi_wp2
              exact ⟨(kd2.others hcells).trans (KeepsOthers.setCell _ _ _), s7, _, _, boxed_otherAt bS2 (by omega) _ _, rN2.other (by omega) _ _, rP2.other (by omega) _ _, bR2'.set _, (kk.trans kd2).setNew (by omega) _, rfl, hlt7, lN7.set hx hyn, lP7.set hyn hx, HMv2.out⟩
      · simp only [hh] at hhas
        have HH := hide hh
        clear hh
        gi_wp2_with (gi_at_call 28; refine (CallsIn.inRound l (callsIn_wide.2 (hhas _))).mono ?_; rintro e w' ⟨rfl, rfl⟩)
        exact ⟨KeepsOthers.refl _, Below.refl _ _, s, bS', rN', rP', bX', bR', kk, hs, by rw [List.map_append]; exact hSt.skip HH.out⟩
    case done =>
      rintro D ys W' hD rfl ⟨s, bS', rN', rP', bX', bR', kk, hs, hSt⟩ hK
      have hDl : D < W'.heap.size := (Array.getElem?_eq_some_iff.1 hK).1
      rw [elemsS_val] at hSt
      have HD := hide (hSt.done (fun c hc => (mem_elems (by have := hf x; omega) c).2 hc.2))
      have cR' := bR'.cell
      have fR' := bR'.frozen
      have ltR := bR'.lt
      clear hSt
      gi_wp2
      refine leaves_marks (G := fun _ U => Boxed U Bs 25 (.int .u32 (s : Nat)) ∧ (Row U gN 3 (zvals nz) ∧ (Row U gP 3 (zvals pz) ∧ (Boxed U (w.heap.size + 1) 4 (.bool false) ∧ KeepX (Three Bs gN gP) w U)))) (n₀ := w.heap.size) (OwnFrom.and (Own.from (boxed_own _ _ fun _ => _) _) (OwnFrom.and (Own.from (row_own _ _ fun _ => _) _) (OwnFrom.and (Own.from (row_own _ _ fun _ => _) _) (OwnFrom.and (Own.from (boxed_own _ _ fun _ => _) _) (ownFrom_keepX (Nat.le_refl _)))))) (fun U h => ?_) [{ target := .collected D, args := #[] }] W'.heap.size _ ((show Marks w.heap.size W' W'.heap.size [{ target := .collected D, args := #[] }] from ⟨D, rfl, by omega, hDl, hK, trivial⟩).others (KeepsOthers.setCell _ _ _)) ⟨bS'.other (by omega) _, rN'.other (by omega) _ _, rP'.other (by omega) _ _, bR'.set _, kk.setNew (by omega) _⟩
      obtain ⟨g1, g2, g3, g4, g5⟩ := h
      have cU := g4.cell
      exact ⟨.bool false, by simp [results, Tryd.results31, go_sem, cU], false, s, nz, pz, rfl, ⟨g5, hs, g1, g2, g3, lN, lP, (fun h => by cases h), fun _ => ⟨rfl, rfl, HD.out⟩⟩⟩
    case stop =>
      rintro D c pre W' hD _ ⟨s, nz', pz', bS', rN', rP', bR', kk, rfl, hs, lN', lP', hMv⟩ hK
      have hDl : D < W'.heap.size := (Array.getElem?_eq_some_iff.1 hK).1
      have HM := hide hMv
      have cR' := bR'.cell
      clear hMv
      gi_wp2
      refine leaves_marks (G := fun _ U => Boxed U Bs 25 (.int .u32 (s : Nat)) ∧ (Row U gN 3 (zvals nz') ∧ (Row U gP 3 (zvals pz') ∧ (Boxed U (w.heap.size + 1) 4 (.bool true) ∧ KeepX (Three Bs gN gP) w U)))) (n₀ := w.heap.size) (OwnFrom.and (Own.from (boxed_own _ _ fun _ => _) _) (OwnFrom.and (Own.from (row_own _ _ fun _ => _) _) (OwnFrom.and (Own.from (row_own _ _ fun _ => _) _) (OwnFrom.and (Own.from (boxed_own _ _ fun _ => _) _) (ownFrom_keepX (Nat.le_refl _)))))) (fun U h => ?_) [{ target := .collected D, args := #[] }] W'.heap.size _ ⟨D, rfl, by omega, hDl, hK, trivial⟩ ⟨bS', rN', rP', bR', kk⟩
      obtain ⟨g1, g2, g3, g4, g5⟩ := h
      have cU := g4.cell
      exact ⟨.bool true, by simp [results, Tryd.results31, go_sem, cU], true, s, nz', pz', rfl, ⟨g5, hs, g1, g2, g3, lN', lP', fun _ => HM.out, fun h => by cases h⟩⟩
end Go.Proofs.YtnlkjklcikolaaaDoor
