/- The contracts of the program's link and linked: as many links as can be made. -/
import Derived.Test.YtnlkjklcikolaaaDoorPlaceAny
import Derived.Laws.EntriesVeiled
namespace Go.Proofs.YtnlkjklcikolaaaDoor
open Go.RowKit Go.Shelf

theorem KeepX.weaken {X Y : Nat → Prop} {w W : World} (h : KeepX X w W) (hXY : ∀ k, k < w.heap.size → X k → Y k) : KeepX Y w W := ⟨h.os, h.tape, h.output, h.size, fun k hk hy => h.same k hk fun hx => hy (hXY k hk hx)⟩
theorem KeepX.back {X : Nat → Prop} {a b c : World} (h : Below a.heap.size a b) (k : KeepX X b c) : KeepX X a c := (KeepX.of_below h).trans k

theorem link_boxes (w : World) (v1 v2 v3 v4 v5 : Value) (t1 t2 t3 t4 : TypeId) (z : Value) {W : World} (h : ((((w.alloc (.cells #[v1, v2] t1)).alloc (.cells #[v3] t2)).alloc (.cells #[z] t3)).alloc (.cells #[v4] t4)).setCell ⟨w.heap.size + 1 + 1 + 1, 0, none⟩ v5 = W) :
    Row W w.heap.size t1 [v1, v2] ∧ Boxed W (w.heap.size + 1) t2 v3 ∧ Boxed W (w.heap.size + 1 + 1) t3 z ∧ Boxed W (w.heap.size + 1 + 1 + 1) t4 v5 ∧ W.heap.size = w.heap.size + 1 + 1 + 1 + 1 ∧ Below w.heap.size w W := by
  subst h
  have r0 : Row (w.alloc (.cells #[v1, v2] t1)) w.heap.size t1 [v1, v2] := Row.new w t1 [v1, v2]
  have b1 := Boxed.new (w.alloc (.cells #[v1, v2] t1)) t2 v3
  have b2 := Boxed.new ((w.alloc (.cells #[v1, v2] t1)).alloc (.cells #[v3] t2)) t3 z
  have b3 := Boxed.new (((w.alloc (.cells #[v1, v2] t1)).alloc (.cells #[v3] t2)).alloc (.cells #[z] t3)) t4 v4
  simp only [World.size_alloc] at b1 b2 b3
  refine ⟨(((r0.alloc _).alloc _).alloc _).other (by omega) _ _, ((b1.alloc _).alloc _).other (by omega) _, (b2.alloc _).other (by omega) _, b3.set _, by simp, ?_⟩
  exact (((((Below.refl _ _).alloc (Nat.le_refl _) _).alloc (by simp) _).alloc (by simp; omega) _).alloc (by simp; omega) _).setCell (by simp; omega) _

theorem none0 : (fun z => hasB 0 z = true) = fun _ : Nat => False := by funext z; rw [hasB_zero]; simp

set_option maxRecDepth 100000 in
set_option maxHeartbeats 1000000 in
theorem link_any (gN gP : Nat) (a : Option Addr) (cap : Nat) (es : List Nat) (x : Nat) (nz pz : List Int) (n₁ : Nat) (hf : Fit es) (hin : Inside es) (hl : es.length ≤ 16) (hg : 0 < n₁) (w : World) (hn1 : n₁ ≤ w.heap.size) (hT : TabAt w) (hw : IsWords n₁ w a es) (hgN : n₁ ≤ gN) (hgP : n₁ ≤ gP) (hne : gN ≠ gP) (hx : x < es.length) (lN : LinkZ es.length nz) (lP : LinkZ es.length pz) (hTr : Tried (upE es) (optZ nz) (optZ pz) x) (rN : Row w gN 3 (zvals nz)) (rP : Row w gP 3 (zvals pz)) :
    Calls Tryd.prog 25 #[.agg #[.slice (some ⟨gN, 0, none⟩) es.length es.length, .slice (some ⟨gP, 0, none⟩) es.length es.length], .int .i64 (x : Nat), .slice a es.length cap] w fun e w' => ∃ nz' pz', e = .returned (.tuple #[]) ∧ KeepX (Two gN gP) w w' ∧ LinkZ es.length nz' ∧ LinkZ es.length pz' ∧ Row w' gN 3 (zvals nz') ∧ Row w' gP 3 (zvals pz') ∧ Tried (upE es) (optZ nz') (optZ pz') (x + 1) := by
  have ltN := rN.lt
  have ltP := rP.lt
  obtain ⟨W1, hW1⟩ : ∃ W1, ((((w.alloc (.cells #[.slice (some ⟨gN, 0, none⟩) es.length es.length, .slice (some ⟨gP, 0, none⟩) es.length es.length] 43)).alloc (.cells #[.slice a es.length cap] 22)).alloc (.cells #[.int .u32 0] 25)).alloc (.cells #[.nilFunc] 56)).setCell ⟨w.heap.size + 1 + 1 + 1, 0, none⟩ (.func (.func 31) #[] #[.pointer (some ⟨w.heap.size + 1, 0, none⟩), .pointer (some ⟨w.heap.size + 1 + 1, 0, none⟩), .pointer (some ⟨w.heap.size, 0, none⟩), .pointer (some ⟨w.heap.size + 1 + 1 + 1, 0, none⟩)]) = W1 := ⟨_, rfl⟩
  obtain ⟨rL, bA, bS, bC, hs1, hb1⟩ := link_boxes w _ _ _ _ _ _ _ _ _ _ hW1
  have hpl := place_any (w.heap.size + 1 + 1) (w.heap.size + 1) w.heap.size (w.heap.size + 1 + 1 + 1) gN gP a cap es n₁ W1 hf hin hl hg (by omega) (hT.below hb1 (by omega)) (hw.below (hb1.mono hn1)) (by omega) hgN hgP (by omega) (by omega) hne (by omega) (by omega) (by omega) (by rintro (e | e | e) <;> omega) (by rintro (e | e | e) <;> omega) (by rintro (e | e | e) <;> omega) bA rL bC (unseen es.length 0 + 1) x 0 nz pz W1 hx (by decide) (by omega) lN lP hTr.1 (fun y hy => by rw [hTr.2.1 x (Nat.le_refl _)] at hy; cases hy) (KeepX.refl _ _) bS ((hb1.block _ ltN).trans rN) ((hb1.block _ ltP).trans rP)
  have cC := bC.cell
  have Hb := hide hb1
  have HT := hide hTr
  clear hTr
  go_enter Tryd.func25, Tryd.ntmps25
  go_wp2_with (go_at_call 31; refine hpl.mono ?_)
  rintro e w2 ⟨r, s, nz', pz', rfl, hP⟩
  have hkk : KeepX (Two gN gP) w w2 := ((KeepX.of_below (X := Three (w.heap.size + 1 + 1) gN gP) Hb.out).trans hP.keep).weaken fun k hk h => by
    rcases h with e | e | e
    · omega
    · exact .inl e
    · exact .inr e
  have hTr' : Tried (upE es) (optZ nz') (optZ pz') (x + 1) := by
    cases r with
    | true => exact tried_moved HT.out (hP.yes rfl)
    | false =>
      obtain ⟨e1, e2, hS⟩ := hP.no rfl
      rw [e1, e2]
      rw [none0] at hS
      exact tried_stuck HT.out hS
  have HK := hide hkk
  have HT2 := hide hTr'
  clear hkk hTr' hpl
  go_wp2
  exact bodyPost_end (v := .tuple #[]) (results_none rfl _ _ _) rfl ⟨nz', pz', rfl, HK.out, hP.linkN, hP.linkP, hP.rowN, hP.rowP, HT2.out⟩

theorem optZ_all {zs : List Int} (h : ∀ j, j < zs.length → zd zs j = -1) : optZ zs = fun _ => none := by
  funext j
  unfold optZ
  by_cases hj : j < zs.length
  · rw [h j hj, if_neg (by omega)]
  · rw [if_neg (fun q => hj q.1)]
theorem linkZ_all {n : Nat} {zs : List Int} (hl : zs.length = n) (h : ∀ j, j < n → zd zs j = -1) : LinkZ n zs := ⟨hl, fun y hy => .inl (h y hy)⟩
theorem tried_start (up : Nat → Nat → Prop) : Tried up (fun _ => none) (fun _ => none) 0 :=
  ⟨⟨(fun h => by cases h), fun x y => ⟨(fun h => by cases h), (fun h => by cases h)⟩⟩, fun _ _ => rfl, fun _ => False, fun _ h => h.elim, fun i hi => by omega⟩

set_option maxRecDepth 100000 in
set_option maxHeartbeats 1000000 in
theorem linked_any (a : Option Addr) (cap : Nat) (es : List Nat) (n₁ : Nat) (hf : Fit es) (hin : Inside es) (hl : es.length ≤ 16) (hg : 0 < n₁) (w : World) (hn1 : n₁ ≤ w.heap.size) (hT : TabAt w) (hw : IsWords n₁ w a es) :
    Calls Tryd.prog 15 #[.slice a es.length cap] w fun e w' => ∃ gN gP nz pz, e = .returned (.agg #[.slice (some ⟨gN, 0, none⟩) es.length es.length, .slice (some ⟨gP, 0, none⟩) es.length es.length]) ∧ Below w.heap.size w w' ∧ w.heap.size ≤ gN ∧ w.heap.size ≤ gP ∧ gN ≠ gP ∧ LinkZ es.length nz ∧ LinkZ es.length pz ∧ Row w' gN 3 (zvals nz) ∧ Row w' gP 3 (zvals pz) ∧ Tried (upE es) (optZ nz) (optZ pz) es.length := by
  have r0 : Row (w.alloc (.cells #[.slice none 0 0, .slice none 0 0] 43)) w.heap.size 43 [.slice none 0 0, .slice none 0 0] := Row.new w _ _
  have hb0 : Below w.heap.size w (w.alloc (.cells #[.slice none 0 0, .slice none 0 0] 43)) := (Below.refl _ _).alloc (Nat.le_refl _) _
  have hs0 : (w.alloc (.cells #[.slice none 0 0, .slice none 0 0] 43)).heap.size = w.heap.size + 1 := by simp
  have d1 := unlinked_any es.length hl (w.alloc (.cells #[.slice none 0 0, .slice none 0 0] 43))
  rw [hs0] at d1
  have Hb := hide hb0
  clear hb0
  go_enter Tryd.func15, Tryd.ntmps15
  go_wp2_with fail
  refine d1.mono ?_
  rintro e w1 ⟨nz, rfl, hb1, rN, hln, hN⟩
  have hs1 := hb1.size
  have d2 := unlinked_any es.length hl w1
  have ltN := rN.lt
  clear d1
  dsimp only
  go_wp2_with fail
  refine d2.mono ?_
  rintro e w2 ⟨pz, rfl, hb2, rP, hlp, hP⟩
  have hs2 := hb2.size
  have ltP := rP.lt
  have rN2 := row_below rN hb2 ltN
  have q1 := row_below r0 (hb1.mono (by omega)) (show w.heap.size < w.heap.size + 1 by omega)
  have q2 := row_below q1 hb2 q1.lt
  clear d2
  dsimp only
  go_wp2_with fail
  obtain ⟨V, hV⟩ : ∃ V, w2.alloc (.cells #[.slice (some ⟨w.heap.size + 1, 0, none⟩) es.length es.length, .slice (some ⟨w1.heap.size, 0, none⟩) es.length es.length] 43) = V := ⟨_, rfl⟩
  have rl : Row V w2.heap.size 43 [.slice (some ⟨w.heap.size + 1, 0, none⟩) es.length es.length, .slice (some ⟨w1.heap.size, 0, none⟩) es.length es.length] := by rw [← hV]; exact Row.new w2 _ _
  have hb3 : Below w2.heap.size w2 V := by rw [← hV]; exact (Below.refl _ _).alloc (Nat.le_refl _) _
  rw [hV]
  clear hV
  have hs3 := hb3.size
  have ltl := rl.lt
  have rN3 := row_below rN2 hb3 rN2.lt
  have rP3 := row_below rP hb3 ltP
  have q3 := row_below q2 hb3 q2.lt
  have ltq := q3.lt
  have hBV : Below w.heap.size w V := ((Hb.out.trans (hb1.mono (by omega))).trans (hb2.mono (by omega))).trans (hb3.mono (by omega))
  have hTV : TabAt V := hT.below hBV (by omega)
  have hwV : IsWords n₁ V a es := hw.below (hBV.mono hn1)
  have HBV := hide hBV
  have lN0 := linkZ_all hln hN
  have lP0 := linkZ_all hlp hP
  have HT0 : Hid (Tried (upE es) (optZ nz) (optZ pz) 0) := by
    unfold Hid
    rw [optZ_all (fun j hj => hN j (by omega)), optZ_all (fun j hj => hP j (by omega))]
    exact tried_start _
  clear hBV hN hP rN rP rN2 hln hlp
  go_loopw [14] (fun i wr => ∃ (k : Nat) (nz pz : List Int), k ≤ es.length ∧ i = .int .i64 k ∧ LinkZ es.length nz ∧ LinkZ es.length pz ∧ Row wr (w.heap.size + 1) 3 (zvals nz) ∧ Row wr w1.heap.size 3 (zvals pz) ∧ Hid (Tried (upE es) (optZ nz) (optZ pz) k) ∧ KeepX (Two (w.heap.size + 1) w1.heap.size) V wr) (fun i _ => es.length - (intOf i).toNat)
  case atStart => exact ⟨0, nz, pz, Nat.zero_le _, rfl, lN0, lP0, rN3, rP3, HT0, KeepX.refl _ _⟩
  case round =>
    clear rN3 rP3 HT0 lN0 lP0
    obtain ⟨k, nz, pz, hk, rfl, lN, lP, rN, rP, HTr, hK⟩ := hrel
    have hX : ∀ t, Two (w.heap.size + 1) w1.heap.size t → n₁ ≤ t := by rintro t (rfl | rfl) <;> omega
    have hKb : Below n₁ V wr := hK.below (by omega) hX
    have hsz := hK.size
    have rl' := hK.row rl (by rintro (e | e) <;> omega)
    have q' := hK.row q3 (by rintro (e | e) <;> omega)
    by_cases hlt : k < es.length
    · have hlk := link_any (w.heap.size + 1) w1.heap.size a cap es k nz pz n₁ hf hin hl hg wr (by omega) (hTV.below hKb hg) (hwV.below hKb) (by omega) (by omega) (by omega) hlt lN lP HTr.out rN rP
      have c0 := rl'.cell (i := 0) rfl
      have c1 := rl'.cell (i := 1) rfl
      go_wp2_with fail
      refine hlk.mono ?_
      rintro e w5 ⟨nz', pz', rfl, hK5, lN', lP', rN', rP', hTr'⟩
      have HT5 := hide hTr'
      clear hlk hTr' HTr
      dsimp only
      go_wp2_with fail
      exact ⟨⟨k + 1, nz', pz', by omega, by go_num, lN', lP', rN', rP', HT5, hK.trans hK5⟩, by simp [intOf]; omega⟩
    · obtain rfl : k = es.length := by omega
      have c0 := rl'.cell (i := 0) rfl
      have c1 := rl'.cell (i := 1) rfl
      have d0 := q'.cell (i := 0) rfl
      have d1 := q'.cell (i := 1) rfl
      have f0 := q'.frozen 0
      have f1 := q'.frozen 1
      have q5 := (q'.set 0 (.slice (some ⟨w.heap.size + 1, 0, none⟩) es.length es.length)).set 1 (.slice (some ⟨w1.heap.size, 0, none⟩) es.length es.length)
      have e0 := q5.cell (i := 0) (v := .slice (some ⟨w.heap.size + 1, 0, none⟩) es.length es.length) rfl
      have e1 := q5.cell (i := 1) (v := .slice (some ⟨w1.heap.size, 0, none⟩) es.length es.length) rfl
      go_wp2_with fail
      refine bodyPost_ret (v := .agg #[.slice (some ⟨w.heap.size + 1, 0, none⟩) es.length es.length, .slice (some ⟨w1.heap.size, 0, none⟩) es.length es.length]) (by simp [results, Tryd.results15, go_sem, e0, e1]) rfl ⟨w.heap.size + 1, w1.heap.size, nz, pz, rfl, ?_, by omega, by omega, by omega, lN, lP, ?_, ?_, HTr.out⟩
      · have hKw : Below w.heap.size V wr := hK.below (by omega) (by rintro t (rfl | rfl) <;> omega)
        exact ((HBV.out.trans hKw).setCell (p := ⟨w.heap.size, 0, none⟩) (Nat.le_refl _) _).setCell (p := ⟨w.heap.size, 1, none⟩) (Nat.le_refl _) _
      · exact (rN.other (by omega) _ _).other (by omega) _ _
      · exact (rP.other (by omega) _ _).other (by omega) _ _
end Go.Proofs.YtnlkjklcikolaaaDoor
