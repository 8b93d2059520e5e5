/- The contract of the program's anti: elements none of which is strictly below another one. -/
import Derived.Test.YtnlkjklcikolaaaDoorLinkAny
import Derived.Test.YtnlkjklcikolaaaDoorAntiCome
import Derived.Laws.AppendOwn
namespace Go.Proofs.YtnlkjklcikolaaaDoor
open Go.RowKit Go.Shelf
attribute [local go_sem] Oper.semAt_some

/-- what the first k ends have come to -/
structure Lows (up : Nat → Nat → Prop) (nx pv : Nat → Option Nat) (k lo hi : Nat) : Prop where
  lt1 : lo < 4294967296
  lt2 : hi < 4294967296
  ends : ∀ x, x < k → nx x = none → hasB lo x = true
  ups : ∀ x, hasB lo x = true → ∀ c, up x c → hasB hi c = true
  back : ∀ b p, hasB hi b = true → pv b = some p → hasB lo p = true
  dead : ∀ D, Dead up pv D → (∀ i, i < k → nx i = none → ∀ c, up i c → D c) → ∀ b, hasB hi b = true → D b
  org : ∀ x, hasB lo x = true → x < k ∨ ∃ b, pv b = some x
theorem Lows.start (up : Nat → Nat → Prop) (nx pv : Nat → Option Nat) : Lows up nx pv 0 0 0 :=
  ⟨by decide, by decide, fun x hx => by omega, (fun x h => by rw [hasB_zero] at h; cases h), (fun b p h => by rw [hasB_zero] at h; cases h), (fun D _ _ b h => by rw [hasB_zero] at h; cases h), (fun x h => by rw [hasB_zero] at h; cases h)⟩
theorem Lows.skip {up : Nat → Nat → Prop} {nx pv : Nat → Option Nat} {k lo hi : Nat} (h : Lows up nx pv k lo hi) (hk : nx k = none → hasB lo k = true) : Lows up nx pv (k + 1) lo hi where
  lt1 := h.lt1
  lt2 := h.lt2
  ends := fun x hx e => by
    by_cases q : x = k
    · subst q; exact hk e
    · exact h.ends x (by omega) e
  ups := h.ups
  back := h.back
  dead := fun D hD hall => h.dead D hD fun i hi => hall i (by omega)
  org := fun x hx => (h.org x hx).imp (fun q => by omega) id
theorem Lows.call {up : Nat → Nat → Prop} {nx pv : Nat → Option Nat} {k lo hi lo' hi' : Nat} (h : Lows up nx pv k lo hi) (hk : nx k = none) (C : Came up pv k lo hi lo' hi') : Lows up nx pv (k + 1) lo' hi' where
  lt1 := C.lt1
  lt2 := C.lt2
  ends := fun x hx e => by
    by_cases q : x = k
    · subst q; exact C.has
    · exact C.keep1 x (h.ends x (by omega) e)
  ups := fun x hx c hc => by
    cases q : hasB lo x with
    | true => exact C.keep2 c (h.ups x q c hc)
    | false => exact C.new1 x hx q c hc
  back := fun b p hb e => by
    cases q : hasB hi b with
    | true => exact C.keep1 p (h.back b p q e)
    | false => exact C.new2 b hb q p e
  dead := fun D hD hall b hb => by
    cases q : hasB hi b with
    | true => exact h.dead D hD (fun i hi => hall i (by omega)) b q
    | false => exact C.dead D hD (hall k (by omega) hk) b hb q
  org := fun x hx => by
    rcases C.org x hx with q | q | q
    · exact (h.org x q).imp (fun r => by omega) id
    · exact .inl (by omega)
    · exact .inr q

theorem own_slice {W : World} {base : Nat} {e : TypeId} {size : Nat} {v : Value} {k : Nat} {xs : List Value} (h : W.ownsRow base e size v k xs) : ∃ a c, v = .slice a k c := by
  rcases h.2 with ⟨rfl, h0⟩ | ⟨g, cap, _, rfl, _⟩
  · exact ⟨none, 0, by rw [h0]⟩
  · exact ⟨_, _, rfl⟩
theorem anti_boxes (w : World) (v1 v2 v3 z4 z5 z6 v6 : Value) (t1 t2 t3 t4 t5 : TypeId) {W : World} (h : ((((((w.alloc (.cells #[v1, v2] t1)).alloc (.cells #[v3] t2)).alloc (.cells #[z4] t3)).alloc (.cells #[z5] t4))).alloc (.cells #[z6] t5)).setCell ⟨w.heap.size + 1 + 1 + 1 + 1, 0, none⟩ v6 = W) :
    Row W w.heap.size t1 [v1, v2] ∧ Boxed W (w.heap.size + 1) t2 v3 ∧ Boxed W (w.heap.size + 1 + 1) t3 z4 ∧ Boxed W (w.heap.size + 1 + 1 + 1) t4 z5 ∧ Boxed W (w.heap.size + 1 + 1 + 1 + 1) t5 v6 ∧ W.heap.size = w.heap.size + 1 + 1 + 1 + 1 + 1 ∧ Below w.heap.size w W := by
  subst h
  have r0 : Row (w.alloc (.cells #[v1, v2] t1)) w.heap.size t1 [v1, v2] := Row.new w t1 [v1, v2]
  have b1 := Boxed.new (w.alloc (.cells #[v1, v2] t1)) t2 v3
  have b2 := Boxed.new ((w.alloc (.cells #[v1, v2] t1)).alloc (.cells #[v3] t2)) t3 z4
  have b3 := Boxed.new (((w.alloc (.cells #[v1, v2] t1)).alloc (.cells #[v3] t2)).alloc (.cells #[z4] t3)) t4 z5
  have b4 := Boxed.new ((((w.alloc (.cells #[v1, v2] t1)).alloc (.cells #[v3] t2)).alloc (.cells #[z4] t3)).alloc (.cells #[z5] t4)) t5 z6
  simp only [World.size_alloc] at b1 b2 b3 b4
  refine ⟨((((r0.alloc _).alloc _).alloc _).alloc _).other (by omega) _ _, (((b1.alloc _).alloc _).alloc _).other (by omega) _, ((b2.alloc _).alloc _).other (by omega) _, (b3.alloc _).other (by omega) _, b4.set _, by simp, ?_⟩
  exact ((((((Below.refl _ _).alloc (Nat.le_refl _) _).alloc (by simp) _).alloc (by simp; omega) _).alloc (by simp; omega) _).alloc (by simp; omega) _).setCell (by simp; omega) _

set_option maxRecDepth 100000 in
set_option maxHeartbeats 4000000 in
theorem anti_any (gN gP : Nat) (a : Option Addr) (cap : Nat) (es : List Nat) (nz pz : List Int) (n₁ : Nat) (hf : Fit es) (hin : Inside es) (hl : es.length ≤ 16) (hg : 0 < n₁) (w : World) (hn1 : n₁ ≤ w.heap.size) (hT : TabAt w) (hw : IsWords n₁ w a es) (lN : LinkZ es.length nz) (lP : LinkZ es.length pz) (rN : Row w gN 3 (zvals nz)) (rP : Row w gP 3 (zvals pz)) :
    Calls Tryd.prog 16 #[.agg #[.slice (some ⟨gN, 0, none⟩) es.length es.length, .slice (some ⟨gP, 0, none⟩) es.length es.length], .slice a es.length cap] w fun e w' => ∃ v lo hi, e = .returned v ∧ Lows (upE es) (optZ nz) (optZ pz) es.length lo hi ∧ Below w.heap.size w w' ∧ w'.ownsRow w.heap.size 3 1 v (elems (andN lo hi)).length (ivals (elems (andN lo hi))) := by
  have hfn := wide_fn
  have hdep := wide_depth
  have ltN := rN.lt
  have ltP := rP.lt
  have hnl := lN.1
  have hpl := lP.1
  obtain ⟨W1, hW1⟩ : ∃ W1, ((((((w.alloc (.cells #[.slice (some ⟨gN, 0, none⟩) es.length es.length, .slice (some ⟨gP, 0, none⟩) es.length es.length] 43)).alloc (.cells #[.slice a es.length cap] 22)).alloc (.cells #[.int .u32 0] 25)).alloc (.cells #[.int .u32 0] 25))).alloc (.cells #[.nilFunc] 52)).setCell ⟨w.heap.size + 1 + 1 + 1 + 1, 0, none⟩ (.func (.func 26) #[] #[.pointer (some ⟨w.heap.size + 1 + 1, 0, none⟩), .pointer (some ⟨w.heap.size + 1, 0, none⟩), .pointer (some ⟨w.heap.size + 1 + 1 + 1, 0, none⟩), .pointer (some ⟨w.heap.size, 0, none⟩), .pointer (some ⟨w.heap.size + 1 + 1 + 1 + 1, 0, none⟩)]) = W1 := ⟨_, rfl⟩
  obtain ⟨rL, bA, bW, bU, bC, hs1, hb1⟩ := anti_boxes w _ _ _ _ _ _ _ _ _ _ _ _ hW1
  have hcm := acome_any (w.heap.size + 1 + 1) (w.heap.size + 1) (w.heap.size + 1 + 1 + 1) w.heap.size (w.heap.size + 1 + 1 + 1 + 1) a cap es (some ⟨gN, 0, none⟩) es.length (some ⟨gP, 0, none⟩) es.length pz w.heap.size W1 hf hin hl lP (by omega) (by omega) (hT.below hb1 (by omega)) ((hw.mono hn1).below hb1) (.inr ⟨gP, 0, rfl, ltP, fun i hi => by rw [Nat.zero_add]; exact (show Row W1 gP 3 (zvals pz) from (hb1.block _ ltP).trans rP).cell (zvals_at hi)⟩) (by omega) (by omega) (by omega) (by rintro (e | e) <;> omega) (by rintro (e | e) <;> omega) (by rintro (e | e) <;> omega) bA rL bC
  have HT1 := hide (hT.below hb1 (by omega))
  have Hb := hide hb1
  have cL0 := rL.cell (i := 0) rfl
  refine (callsIn_wide (n := 6)).1 ?_
  refine callsIn_of_wp_marks Tryd.func16 rfl trivial ?_ rfl
  simp only [Tryd.ntmps16, List.size_toArray, List.length_cons, List.length_nil, Nat.reduceAdd, Nat.reduceSub, Array.replicate_succ, Array.replicate_zero, List.push_toArray, List.append_toArray, List.nil_append, List.cons_append]
  gi_wp2
  refine wpIn_loop (fun ac W => ∃ (k lo hi : Nat) (u8 u16 u17 u18 u19 u20 u21 u22 u23 u24 u25 u26 u27 u28 u29 u30 u31 u32 u33 : Value), ac = { tmps := #[.agg #[.slice (some ⟨gN, 0, none⟩) es.length es.length, .slice (some ⟨gP, 0, none⟩) es.length es.length], .slice a es.length cap, .pointer (some ⟨w.heap.size, 0, none⟩), .pointer (some ⟨w.heap.size + 1, 0, none⟩), .slice none 0 0, .pointer (some ⟨w.heap.size + 1 + 1, 0, none⟩), .pointer (some ⟨w.heap.size + 1 + 1 + 1, 0, none⟩), .pointer (some ⟨w.heap.size + 1 + 1 + 1 + 1, 0, none⟩), u8, undef, undef, .func (.func 26) #[] #[.pointer (some ⟨w.heap.size + 1 + 1, 0, none⟩), .pointer (some ⟨w.heap.size + 1, 0, none⟩), .pointer (some ⟨w.heap.size + 1 + 1 + 1, 0, none⟩), .pointer (some ⟨w.heap.size, 0, none⟩), .pointer (some ⟨w.heap.size + 1 + 1 + 1 + 1, 0, none⟩)], .pointer (some ⟨w.heap.size, 0, none⟩), .slice (some ⟨gN, 0, none⟩) es.length es.length, .int .i64 (es.length : Nat), .int .i64 (k : Nat), u16, u17, u18, u19, u20, u21, u22, u23, u24, u25, u26, u27, u28, u29, u30, u31, u32, u33, undef, undef, undef, undef, undef, undef, undef, undef, undef, undef], defers := [] } ∧ k ≤ es.length ∧ Lows (upE es) (optZ nz) (optZ pz) k lo hi ∧ Boxed W (w.heap.size + 1 + 1) 25 (.int .u32 (lo : Nat)) ∧ Boxed W (w.heap.size + 1 + 1 + 1) 25 (.int .u32 (hi : Nat)) ∧ KeepX (Two (w.heap.size + 1 + 1) (w.heap.size + 1 + 1 + 1)) W1 W) (fun ac _ => es.length - (intOf (ac.tmps.getD 15 undef)).toNat) ?start ?round
  case start =>
    exact ⟨0, 0, 0, _, _, _, _, _, _, _, _, _, _, _, _, _, _, _, _, _, _, _, rfl, Nat.zero_le _, Lows.start _ _ _, bW, bU, KeepX.refl _ _⟩
  case round =>
    rintro _ W ⟨k, lo, hi, u8, u16, u17, u18, u19, u20, u21, u22, u23, u24, u25, u26, u27, u28, u29, u30, u31, u32, u33, rfl, hk, hLo, bW', bU', hK⟩
    clear cL0
    have hsz := hK.size
    have rL' := hK.row rL (by rintro (e | e) <;> omega)
    have bC' := hK.boxed bC (by rintro (e | e) <;> omega)
    have rNW : Row W gN 3 (zvals nz) := hK.row (show Row W1 gN 3 (zvals nz) from (hb1.block _ ltN).trans rN) (by rintro (e | e) <;> omega)
    have c0 := rL'.cell (i := 0) rfl
    have cC := bC'.cell
    have cW := bW'.cell
    by_cases hlt : k < es.length
    · have cN := rNW.cell (zvals_at (show k < nz.length by omega))
      have hhas := has_any lo k hLo.lt1 (by omega)
      rcases lN.2 k hlt with e0 | ⟨p, hp, e0⟩
      · rw [e0] at cN
        have hno : optZ nz k = none := optZ_none e0
        rcases two_ways (hasB lo k) with hh | hh
        · simp only [hh] at hhas
          have hcall := hcm (unseen es.length lo) k lo hi W hlt hLo.lt1 hLo.lt2 hh (Nat.le_refl _) hK bW' bU'
          have HC := hide (fun lo2 hi2 C => hLo.call (lo' := lo2) (hi' := hi2) hno C)
          clear e0 hno hh hLo hcm
          gi_wp2_with (first
            | (gi_at_call 28; refine (callsIn_wide.2 (hhas _)).mono ?_; rintro e w' ⟨rfl, rfl⟩)
            | (gi_at_call 26; refine (callsIn_wide.2 hcall).mono ?_; rintro e w4 ⟨lo2, hi2, rfl, k4, b4, u4, hcame⟩))
          exact ⟨⟨k + 1, lo2, hi2, _, _, _, _, _, _, _, _, _, _, _, _, _, _, _, _, _, _, _, rfl, by omega, HC.out _ _ hcame, b4, u4, hK.trans k4⟩, by simp [intOf]; omega⟩
        · simp only [hh] at hhas
          have HS := hide (hLo.skip fun _ => hh)
          clear e0 hno hh hLo hcm
          gi_wp2_with (gi_at_call 28; refine (callsIn_wide.2 (hhas _)).mono ?_; rintro e w' ⟨rfl, rfl⟩)
          exact ⟨⟨k + 1, lo, hi, _, _, _, _, _, _, _, _, _, _, _, _, _, _, _, _, _, _, _, rfl, by omega, HS.out, bW', bU', hK⟩, by simp [intOf]; omega⟩
      · rw [e0] at cN
        have hnp : (((p : Nat) : Int) == (-1)) = false := by rw [beq_eq_false_iff_ne]; omega
        have HS := hide (hLo.skip fun q => by rw [optZ_some lN hlt e0] at q; cases q)
        clear e0 hLo hcm
        gi_wp2
        exact ⟨⟨k + 1, lo, hi, _, _, _, _, _, _, _, _, _, _, _, _, _, _, _, _, _, _, _, rfl, by omega, HS.out, bW', bU', hK⟩, by simp [intOf]; omega⟩
    · obtain rfl : k = es.length := by omega
      have cU := bU'.cell
      have ltW := bW'.lt
      have ltU := bU'.lt
      have hand := bits_andN32 lo hi hLo.lt1 hLo.lt2
      clear hcm
      gi_wp2_with (gi_at_call 27; refine (callsIn_wide.2 (bitsOf_any (andN lo hi) _)).mono ?_; rintro e w' ⟨rfl, rfl⟩)
      obtain ⟨W2, hW2⟩ : ∃ W2, (W.alloc (.cells #[.slice none 0 0] 27)).alloc (.cells #[.int .u32 (andN lo hi : Nat)] 25) = W2 := ⟨_, rfl⟩
      rw [hW2]
      obtain ⟨bL, bY, hs2, hb2, _, _⟩ := two_boxes W _ _ _ _ hW2
      clear hW2
      have hBW : Below w.heap.size w W := Hb.out.trans ((hK.below (n := w.heap.size) (by omega) (by rintro k (rfl | rfl) <;> omega)))
      have hB2 : Below w.heap.size w W2 := hBW.trans (hb2.mono (by omega))
      have hT2 : TabAt W2 := hT.below hB2 (by omega)
      have hx4 : andN lo hi < 4294967296 := andN_lt hLo.lt1
      obtain ⟨i0, hi0, hz0, hz1, hz2⟩ := info_parts info_int
      have hel : (elems (andN lo hi)).length ≤ 32 := nodup_lt ((sorted_elems (by omega)).imp (fun h => Nat.ne_of_lt h)) fun x hx => hasB_lt hx4 ((mem_elems (by omega) x).1 hx)
      have HLo := hide hLo
      clear hLo c0 cC cW cU
      refine wpIn_rangeFunc_ownF rfl (by omega) (gf := 32) (lb := #[.pointer (some ⟨W.heap.size + 1, 0, none⟩)]) rfl trivial (enters_of Tryd.func32 (by kernel_rfl) rfl)
        (bitsOf_stops 5 (W.heap.size + 1) w.heap.size _ hx4 W2 (by omega) (by omega) bY.cell hT2 (by omega)) belowK_t (belowK_b (by omega)) (Below.refl _ _) (fun _ => rfl)
        (fun pre W' => (∃ v, Boxed W' W.heap.size 27 v ∧ W'.ownsRow w.heap.size 3 1 v (pre.map (·.1)).length (ivals (pre.map (·.1))) ∧ True) ∧ Below w.heap.size w W')
        (fun _ _ _ => False)
        (OwnFrom.and (Own.from (holdsRow_own w.heap.size W.heap.size 27 3 1 (fun pre : List (El (andN lo hi)) => (pre.map (·.1)).length) (fun pre => ivals (pre.map (·.1))) (fun _ _ => True)) _) (ownFrom_below (Nat.le_refl _) (by omega)))
        (fun _ _ _ _ _ hs _ _ => hs)
        ⟨⟨_, bL, World.ownsRow_nil .., trivial⟩, hB2⟩
        (fun y => { tmps := #[.agg #[.slice (some ⟨gN, 0, none⟩) es.length es.length, .slice (some ⟨gP, 0, none⟩) es.length es.length], .slice a es.length cap, .pointer (some ⟨w.heap.size, 0, none⟩), .pointer (some ⟨w.heap.size + 1, 0, none⟩), .slice none 0 0, .pointer (some ⟨w.heap.size + 1 + 1, 0, none⟩), .pointer (some ⟨w.heap.size + 1 + 1 + 1, 0, none⟩), .pointer (some ⟨w.heap.size + 1 + 1 + 1 + 1, 0, none⟩), u8, .pointer (some ⟨W.heap.size, 0, none⟩), .int .i64 (y.1 : Nat), .func (.func 26) #[] #[.pointer (some ⟨w.heap.size + 1 + 1, 0, none⟩), .pointer (some ⟨w.heap.size + 1, 0, none⟩), .pointer (some ⟨w.heap.size + 1 + 1 + 1, 0, none⟩), .pointer (some ⟨w.heap.size, 0, none⟩), .pointer (some ⟨w.heap.size + 1 + 1 + 1 + 1, 0, none⟩)], .pointer (some ⟨w.heap.size, 0, none⟩), .slice (some ⟨gN, 0, none⟩) es.length es.length, .int .i64 (es.length : Nat), .int .i64 (es.length : Nat), .bool false, u17, u18, u19, u20, u21, u22, u23, u24, u25, u26, u27, u28, u29, u30, u31, u32, u33, .int .u32 (lo : Nat), .int .u32 (hi : Nat), .int .u32 (andN lo hi : Nat), .func (.func 32) #[] #[.pointer (some ⟨W.heap.size + 1, 0, none⟩)], .int .i64 (y.1 : Nat), undef, undef, undef, undef, undef], defers := [] }) ?assign ?body ?done ?stop
      case assign =>
        intro l x W' K hK
        gi_wp2
        exact hK
      case body =>
        rintro l pre y W' ⟨⟨v, bL', hown', _⟩, hB'⟩ hpf
        obtain ⟨av, cv, rfl⟩ := own_slice hown'
        have hpl2 : (pre.map (·.1)).length ≤ 32 := by rw [List.length_map]; omega
        have hsn : (pre ++ [y]).map (·.1) = pre.map (·.1) ++ [y.1] := by rw [List.map_append]; rfl
        have cL' := bL'.cell
        have ltL' := bL'.lt
        have hsz' := hB'.size
        have hneL := bL'.not_row (by decide) hown'
        have HSn := hide hsn
        clear hsn
        generalize pre.map (·.1) = S at *
        gi_wp2_with (gi_at_builtin; refine wpListIn_append_own _ rfl _ _ 27 rfl w.heap.size 3 i0 (.int .i64 0) 1 8 Tryd.underlying27 hi0 hz0 hz1 hz2 rfl (by decide) _ _ _ rfl (hown'.alloc _) ⟨W'.heap.size, 0, none⟩ 1 1 [.int .i64 (y.1 : Nat)] rfl rfl (cell_one_new _ _ _) (fun u hu => by simp at hu; subst hu; rfl) (by unfold maxLen; omega) (by omega) (by simp; omega) ?_; intro v' w3 hown3 hgrow3 _; obtain ⟨g', cap', rfl⟩ := ownsRow_succ hown3; have bL3 := (bL'.alloc (.cells #[.int .i64 (y.1 : Nat)] 3)).kept hgrow3 hneL; have cL3 := bL3.cell; have fL3 := bL3.frozen)
        obtain ⟨_, z2, z3, z4, z5⟩ := bL'.appended (by decide) hown' (by omega) (by omega) hown3 hgrow3
        refine ⟨z4, z5, ⟨⟨_, z2, ?_, trivial⟩, hB'.trans z5⟩⟩
        rw [HSn.out, ivals_snoc]
        have e1 : (S ++ [y.1]).length = S.length + 1 := by simp
        rw [e1]
        exact z3
      case done =>
        rintro D ys W' hD rfl ⟨⟨v, bL', hown', _⟩, hB'⟩ hK2
        obtain ⟨av, cv, rfl⟩ := own_slice hown'
        have hDl : D < W'.heap.size := (Array.getElem?_eq_some_iff.1 hK2).1
        rw [elemsS_val] at bL' hown'
        have cL' := bL'.cell
        gi_wp2
        refine leaves_marks (G := fun _ U => U.ownsRow w.heap.size 3 1 (.slice av (elems (andN lo hi)).length cv) (elems (andN lo hi)).length (ivals (elems (andN lo hi))) ∧ Below w.heap.size w U) (n₀ := w.heap.size) (OwnFrom.and (Own.from (ownsRow_own _ _ _ _ (fun _ => _) (fun _ => _)) _) (ownFrom_below (Nat.le_refl _) (Nat.le_refl _))) (fun U h => ?_) [{ target := .collected D, args := #[] }] W'.heap.size _ ⟨D, rfl, by omega, hDl, hK2, trivial⟩ ⟨hown', hB'⟩
        exact ⟨_, results_tmp rfl _ _ _, .slice av (elems (andN lo hi)).length cv, lo, hi, rfl, HLo.out, h.2, h.1⟩
      case stop =>
        rintro D c pre W' _ _ h _
        exact h.elim
end Go.Proofs.YtnlkjklcikolaaaDoor
