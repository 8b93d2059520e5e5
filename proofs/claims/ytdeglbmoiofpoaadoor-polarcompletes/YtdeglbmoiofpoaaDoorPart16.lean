/- The contract of package polar's placesOf. The contract of the document's OrderCheck: the number of what is wrong. -/
import Derived.Test.YtdeglbmoiofpoaaDoorPart14
import Derived.Test.YtdeglbmoiofpoaaDoorPart9
import Derived.Test.YtdeglbmoiofpoaaDoorPart15
import Derived.Test.YtdeglbmoiofpoaaDoorPart11
import Derived.WalkSmall
namespace Go.Proofs.YtdeglbmoiofpoaaDoor
open Go.RowKit Go.Shelf Go.Maps

/-- the map tells of the first k of the list where they stand -/
def AtK (D : DataW Unit) (l : List Nat) (k : Nat) : Prop := ∀ i, i < k → D.atKey (.int .u32 ((wd l i : Nat) : Int)) (.lit (.int .i64 0)) = .lit (.int .i64 (i : Int))
theorem AtK.put {D : DataW Unit} {l : List Nat} {k : Nat} (h : AtK D l k) (hD : IsMap D) (hne : ∀ i, i < k → wd l i ≠ wd l k) : AtK (D.put (.int .u32 ((wd l k : Nat) : Int)) (.lit (.int .i64 (k : Int)))) l (k + 1) := fun i hi => by
  by_cases e : i = k
  · subst e; exact atKey_put_same (k := Lit.int .u32 ((wd l i : Nat) : Int)) hD trivial _ _
  · rw [atKey_put_other (fun h' => hne i (by omega) (by injection h' with _ h2; omega)), h i (by omega)]

theorem make_map (N : Nat) (w : World) : (Instr.makeMap 99 (some (.int .i64 (N : Int)))).run Tryd.prog w = .ok (.map (some w.heap.size)) (w.alloc (.map #[] 0)) := by
  simp only [Instr.makeMap, Sem.run_bind, run_underlying Tryd.underlying99, Result.andThen]
  rfl

set_option maxRecDepth 100000 in
set_option maxHeartbeats 4000000 in
theorem placesOf_any (B N cp : Nat) (P : List (Nat × Nat)) (hN : P.length = N) (h16 : N ≤ 16) (hlt : ∀ i, i < N → wd (rowsP P) i < 4294967296) (hne : ∀ i j, i < N → j < N → wd (rowsP P) i = wd (rowsP P) j → i = j) (av : Option Addr) (cv M : Nat) (hM : M ≤ 16) (sets : List Nat) (hs : sets.length = M) (f : Nat → Nat) (hf : ∀ j, j < M → f j < N ∧ wd sets j = wd (rowsP P) (f j)) (w : World) (hP : Cons w B P) (hB : B < w.heap.size) (n₀ : Nat) (hw : IsWords n₀ w av sets) (hn₀ : n₀ ≤ w.heap.size) :
    Calls Tryd.prog 36 #[.slice (some ⟨B, 0, none⟩) N cp, .slice av M cv] w fun e w' => ∃ g, e = .returned (.slice (some ⟨g, 0, none⟩) M M) ∧ Below w.heap.size w w' ∧ w.heap.size ≤ g ∧ Row w' g 3 (zvals ((List.range M).map fun j => ((f j : Nat) : Int))) := by
  have hm0 := World.ownsMap_made (H := Unit) w Tryd.prog 65 (plainElem Tryd.prog 3)
  have hmm := make_map N w
  have hb0 : Below w.heap.size w (w.alloc (.map #[] 0)) := (Below.refl _ _).alloc (Nat.le_refl _) _
  have hmk := run_make_row' (P := Tryd.prog) 25 3 (.int .i64 0) 8 Tryd.underlying25 info_int rfl .i64 .i64 M (by omega) (by omega)
  rw [zvals_replicate] at hmk
  have HLT := hide hlt
  have HNE := hide hne
  have HF := hide hf
  have HZ := hide hs
  have HPN := hide hN
  clear hlt hne hf hs hN
  go_enter Tryd.func36, Tryd.ntmps36
  go_wp2_with fail
  go_loopw [16] (fun x wr => ∃ (k : Nat) (D : DataW Unit), k ≤ N ∧ x = .int .i64 k ∧ Below w.heap.size w wr ∧ wr.ownsMap Tryd.prog 65 (plainElem Tryd.prog 3) w.heap.size k D ∧ Hid (AtK D (rowsP P) k)) (fun x _ => N - (intOf x).toNat)
  case atStart => exact ⟨0, _, Nat.zero_le _, rfl, hb0, hm0, hide fun i hi => by omega⟩
  case round =>
    clear hm0 hb0 hmm
    obtain ⟨k, D, hk, rfl, hB1, hmap, HD⟩ := hrel
    by_cases hlk : k < N
    · have hcs := hP.below hB1 hB
      have hkP : k < P.length := by rw [HPN.out]; exact hlk
      have c0 := cons_rows hcs (i := k) hkP
      have c1 := (hcs k hkP).2
      have lx := HLT.out k hlk
      have hbs := hB1.size
      have HP2 := hide (HD.out.put hmap.isMap fun i hi e => by have := HNE.out i k (by omega) hlk e; omega)
      generalize wd (rowsP P) k = x at *
      generalize P[k].2 = y at *
      go_wp2_with (at_mapUpdate; refine wpList_mapUpdate_own _ rfl _ _ _ 99 rfl 65 3 lawU Tryd.underlying99 _ w.heap.size k _ rfl (hmap.alloc _) (by unfold maxLen; omega) _ _ _ rfl rfl (keyU lx) _ [] (plainElem_int Tryd.underlying3 (wf_i64N (by omega))) ?_)
      intro w1 hmap1 hgrow1
      have hB3 : Below w.heap.size w w1 := (hB1.alloc hbs _).grown hgrow1 (by simp; omega) fun b hb => by cases hb; exact Nat.le_refl _
      go_wp2_with fail
      exact ⟨⟨k + 1, _, by omega, by go_num, hB3, hmap1, HP2⟩, by simp [intOf]; omega⟩
    · obtain rfl : k = N := by omega
      obtain ⟨w6, h6⟩ : ∃ V, V = wr := ⟨_, rfl⟩
      rw [← h6] at hB1 hmap ⊢
      clear h6 wr
      have hbs := hB1.size
      have hlm := hmap.lt
      have rR := Row.new w6 3 (zvals (List.replicate M 0))
      have hb1 := hB1.alloc hbs (.cells (zvals (List.replicate M 0)).toArray 3)
      have hmapA := hmap.alloc (.cells (zvals (List.replicate M 0)).toArray 3)
      go_wp2_with fail
      go_loopw [31] (fun x W => ∃ (j : Nat) (ds : List Int), j ≤ M ∧ x = .int .i64 j ∧ Below w.heap.size w W ∧ W.ownsMap Tryd.prog 65 (plainElem Tryd.prog 3) w.heap.size k D ∧ Row W w6.heap.size 3 (zvals ds) ∧ Hid (ds.length = M) ∧ Hid (∀ i, i < j → zd ds i = (f i : Int))) (fun x _ => M - (intOf x).toNat)
      case atStart => exact ⟨0, _, Nat.zero_le _, rfl, hb1, hmapA, rR, hide (by simp), hide fun i hi => by omega⟩
      case round =>
        clear rR hb1 hmapA hmk
        obtain ⟨j, ds, hj, rfl, hB2, hmap2, rR, HL, HS⟩ := hrel
        by_cases hlj : j < M
        · obtain ⟨hfj, hsj⟩ := HF.out j hlj
          obtain ⟨bs, os, rfl, hbs2, hcs2⟩ := (hw.below (hB2.mono hn₀)).at (i := j) (by rw [HZ.out]; exact hlj)
          have hck := hcs2 j (by rw [HZ.out]; exact hlj)
          have lx : wd sets j < 4294967296 := by rw [hsj]; exact HLT.out _ hfj
          have hat := HD.out (f j) hfj
          rw [← hsj] at hat
          have HA := hide hat
          have cR := rR.cell (i := j) (zvals_at (by rw [HL.out]; exact hlj))
          have fR := rR.frozen j
          clear hcs2 hsj hat
          generalize wd sets j = x at *
          go_wp2_with (at_lookup; refine wpList_lookup_own_int _ rfl _ _ 99 rfl 65 3 .i64 lawU Tryd.underlying99 Tryd.underlying3 (zeroI _) w.heap.size k _ rfl hmap2 _ _ rfl (keyU lx) ?_)
          intro c hatc hwc
          obtain rfl : c = (f j : Int) := by
            have h := hatc.symm.trans HA.out
            injection h with h
            injection h with _ h
          go_wp2_with fail
          refine ⟨⟨j + 1, ds.set j (f j : Int), by omega, by go_num, hB2.setCell (p := ⟨w6.heap.size, j, none⟩) hbs _, hmap2.setCell (by simp; omega) _, by rw [← zvals_set]; exact rR.set j _, hide (by rw [List.length_set]; exact HL.out), hide fun i hi => ?_⟩, by simp [intOf]; omega⟩
          rw [zd_set (by rw [HL.out]; exact hlj)]
          by_cases e : j = i
          · rw [if_pos e, e]
          · rw [if_neg e]; exact HS.out i (by omega)
        · obtain rfl : j = M := by omega
          have hds : ds = (List.range j).map fun j => ((f j : Nat) : Int) := zd_ext (by rw [HL.out]; simp) fun i hi => by
            rw [HL.out] at hi
            rw [zd_range (fun j => ((f j : Nat) : Int)) hi]
            exact HS.out i hi
          rw [hds] at rR
          clear hds
          go_wp2_with fail
          go_ret
          exact ⟨_, rfl, hB2, hbs, rR⟩
end Go.Proofs.YtdeglbmoiofpoaaDoor

namespace Go.Proofs.YtdeglbmoiofpoaaDoor
open Go.RowKit Go.Shelf

/-- an order lies in the box that a call has laid for its parameter -/
structure InBox (B : Nat) (w wr : World) (n : Int) (a : Option Addr) (len cap : Nat) : Prop where
  c0 : wr.cell? ⟨B, 0, none⟩ = some (.int .i64 n)
  c1 : wr.cell? ⟨B, 1, none⟩ = some (.slice a len cap)
  bel : Below w.heap.size w wr
  lt : B < wr.heap.size
theorem InBox.step {B : Nat} {w wr w' : World} {n : Int} {a : Option Addr} {len cap : Nat} (h : InBox B w wr n a len cap) (hw : w.heap.size ≤ wr.heap.size) (hb : Below wr.heap.size wr w') : InBox B w w' n a len cap :=
  ⟨(hb.cell (p := ⟨B, 0, none⟩) h.lt).trans h.c0, (hb.cell (p := ⟨B, 1, none⟩) h.lt).trans h.c1, h.bel.trans (hb.mono hw), Nat.lt_of_lt_of_le h.lt hb.size⟩
theorem InBox.drewN {B : Nat} {w wr : World} {n : Int} {a : Option Addr} {len cap : Nat} (h : InBox B w wr n a len cap) (m : Nat) : InBox B w (wr.drewN m) n a len cap :=
  h.step h.bel.size (below_drewN (Below.refl _ _) m)
theorem InBox.le {B : Nat} {w wr : World} {n : Int} {a : Option Addr} {len cap : Nat} (h : InBox B w wr n a len cap) : w.heap.size ≤ wr.heap.size := h.bel.size

theorem OrderCheck_large (n : Int) (a : Option Addr) (cap : Nat) (us : List Nat) (w : World) (hn : n < 0 ∨ 16 < n) :
    Calls Tryd.prog 8 #[.agg #[.int .i64 n, .slice a us.length cap]] w fun e w' => e = .returned (.int .i64 (codeOf n us)) ∧ Below w.heap.size w w' := by
  have Hc := hide (code_large (us := us) hn)
  rcases hn with hn | hn
  · have hd : decide (n < 0) = true := by simpa using hn
    go_enter Tryd.func8, Tryd.ntmps8
    go_wp2
    go_ret
    exact ⟨ret_int Hc.out.symm, (Below.refl _ _).alloc (Nat.le_refl _) _⟩
  · have hd : decide (n < 0) = false := by simp; omega
    go_enter Tryd.func8, Tryd.ntmps8
    go_wp2
    go_ret
    exact ⟨ret_int Hc.out.symm, (Below.refl _ _).alloc (Nat.le_refl _) _⟩
theorem OrderCheck_len (n : Int) (a : Option Addr) (cap : Nat) (us : List Nat) (w : World) (h0 : 0 ≤ n) (h1 : n ≤ 16) (hl : (us.length : Int) ≠ n) :
    Calls Tryd.prog 8 #[.agg #[.int .i64 n, .slice a us.length cap]] w fun e w' => e = .returned (.int .i64 (codeOf n us)) ∧ Below w.heap.size w w' := by
  have Hc := hide (code_len (us := us) (n := n) (by omega) hl)
  have hd : decide (n < 0) = false := by simp; omega
  have hne : ((us.length : Int) != n) = true := by rw [bne_iff_ne]; exact hl
  go_enter Tryd.func8, Tryd.ntmps8
  go_wp2
  go_ret
  exact ⟨ret_int Hc.out.symm, (Below.refl _ _).alloc (Nat.le_refl _) _⟩
theorem pair_bad {us : List Nat} {i j : Nat} (hi : i < us.length) (hj : j < us.length) (h : ¬ goodPair us i j) : isOrdB us = false :=
  isOrdB_false.2 fun ho => h ((ho i hi) j hj).1
theorem tri_bad {us : List Nat} {i j k : Nat} (hi : i < us.length) (hj : j < us.length) (hk : k < us.length) (h : ¬ goodTri us i j k) : isOrdB us = false :=
  isOrdB_false.2 fun ho => h (((ho i hi) j hj).2 k hk)

theorem pair_cases (us : List Nat) (i j : Nat) :
    (((i : Int) == (j : Int)) = true ∧ ((i : Int) != (j : Int)) = false ∧ hasB (wd us i) i = false ∧ Hid (¬ goodPair us i j)) ∨
    (((i : Int) == (j : Int)) = false ∧ ((i : Int) != (j : Int)) = true ∧ hasB (wd us i) j = true ∧ hasB (wd us j) i = true ∧ Hid (¬ goodPair us i j)) ∨
    (((i : Int) == (j : Int)) = true ∧ ((i : Int) != (j : Int)) = false ∧ hasB (wd us i) i = true ∧ Hid (goodPair us i j)) ∨
    (((i : Int) == (j : Int)) = false ∧ ((i : Int) != (j : Int)) = true ∧ hasB (wd us i) j = false ∧ Hid (goodPair us i j)) ∨
    (((i : Int) == (j : Int)) = false ∧ ((i : Int) != (j : Int)) = true ∧ hasB (wd us i) j = true ∧ hasB (wd us j) i = false ∧ Hid (goodPair us i j)) := by
  by_cases hij : i = j
  · have h1 : ((i : Int) == (j : Int)) = true := by rw [beq_iff_eq]; omega
    have h2 : ((i : Int) != (j : Int)) = false := by rw [bne_eq_false_iff_eq]; omega
    cases hii : hasB (wd us i) i with
    | false => exact .inl ⟨h1, h2, rfl, fun h => by rw [h.1 hij] at hii; cases hii⟩
    | true => exact .inr (.inr (.inl ⟨h1, h2, rfl, ⟨fun _ => hii, fun h => absurd hij h⟩⟩))
  · have h1 : ((i : Int) == (j : Int)) = false := by rw [beq_eq_false_iff_ne]; omega
    have h2 : ((i : Int) != (j : Int)) = true := by rw [bne_iff_ne]; omega
    cases h3 : hasB (wd us i) j with
    | false => exact .inr (.inr (.inr (.inl ⟨h1, h2, rfl, ⟨fun h => absurd h hij, fun _ h => by rw [h3] at h; cases h⟩⟩)))
    | true =>
      cases h4 : hasB (wd us j) i with
      | false => exact .inr (.inr (.inr (.inr ⟨h1, h2, rfl, rfl, ⟨fun h => absurd h hij, fun _ _ => h4⟩⟩)))
      | true => exact .inr (.inl ⟨h1, h2, rfl, rfl, fun h => by rw [h.2 hij h3] at h4; cases h4⟩)
theorem tri_cases (us : List Nat) (i j k : Nat) :
    (hasB (wd us i) j = true ∧ hasB (wd us j) k = true ∧ hasB (wd us i) k = false ∧ Hid (¬ goodTri us i j k)) ∨
    (hasB (wd us i) j = false ∧ Hid (goodTri us i j k)) ∨
    (hasB (wd us i) j = true ∧ hasB (wd us j) k = false ∧ Hid (goodTri us i j k)) ∨
    (hasB (wd us i) j = true ∧ hasB (wd us j) k = true ∧ hasB (wd us i) k = true ∧ Hid (goodTri us i j k)) := by
  cases h1 : hasB (wd us i) j with
  | false => exact .inr (.inl ⟨rfl, fun h => by rw [h1] at h; cases h⟩)
  | true =>
    cases h2 : hasB (wd us j) k with
    | false => exact .inr (.inr (.inl ⟨rfl, rfl, fun _ h => by rw [h2] at h; cases h⟩))
    | true =>
      cases h3 : hasB (wd us i) k with
      | false => exact .inl ⟨rfl, rfl, rfl, fun h => by rw [h h1 h2] at h3; cases h3⟩
      | true => exact .inr (.inr (.inr ⟨rfl, rfl, rfl, fun _ _ => h3⟩))

set_option maxRecDepth 100000 in
set_option maxHeartbeats 2000000 in
theorem OrderCheck_loops (a : Option Addr) (cap : Nat) (us : List Nat) (n₀ : Nat) (hf : Fit us) (hl : us.length ≤ 16) (w : World) (hw : IsWords n₀ w a us) (hn₀ : n₀ ≤ w.heap.size) :
    Calls Tryd.prog 8 #[.agg #[.int .i64 us.length, .slice a us.length cap]] w fun e w' => e = .returned (.int .i64 (codeOf us.length us)) ∧ Below w.heap.size w w' := by
  have hd : decide ((us.length : Int) < 0) = false := by simp
  have hd2 : ((us.length : Int) != (us.length : Int)) = false := by simp
  have hd3 : decide ((16 : Int) < (us.length : Int)) = false := by simp; omega
  go_enter Tryd.func8, Tryd.ntmps8
  go_wp2
  go_loopw [3] (fun i wr => ∃ k : Nat, k ≤ us.length ∧ i = .int .i64 k ∧ (∀ i', i' < k → outsideB (wd us i') us.length = false) ∧ InBox w.heap.size w wr us.length a us.length cap) (fun i _ => us.length - (intOf i).toNat)
  case atStart => exact ⟨0, Nat.zero_le _, rfl, fun j h1 => by omega, ⟨by simp, by simp, (Below.refl _ _).alloc (Nat.le_refl _) _, by simp⟩⟩
  case round =>
    clear hd hd2 hd3
    obtain ⟨k, hk, rfl, hall, hbox⟩ := hrel
    have hc0 := hbox.c0
    have hc1 := hbox.c1
    by_cases hlt : k < us.length
    · obtain ⟨b, off, ha, hb, hc⟩ := (hw.below (hbox.bel.mono hn₀)).at hlt
      subst ha
      have hck := hc k hlt
      clear hc
      cases ho : outsideB (wd us k) us.length with
      | true =>
        have hout := fun W : World => Outside_any (wd us k) us.length (hf k) hl W
        simp only [ho] at hout
        have Ho := hide ho; clear ho
        go_wp2
        go_quiet ((go_at_call 37; exact Calls.quiet_of_same (hout _)))
        have ho := Ho.out
        go_wp2
        go_ret
        refine ⟨ret_int (code_arg (by omega) rfl (insideB_false.2 fun hin => ?_)).symm, (hbox.drewN _).bel⟩
        rw [outsideB_false.2 fun i h1 h2 => ?_] at ho
        · cases ho
        · cases hb : hasB (wd us k) i with
          | false => rfl
          | true => have := hin k hlt i h1 hb; omega
      | false =>
        have hout := fun W : World => Outside_any (wd us k) us.length (hf k) hl W
        simp only [ho] at hout
        have Ho := hide ho; clear ho
        go_wp2
        go_quiet ((go_at_call 37; exact Calls.quiet_of_same (hout _)))
        have ho := Ho.out
        go_wp2
        refine ⟨⟨k + 1, by omega, by go_num, fun j h1 => ?_, hbox.drewN _⟩, by simp [intOf]; omega⟩
        by_cases e : j = k
        · rw [e]; exact ho
        · exact hall j (by omega)
    · have Hin := hide (insideB_true.2 (show Inside us from fun i hi j hj hb => by
        apply Nat.lt_of_not_le; intro hle
        rw [outsideB_false.1 (hall i (by omega)) j hj hle] at hb; cases hb))
      clear hall
      go_wp2
      go_loopw [4] (fun i wr => ∃ i' : Nat, i' ≤ us.length ∧ i = .int .i64 i' ∧ (∀ i'', i'' < i' → goodRow us i'') ∧ InBox w.heap.size w wr us.length a us.length cap) (fun i _ => us.length - (intOf i).toNat)
      case atStart => exact ⟨0, Nat.zero_le _, rfl, fun j h1 => by omega, hbox⟩
      case round =>
        clear hc0 hc1 hbox
        obtain ⟨i, hi, rfl, hrows, hbox⟩ := hrel
        have hc0 := hbox.c0
        have hc1 := hbox.c1
        by_cases hli : i < us.length
        · go_wp2
          go_loopw [5] (fun j wr => ∃ j' : Nat, j' ≤ us.length ∧ j = .int .i64 j' ∧ (∀ j'', j'' < j' → goodPair us i j'' ∧ ∀ k, k < us.length → goodTri us i j'' k) ∧ InBox w.heap.size w wr us.length a us.length cap) (fun j _ => us.length - (intOf j).toNat)
          case atStart => exact ⟨0, Nat.zero_le _, rfl, fun j h1 => by omega, hbox⟩
          case round =>
            clear hc0 hc1 hbox
            obtain ⟨j, hj, rfl, hpairs, hbox⟩ := hrel
            have hc0 := hbox.c0
            have hc1 := hbox.c1
            by_cases hlj : j < us.length
            · rcases pair_cases us i j with ⟨h1, h2, hii, Hgp⟩ | ⟨h1, h2, hij, hji, Hgp⟩ | ⟨h1, h2, hii, Hgp⟩ | ⟨h1, h2, hij, Hgp⟩ | ⟨h1, h2, hij, hji, Hgp⟩
              all_goals
                go_wp2_with (go_at_call 38; refine (Below_any _ _ _ us _ _ n₀ hf (by omega) (by omega) _ (hw.below (hbox.bel.mono hn₀)) (by have := hbox.le; omega)).mono ?_; rintro e w1 ⟨rfl, hb1⟩; replace hbox := hbox.step hbox.le hb1; have hc0 := hbox.c0; have hc1 := hbox.c1)
              · go_ret
                exact ⟨ret_int (code_form (by omega) rfl Hin.out (pair_bad hli hlj Hgp.out)).symm, hbox.bel⟩
              · go_ret
                exact ⟨ret_int (code_form (by omega) rfl Hin.out (pair_bad hli hlj Hgp.out)).symm, hbox.bel⟩
              all_goals
                go_loopw [6] (fun k wr => ∃ k' : Nat, k' ≤ us.length ∧ k = .int .i64 k' ∧ (∀ k'', k'' < k' → goodTri us i j k'') ∧ InBox w.heap.size w wr us.length a us.length cap) (fun k _ => us.length - (intOf k).toNat)
                case atStart => exact ⟨0, Nat.zero_le _, rfl, fun j h1 => by omega, hbox⟩
                case round =>
                  clear h1 h2
                  try clear hii
                  try clear hij
                  try clear hji
                  clear hc0 hc1 hbox
                  obtain ⟨k', hk', rfl, htris, hbox⟩ := hrel
                  have hc0 := hbox.c0
                  have hc1 := hbox.c1
                  by_cases hlk : k' < us.length
                  · rcases tri_cases us i j k' with ⟨t1, t2, t3, Hgt⟩ | ⟨t1, Hgt⟩ | ⟨t1, t2, Hgt⟩ | ⟨t1, t2, t3, Hgt⟩
                    all_goals
                      go_wp2_with (go_at_call 38; refine (Below_any _ _ _ us _ _ n₀ hf (by omega) (by omega) _ (hw.below (hbox.bel.mono hn₀)) (by have := hbox.le; omega)).mono ?_; rintro e w1 ⟨rfl, hb1⟩; replace hbox := hbox.step hbox.le hb1; have hc0 := hbox.c0; have hc1 := hbox.c1)
                    · go_ret
                      exact ⟨ret_int (code_form (by omega) rfl Hin.out (tri_bad hli hlj hlk Hgt.out)).symm, hbox.bel⟩
                    all_goals
                      refine ⟨⟨k' + 1, by omega, by go_num, fun k'' h1 => ?_, hbox⟩, by simp [intOf]; omega⟩
                      by_cases e : k'' = k'
                      · rw [e]; exact Hgt.out
                      · exact htris k'' (by omega)
                  · go_wp2
                    refine ⟨⟨j + 1, by omega, by go_num, fun j' h1 => ?_, hbox⟩, by simp [intOf]; omega⟩
                    by_cases e : j' = j
                    · rw [e]; exact ⟨Hgp.out, fun k hk => htris k (by omega)⟩
                    · exact hpairs j' (by omega)
            · go_wp2
              refine ⟨⟨i + 1, by omega, by go_num, fun j' h1 => ?_, hbox⟩, by simp [intOf]; omega⟩
              by_cases e : j' = i
              · rw [e]; exact fun j'' h2 => hpairs j'' (by omega)
              · exact hrows j' (by omega)
        · go_wp2
          go_ret
          exact ⟨ret_int (code_ok (by omega) rfl Hin.out (isOrdB_true.2 fun j hj => hrows j (by omega))).symm, hbox.bel⟩

/-- **the document's OrderCheck tells the number of what is wrong, for every order** -/
theorem OrderCheck_any (n : Int) (a : Option Addr) (cap : Nat) (us : List Nat) (n₀ : Nat) (hf : Fit us) (w : World) (hw : IsWords n₀ w a us) (hn₀ : n₀ ≤ w.heap.size) :
    Calls Tryd.prog 8 #[.agg #[.int .i64 n, .slice a us.length cap]] w fun e w' => e = .returned (.int .i64 (codeOf n us)) ∧ Below w.heap.size w w' := by
  by_cases h1 : n < 0 ∨ 16 < n
  · exact OrderCheck_large n a cap us w h1
  · by_cases h2 : (us.length : Int) = n
    · subst h2
      exact OrderCheck_loops a cap us n₀ hf (by omega) w hw hn₀
    · exact OrderCheck_len n a cap us w (by omega) (by omega) h2
end Go.Proofs.YtdeglbmoiofpoaaDoor
