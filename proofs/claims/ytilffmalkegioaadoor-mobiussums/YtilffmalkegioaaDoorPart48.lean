/- Contracts: the document's Under, Covered, OrderCovers. Slices of ints in memory; the contract of the document's TimesSame. The contract of the document's OrderSorted: all elements, each time the least one that may come. The document's MobiusInverse. The document's MobiusInverse, where there is one. The document's MobiusUndo. The document's MobiusSums. The walk of the law MobiusSums: it answers true, and writes nothing that was there. -/
import Derived.Test.YtilffmalkegioaaDoorRefCovered
import Derived.Test.YtilffmalkegioaaDoorPairMem
import Derived.Test.YtilffmalkegioaaDoorBoxMore
import Derived.Test.YtilffmalkegioaaDoorIntVals
import Derived.Test.YtilffmalkegioaaDoorRefCheck
import Derived.Test.YtilffmalkegioaaDoorSortPlain
import Derived.Test.YtilffmalkegioaaDoorHas
import Derived.Test.YtilffmalkegioaaDoorMobRefT
import Derived.Test.YtilffmalkegioaaDoorMobInv
import Derived.Test.YtilffmalkegioaaDoorSortedTop
import Derived.Test.YtilffmalkegioaaDoorMobPubM
import Derived.Test.YtilffmalkegioaaDoorMobRefZ
import Derived.Test.YtilffmalkegioaaDoorMobRef
namespace Go.Proofs.YtilffmalkegioaaDoor
open Go.RowKit Go.Shelf

end Go.Proofs.YtilffmalkegioaaDoor

namespace Go.Proofs.YtilffmalkegioaaDoor
open Go.RowKit Go.Shelf

def sameIB (l m : List Nat) : Bool := decide (l = m)
end Go.Proofs.YtilffmalkegioaaDoor

namespace Go.Proofs.YtilffmalkegioaaDoor
open Go.RowKit Go.Shelf

/-- what best is when the elements from i on have been looked at -/
def bestI (us : List Nat) (done : List Nat) (i : Nat) : Int := match ((List.range us.length).filter (fun j => decide (i ≤ j))).find? (readyB (underB us) us.length done) with | some m => (m : Int) | none => -1
theorem best_end (us : List Nat) (done : List Nat) : bestI us done us.length = -1 := by
  unfold bestI
  have : (List.range us.length).filter (fun j => decide (us.length ≤ j)) = [] := by
    rw [List.filter_eq_nil_iff]; intro a ha; have := List.mem_range.1 ha; simp; omega
  rw [this]; rfl
theorem best_split {n i : Nat} (h : i < n) : (List.range n).filter (fun j => decide (i ≤ j)) = i :: (List.range n).filter (fun j => decide (i + 1 ≤ j)) := by
  refine sorted_ext (List.Pairwise.filter _ List.pairwise_lt_range) ?_ fun x => ?_
  · rw [List.pairwise_cons]
    exact ⟨fun y hy => by have := (List.mem_filter.1 hy).2; simp at this; omega, List.Pairwise.filter _ List.pairwise_lt_range⟩
  · simp only [List.mem_filter, List.mem_range, List.mem_cons, decide_eq_true_eq]
    omega
theorem best_yes {us done : List Nat} {i : Nat} (h : i < us.length) (hr : readyB (underB us) us.length done i = true) : bestI us done i = (i : Int) := by
  unfold bestI; rw [best_split h, List.find?_cons, hr]
theorem best_no {us done : List Nat} {i : Nat} (h : i < us.length) (hr : readyB (underB us) us.length done i = false) : bestI us done i = bestI us done (i + 1) := by
  unfold bestI; rw [best_split h, List.find?_cons, hr]
theorem best_zero {us done : List Nat} (h : ∃ i, i < us.length ∧ readyB (underB us) us.length done i = true) : bestI us done 0 = ((nextF (underB us) us.length done : Nat) : Int) := by
  unfold bestI nextF
  have : (List.range us.length).filter (fun j => decide (0 ≤ j)) = List.range us.length := by rw [List.filter_eq_self]; intro a _; simp
  rw [this]
  cases hf : (List.range us.length).find? (readyB (underB us) us.length done) with
  | some m => rfl
  | none =>
    obtain ⟨i, hi, hr⟩ := h
    have := List.find?_eq_none.1 hf i (List.mem_range.2 hi)
    rw [hr] at this; simp at this
/-- is i still ready when those below j have been looked at? -/
def readyTo (us done : List Nat) (i j : Nat) : Bool := !memB done i && (List.range j).all fun x => !(underB us x i && !memB done x)
theorem readyTo_zero (us done : List Nat) (i : Nat) : readyTo us done i 0 = !memB done i := by unfold readyTo; simp
theorem readyTo_succ (us done : List Nat) (i j : Nat) : readyTo us done i (j + 1) = (readyTo us done i j && !(underB us j i && !memB done j)) := by
  unfold readyTo; rw [List.range_succ, List.all_append, Bool.and_assoc]; simp
theorem readyTo_all (us done : List Nat) (i : Nat) : readyTo us done i us.length = readyB (underB us) us.length done i := rfl
def sliceLen : Value → Nat
  | .slice _ n _ => n
  | _ => 0

set_option maxRecDepth 100000 in
set_option maxHeartbeats 2000000 in
theorem OrderSorted_any (a : Option Addr) (cap : Nat) (us : List Nat) (n₀ : Nat) (hf : Fit us) (hl : us.length ≤ 16) (hord : IsOrd us) (w : World) (hw : IsWords n₀ w a us) (hn₀ : n₀ ≤ w.heap.size) :
    Calls Tryd.prog 43 #[.agg #[.int .i64 us.length, .slice a us.length cap]] w fun e w' => ∃ av cv, e = .returned (.slice av us.length cv) ∧ Below w.heap.size w w' ∧ w'.ownsRow w.heap.size 3 1 (.slice av us.length cv) us.length (ivals (sortF (underB us) us.length us.length)) := by
  obtain ⟨i0, hi, hz0, hz1, hz2⟩ := info_parts info_int
  have hA := acy_under hord
  go_enter Tryd.func43, Tryd.ntmps43
  go_wp2
  go_loopw [3] (fun v wr => ∃ (k : Nat) (L : List Nat) (av : Option Addr) (cv : Nat), k ≤ us.length ∧ L = sortF (underB us) us.length k ∧ v = .slice av k cv ∧ InBox w.heap.size w wr us.length a us.length cap ∧ wr.ownsRow (w.heap.size + 1) 3 1 (.slice av k cv) k (ivals L)) (fun v _ => us.length - sliceLen v)
  case atStart => exact ⟨0, [], none, 0, Nat.zero_le _, rfl, rfl, ⟨by simp, by simp, (Below.refl _ _).alloc (Nat.le_refl _) _, by simp⟩, World.ownsRow_nil ..⟩
  case round =>
    obtain ⟨k, L, av, cv, hk, hL, rfl, hbox, hown⟩ := hrel
    have HL := hide hL
    clear hL
    have hc0 := hbox.c0
    have hc1 := hbox.c1
    have hLlen : L.length = k := by rw [HL.out, sortF_len]
    by_cases hlt : k < us.length
    · have HLlen := hide hLlen
      clear hLlen
      go_wp2
      go_loopw [4, 5] (fun b i wr => ∃ i' : Nat, i' ≤ us.length ∧ b = .int .i64 (bestI us L i') ∧ i = .int .i64 ((i' : Int) - 1) ∧ InBox w.heap.size w wr us.length a us.length cap ∧ wr.ownsRow (w.heap.size + 1) 3 1 (.slice av k cv) k (ivals L)) (fun _ i _ => (intOf i + 1).toNat)
      case atStart => exact ⟨us.length, Nat.le_refl _, by rw [best_end], rfl, hbox, hown⟩
      case round =>
        clear hc0 hc1 hbox hown
        obtain ⟨i', hi', rfl, rfl, hbox, hown⟩ := hrel
        have hc0 := hbox.c0
        have hc1 := hbox.c1
        cases i' with
        | zero =>
          have hex := hA L (left_some (by rw [HLlen.out]; exact hlt))
          have hbz := best_zero hex
          rw [hbz]
          have hnx := (next_spec hex).1
          generalize hnn : nextF (underB us) us.length L = nx at *
          have Hnn := hide hnn
          clear hnn hex hbz
          go_wp2_with (at_builtin; refine wpList_append_own _ rfl _ _ 56 rfl (w.heap.size + 1) 3 i0 (.int .i64 0) 1 8 Tryd.underlying56 hi hz0 hz1 hz2 rfl (by decide) _ _ _ rfl (hown.alloc _) ⟨wr.heap.size, 0, none⟩ 1 1 [.int .i64 (nx : Nat)] rfl rfl (cell_one_new _ _ _) (fun u hu => by simp at hu; subst hu; rfl) (by unfold maxLen; omega) (by omega) (by have := hbox.lt; simp; omega) ?_; intro v' w3 hown3 hgrow3 _; obtain ⟨g', cap', rfl⟩ := ownsRow_succ hown3)
          have hbox3 : InBox w.heap.size w w3 us.length a us.length cap := (hbox.step hbox.le ((Below.refl _ _).alloc (Nat.le_refl _) (.cells #[.int .i64 (nx : Nat)] 3))).grown hgrow3 fun b eb => by
            have h1 : w.heap.size + 1 ≤ b := by
              apply Nat.le_of_not_lt; intro hbl
              exact ownBlock_ge hown (b := b) hbl eb.symm
            omega
          exact ⟨⟨k + 1, L ++ [nx], some ⟨g', 0, none⟩, cap', by omega, by rw [← Hnn.out, HL.out]; rfl, rfl, hbox3, by rw [ivals_snoc]; exact hown3⟩, by simp only [sliceLen]; omega⟩
        | succ m =>
          have hm1 : ((m + 1 : Nat) : Int) - 1 = (m : Int) := by omega
          rw [hm1]
          clear hm1
          have hmn : m < us.length := by omega
          have hhas := Has_any av cv L m wr.heap.size (by rw [HLlen.out]; omega) wr (ownsRow_ints hown)
          rw [HLlen.out] at hhas
          go_wp2_with (go_at_call 61; refine hhas.mono ?_; rintro e w' ⟨rfl, rfl⟩)
          go_loopw [6, 7] (fun r j wr => ∃ j' : Nat, j' ≤ us.length ∧ j = .int .i64 j' ∧ r = .bool (readyTo us L m j') ∧ InBox w.heap.size w wr us.length a us.length cap ∧ wr.ownsRow (w.heap.size + 1) 3 1 (.slice av k cv) k (ivals L)) (fun _ j _ => us.length - (intOf j).toNat)
          case atStart => exact ⟨0, Nat.zero_le _, rfl, by rw [readyTo_zero], hbox, hown⟩
          case round =>
            clear hhas hc0 hc1 hbox hown
            obtain ⟨j, hj, rfl, rfl, hbox, hown⟩ := hrel
            have hc0 := hbox.c0
            have hc1 := hbox.c1
            by_cases hlj : j < us.length
            · have hun := Under_any us.length a cap us j m n₀ hf hlj (by omega) wr (hw.below (hbox.bel.mono hn₀)) (by have := hbox.le; omega)
              have Hs := hide (readyTo_succ us L m j)
              cases hu : underB us j m with
              | false =>
                rw [hu] at hun
                have Hu := hide hu
                clear hu
                go_wp2_with (go_at_call 44; refine hun.mono ?_; rintro e w1 ⟨rfl, hb1⟩)
                exact ⟨⟨j + 1, by omega, by go_num, by rw [Hs.out, Hu.out]; simp, hbox.step hbox.le hb1, ownsRow_below hown hb1⟩, by simp [intOf]; omega⟩
              | true =>
                rw [hu] at hun
                have Hu := hide hu
                clear hu
                cases hm : memB L j with
                | true =>
                  have Hm := hide hm
                  clear hm
                  go_wp2_with (first
                    | (go_at_call 44; refine hun.mono ?_; rintro e w1 ⟨rfl, hb1⟩; have hown1 := ownsRow_below hown hb1; have hh := Has_any av cv L j w1.heap.size (by rw [HLlen.out]; omega) w1 (ownsRow_ints hown1); rw [HLlen.out, Hm.out] at hh)
                    | (go_at_call 61; refine hh.mono ?_; rintro e w' ⟨rfl, rfl⟩))
                  exact ⟨⟨j + 1, by omega, by go_num, by rw [Hs.out, Hu.out, Hm.out]; simp, hbox.step hbox.le hb1, hown1⟩, by simp [intOf]; omega⟩
                | false =>
                  have Hm := hide hm
                  clear hm
                  go_wp2_with (first
                    | (go_at_call 44; refine hun.mono ?_; rintro e w1 ⟨rfl, hb1⟩; have hown1 := ownsRow_below hown hb1; have hh := Has_any av cv L j w1.heap.size (by rw [HLlen.out]; omega) w1 (ownsRow_ints hown1); rw [HLlen.out, Hm.out] at hh)
                    | (go_at_call 61; refine hh.mono ?_; rintro e w' ⟨rfl, rfl⟩))
                  exact ⟨⟨j + 1, by omega, by go_num, by rw [Hs.out, Hu.out, Hm.out]; simp, hbox.step hbox.le hb1, hown1⟩, by simp [intOf]; omega⟩
            · obtain rfl : j = us.length := by omega
              rw [readyTo_all]
              cases hr : readyB (underB us) us.length L m with
              | true =>
                have Hb := hide (best_yes hmn hr)
                clear hr
                go_wp2
                exact ⟨⟨m, by omega, by rw [Hb.out], rfl, hbox, hown⟩, by simp [intOf]⟩
              | false =>
                have Hb := hide (best_no hmn hr)
                clear hr
                go_wp2
                exact ⟨⟨m, by omega, by rw [Hb.out], rfl, hbox, hown⟩, by simp [intOf]⟩
    · obtain rfl : k = us.length := by omega
      go_wp2
      go_ret
      have e1 := HL.out
      subst e1
      exact ⟨av, cv, rfl, hbox.bel, ownsRow_base hown (by omega)⟩
end Go.Proofs.YtilffmalkegioaaDoor

namespace Go.Proofs.YtilffmalkegioaaDoor
open Go.RowKit Go.Shelf

/-- 1 or -1 where a is b -/
def PM (n : Nat) (f : Mat) : Prop := ∀ a, a < n → f a a = 1 ∨ f a a = -1
theorem PM.unit {n : Nat} {f : Mat} (h : PM n f) : Unit1 n f := fun a ha => by
  rcases h a ha with e | e <;> rw [e] <;> decide
theorem pm_toInt {x : B64} : (x.toInt = 1 ↔ x = 1) ∧ (x.toInt = -1 ↔ x = -1) := by
  constructor
  · rw [← toInt_one]; exact toInt_eq
  · rw [← toInt_none]; exact toInt_eq
/-- what is added at x -/
def ivAt (us : List Nat) (F G : Mat) (a b x : Nat) : B64 := if hasB (wd us a) x && underB us x b then G a x * F x b else 0
theorem inv_leftH {us l : List Nat} (ho : IsOrd us) (hL : Line us l) {F : Mat} (hF : Tab us F) (hu : Unit1 us.length F) {a b : Nat} (ha : a < us.length) (hb : b < us.length) (hne : a ≠ b) :
    -(sm us.length (ivAt us F (invG F l) a b)) * F b b = invG F l a b := by
  have h1 := inv_left ho hL hF hu a ha b hb
  have hT := inv_tab ho hL hF
  rw [one_ne hne] at h1
  unfold mm at h1
  have e1 : (sm us.length fun x => invG F l a x * F x b) = sm us.length (ivAt us F (invG F l) a b) + invG F l a b * F b b := by
    have e2 : (sm us.length fun x => invG F l a x * F x b) = sm us.length fun x => ivAt us F (invG F l) a b x + (if x = b then invG F l a b * F b b else 0) := sm_congr fun x hx => by
      unfold ivAt
      by_cases e : x = b
      · subst e
        have : underB us x x = false := by unfold underB; simp
        rw [this]; simp
      · rw [if_neg e]
        by_cases h1 : leW us a x
        · by_cases h2 : leW us x b
          · have : underB us x b = true := by unfold underB leW at *; simp [e, h2]
            unfold leW at h1
            rw [this, h1]; simp
          · rw [hF x hx b hb h2]; simp
        · rw [hT a ha x hx h1]; simp
    rw [e2, sm_add, sm_one hb fun x _ hne => if_neg hne, if_pos rfl]
  rw [e1] at h1
  have h2 := hu b hb
  generalize sm us.length (ivAt us F (invG F l) a b) = S at *
  generalize F b b = d at *
  generalize invG F l a b = g at *
  have h3 : -S = g * d := by
    have h4 : -S + (S + g * d) = g * d := by grind
    rw [h1] at h4
    rw [← h4]; simp
  rw [h3, BitVec.mul_assoc, h2]; simp
theorem line_before {us l : List Nat} (hL : Line us l) {m x : Nat} (hm : m < l.length) (hx : x < us.length) (h : underB us x (wd l m) = true) : x ∈ l.take m := by
  have hxl := (hL.mem x).2 hx
  rw [← List.take_append_drop m l] at hxl
  rcases List.mem_append.1 hxl with h1 | h1
  · exact h1
  · exfalso
    rw [drop_wd hm] at h1
    unfold underB at h
    rw [Bool.and_eq_true] at h
    have hne : x ≠ wd l m := by simpa using h.1
    rcases List.mem_cons.1 h1 with e | e
    · exact hne e
    · have hup := hL.up
      rw [← List.take_append_drop m l, List.pairwise_append, drop_wd hm, List.pairwise_cons] at hup
      exact hup.2.1.1 x e h.2

set_option maxRecDepth 100000 in
set_option maxHeartbeats 4000000 in
theorem RInverse_none (n : Nat) (a : Option Addr) (cap : Nat) (us : List Nat) (af : Option Addr) (cf : Nat) (F : List B64) (n₀ : Nat) (hn : n = us.length) (hf : Fit us) (ho : IsOrd us) (hl : n ≤ 16) (hlF : F.length = n * n) (hno : ¬ PM n (mat n F)) (w : World) (hw : IsWords n₀ w a us) (hvF : ZInts n₀ w af (tiL F)) (hn₀ : n₀ ≤ w.heap.size) :
    Calls Tryd.prog 18 #[.agg #[.int .i64 n, .slice a n cap], .slice af (n * n) cf] w fun e w' => e = .returned (.tuple #[.slice none 0 0, .bool false]) ∧ Below w.heap.size w w' := by
  have h2 : n * n ≤ 256 := Nat.mul_le_mul hl hl
  have hsort := fun (W : World) (hW : IsWords n₀ W a us) (hs : n₀ ≤ W.heap.size) => OrderSorted_any a cap us n₀ hf (by omega) ho W hW hs
  rw [← hn] at hsort
  have hrows : ∀ y, y < n → y * n + n ≤ n * n := fun y hy => by
    have := Nat.mul_le_mul_right n (show y + 1 ≤ n from hy)
    rwa [Nat.succ_mul] at this
  have hz : (n : Int) * (n : Int) = ((n * n : Nat) : Int) := by push_cast; rfl
  have hmk := run_make_row' (P := Tryd.prog) 25 2 (.int .i64 0) 8 Tryd.underlying25 info_i64 rfl .i64 .i64 (n * n) (by omega) (by omega)
  simp only [← hz] at hmk
  have hwz : wrap64 ((n : Int) * (n : Int)) = (n : Int) * (n : Int) := by rw [hz, IntWalk.wrap64_in _ (by omega)]
  clear hz hn
  obtain ⟨W0, hW0⟩ : ∃ W0, w.alloc (.cells #[.int .i64 n, .slice a n cap] 24) = W0 := ⟨_, rfl⟩
  obtain ⟨r0, hb0, hs0⟩ := one_row w 24 (.int .i64 n) (.slice a n cap) hW0
  obtain ⟨W1, hW1⟩ : ∃ W1, W0.alloc (.cells (madeCells #[.int .i64 0] (n * n)) 2) = W1 := ⟨_, rfl⟩
  have hb1 : Below w.heap.size w W1 := by rw [← hW1]; exact hb0.alloc (by omega) _
  have q0 : Row W1 w.heap.size 24 [.int .i64 n, .slice a n cap] := by rw [← hW1]; exact r0.alloc _
  have hs1 := hb1.size
  have c0 := r0.cell (i := 0) rfl
  have c1 := r0.cell (i := 1) rfl
  have d0 := q0.cell (i := 0) rfl
  have d1 := q0.cell (i := 1) rfl
  go_enter Tryd.func18, Tryd.ntmps18
  go_wp2_with fail
  refine (hsort _ (hw.below (hb1.mono hn₀)) (by omega)).mono ?_
  rintro e w2 ⟨sv, sc, rfl, hb2, -⟩
  have hB2 := hb1.trans (hb2.mono hs1)
  have hF2 := hvF.below (hB2.mono hn₀)
  clear hsort hmk c0 c1 d0 d1 hwz hb2
  go_wp2_with fail
  clear hW0 hW1
  go_loopw [9] (fun i wr => ∃ k : Nat, k ≤ n ∧ i = .int .i64 k ∧ wr = w2 ∧ ∀ a, a < k → mat n F a a = 1 ∨ mat n F a a = -1) (fun i _ => n - (intOf i).toNat)
  case atStart => exact ⟨0, Nat.zero_le _, rfl, rfl, fun a ha => absurd ha (Nat.not_lt_zero _)⟩
  case round =>
    obtain ⟨k, hk, rfl, rfl, hK⟩ := hrel
    by_cases hlt : k < n
    · have hrk := hrows k hlt
      obtain ⟨fb, fo, rfl, hfb, hfc⟩ := hF2.cellsB (i := k * n + k) (by rw [hlF]; exact plc_lt hlt hlt)
      have kf := hfc (k * n + k) (by rw [hlF]; exact plc_lt hlt hlt)
      have e1 := pm_toInt (x := bd F (k * n + k))
      clear hfc
      by_cases h1 : bd F (k * n + k) = 1
      · have g1 : ((bd F (k * n + k)).toInt != 1) = false := by rw [h1]; rfl
        have HK := hide hK
        have H1 := hide (show mat n F k k = 1 from h1)
        clear hK h1 e1
        generalize (bd F (k * n + k)).toInt = x at *
        go_wp2_with fail
        go_roundw
        case rel => exact ⟨k + 1, by omega, by go_num, trivial, fun a ha => by
          by_cases e : a = k
          · subst e; exact .inl H1.out
          · exact HK.out a (by omega)⟩
        case measure => simp [intOf]; omega
      · by_cases h2' : bd F (k * n + k) = -1
        · have g1 : ((bd F (k * n + k)).toInt != 1) = true := by rw [h2']; rfl
          have g2 : ((bd F (k * n + k)).toInt != -1) = false := by rw [h2']; rfl
          have HK := hide hK
          have H1 := hide (show mat n F k k = -1 from h2')
          clear hK h1 h2' e1
          generalize (bd F (k * n + k)).toInt = x at *
          go_wp2_with fail
          go_roundw
          case rel => exact ⟨k + 1, by omega, by go_num, trivial, fun a ha => by
            by_cases e : a = k
            · subst e; exact .inr H1.out
            · exact HK.out a (by omega)⟩
          case measure => simp [intOf]; omega
        · have g1 : ((bd F (k * n + k)).toInt != 1) = true := by rw [bne_iff_ne]; exact fun h => h1 (e1.1.1 h)
          have g2 : ((bd F (k * n + k)).toInt != -1) = true := by rw [bne_iff_ne]; exact fun h => h2' (e1.2.1 h)
          clear hK h1 h2' e1
          generalize (bd F (k * n + k)).toInt = x at *
          go_wp2_with fail
          go_ret2
          exact ⟨rfl, hB2⟩
    · obtain rfl : k = n := by omega
      exact absurd hK hno
end Go.Proofs.YtilffmalkegioaaDoor

namespace Go.Proofs.YtilffmalkegioaaDoor
open Go.RowKit Go.Shelf

theorem below_grown {A B : World} (h : Below A.heap.size A B) (r : Option Nat) : A.grownBy B r := ⟨h.os, h.tape, h.output, h.size, fun k hk _ => h.block k hk⟩

set_option maxRecDepth 100000 in
set_option maxHeartbeats 8000000 in
theorem RInverse_ok (n : Nat) (a : Option Addr) (cap : Nat) (us : List Nat) (af : Option Addr) (cf : Nat) (F : List B64) (n₀ : Nat) (hn : n = us.length) (hf : Fit us) (ho : IsOrd us) (hl : n ≤ 16) (hF : IsTab us F) (hpm : PM n (mat n F)) (w : World) (hw : IsWords n₀ w a us) (hvF : ZInts n₀ w af (tiL F)) (hn₀ : n₀ ≤ w.heap.size) :
    Calls Tryd.prog 18 #[.agg #[.int .i64 n, .slice a n cap], .slice af (n * n) cf] w fun e w' => ∃ g, e = .returned (.tuple #[.slice (some ⟨g, 0, none⟩) (n * n) (n * n), .bool true]) ∧ w.heap.size ≤ g ∧ Below w.heap.size w w' ∧ Row w' g 2 (bvals (tabL n (invG (mat n F) (sortL us)))) := by
  have h2 : n * n ≤ 256 := Nat.mul_le_mul hl hl
  have hlF : F.length = n * n := by rw [hF.1, hn]
  have hL : Line us (sortL us) := line_ord ho
  have hlL : (sortL us).length = n := by rw [hL.len, hn]
  have hLn : ∀ x ∈ sortL us, x < n := fun x hx => by rw [hn]; exact (hL.mem x).1 hx
  have hsort := fun (W : World) (hW : IsWords n₀ W a us) (hs : n₀ ≤ W.heap.size) => OrderSorted_any a cap us n₀ hf (by omega) ho W hW hs
  have hbel := fun i (hi : i < n) j (hj : j < n) (W : World) (hW : IsWords n₀ W a us) (hs : n₀ ≤ W.heap.size) => Below_any n a cap us i j n₀ hf (by omega) (by omega) W hW hs
  have hund := fun i (hi : i < n) j (hj : j < n) (W : World) (hW : IsWords n₀ W a us) (hs : n₀ ≤ W.heap.size) => Under_any n a cap us i j n₀ hf (by omega) (by omega) W hW hs
  rw [← hn] at hsort hbel hund
  have hG : ∀ k, k < n → ∀ b, b < n → k ≠ b → -(sm n (ivAt us (mat n F) (invG (mat n F) (sortL us)) k b)) * mat n F b b = invG (mat n F) (sortL us) k b := by
    have hT2 : Tab us (mat us.length F) := hF.2
    subst hn
    exact fun k hk b hb hne => inv_leftH ho hL hT2 hpm.unit hk hb hne
  have hGd : ∀ k, k < n → invG (mat n F) (sortL us) k k = mat n F k k := by
    have hT2 : Tab us (mat us.length F) := hF.2
    subst hn
    exact fun k hk => inv_diag ho hL hT2 hk
  have hbef : ∀ m, m < n → ∀ x, x < n → underB us x (wd (sortL us) m) = true → x ∈ (sortL us).take m := fun m hm x hx h => line_before hL (by omega) (by omega) h
  have hnd := hL.nodup
  have hsl : sortF (underB us) n n = sortL us := by unfold sortL; rw [hn]
  rw [hsl] at hsort
  have hmem : ∀ b, b < n → b ∈ sortL us := fun b hb => (hL.mem b).2 (by omega)
  generalize sortL us = L at *
  have hrows : ∀ y, y < n → y * n + n ≤ n * n := fun y hy => by
    have := Nat.mul_le_mul_right n (show y + 1 ≤ n from hy)
    rwa [Nat.succ_mul] at this
  have hz : (n : Int) * (n : Int) = ((n * n : Nat) : Int) := by push_cast; rfl
  have hmk := run_make_row' (P := Tryd.prog) 25 2 (.int .i64 0) 8 Tryd.underlying25 info_i64 rfl .i64 .i64 (n * n) (by omega) (by omega)
  simp only [← hz] at hmk
  have hwz : wrap64 ((n : Int) * (n : Int)) = (n : Int) * (n : Int) := by rw [hz, IntWalk.wrap64_in _ (by omega)]
  clear hz hn hF hL hsl
  generalize hGM : invG (mat n F) L = G at *
  obtain ⟨W0, hW0⟩ : ∃ W0, w.alloc (.cells #[.int .i64 n, .slice a n cap] 24) = W0 := ⟨_, rfl⟩
  obtain ⟨r0, hb0, hs0⟩ := one_row w 24 (.int .i64 n) (.slice a n cap) hW0
  obtain ⟨W1, hW1⟩ : ∃ W1, W0.alloc (.cells (madeCells #[.int .i64 0] (n * n)) 2) = W1 := ⟨_, rfl⟩
  have hb1 : Below w.heap.size w W1 := by rw [← hW1]; exact hb0.alloc (by omega) _
  have q0 : Row W1 w.heap.size 24 [.int .i64 n, .slice a n cap] := by rw [← hW1]; exact r0.alloc _
  have p1 : Row W1 (w.heap.size + 1) 2 (bvals (List.replicate (n * n) 0)) := by
    have := Row.new W0 2 (bvals (List.replicate (n * n) 0))
    rw [← bvals_replicate, hW1, hs0] at this
    exact this
  have hs1 := hb1.size
  have lt1 := p1.lt
  have c0 := r0.cell (i := 0) rfl
  have c1 := r0.cell (i := 1) rfl
  have d0 := q0.cell (i := 0) rfl
  have d1 := q0.cell (i := 1) rfl
  go_enter Tryd.func18, Tryd.ntmps18
  go_wp2_with fail
  refine (hsort _ (hw.below (hb1.mono hn₀)) (by omega)).mono ?_
  rintro e w2 ⟨sv, sc, rfl, hb2, hown⟩
  have hB2 := hb1.trans (hb2.mono hs1)
  have hF2 := hvF.below (hB2.mono hn₀)
  have hLc : n = 0 ∨ ∃ lb lo, sv = some ⟨lb, lo, none⟩ ∧ lb ≠ w.heap.size + 1 ∧ ∀ j, j < n → w2.cell? ⟨lb, lo + j, none⟩ = some (.int .i64 (wd L j : Nat)) := by
    by_cases h0 : n = 0
    · exact .inl h0
    · obtain ⟨lb, lo, e1, e2, e3⟩ := (ownsRow_ints hown).at (i := 0) (by omega)
      subst e1
      refine .inr ⟨lb, lo, rfl, ?_, fun j hj => e3 j (by omega)⟩
      rcases hown.2 with ⟨_, h5⟩ | ⟨g, cp, cur, h5, h6, _⟩
      · omega
      · cases h5; omega
  have p2 := row_below p1 hb2 lt1
  have q2 := row_below q0 hb2 q0.lt
  clear hsort hmk c0 c1 d0 d1 hwz hb2 hown
  have e0 := q2.cell (i := 0) rfl
  have e1 := q2.cell (i := 1) rfl
  go_wp2_with fail
  clear hW0 hW1
  have hlt2 := p2.lt
  have hlq := q2.lt
  have hw2 := hw.below (hB2.mono hn₀)
  go_loopw [9] (fun i wr => ∃ k : Nat, k ≤ n ∧ i = .int .i64 k ∧ w2 = wr) (fun i _ => n - (intOf i).toNat)
  case atStart => exact ⟨0, Nat.zero_le _, rfl, rfl⟩
  case round =>
    obtain ⟨k, hk, rfl, rfl⟩ := hrel
    by_cases hlt : k < n
    · have hrk := hrows k hlt
      obtain ⟨fb, fo, rfl, hfb, hfc⟩ := hF2.cellsB (i := k * n + k) (by rw [hlF]; exact plc_lt hlt hlt)
      have kf := hfc (k * n + k) (by rw [hlF]; exact plc_lt hlt hlt)
      clear hfc e0 e1
      rcases hpm k hlt with h1 | h1
      · have h1' : bd F (k * n + k) = 1 := h1
        have g1 : ((bd F (k * n + k)).toInt != 1) = false := by rw [h1']; rfl
        clear h1 h1'
        generalize (bd F (k * n + k)).toInt = x at *
        go_wp2_with fail
        go_roundw
        case rel => exact ⟨k + 1, by omega, by go_num, trivial⟩
        case measure => simp [intOf]; omega
      · have h1' : bd F (k * n + k) = -1 := h1
        have g1 : ((bd F (k * n + k)).toInt != 1) = true := by rw [h1']; rfl
        have g2 : ((bd F (k * n + k)).toInt != -1) = false := by rw [h1']; rfl
        clear h1 h1'
        generalize (bd F (k * n + k)).toInt = x at *
        go_wp2_with fail
        go_roundw
        case rel => exact ⟨k + 1, by omega, by go_num, trivial⟩
        case measure => simp [intOf]; omega
    · obtain rfl : k = n := by omega
      clear e0 e1
      go_wp2_with fail
      generalize hq : w.heap.size + 1 = q at *
      -- the rows
      go_loopw [11] (fun i V => ∃ (k' : Nat) (P : List B64), k' ≤ k ∧ i = .int .i64 k' ∧ w2.grownBy V (some q) ∧ Row V q 2 (bvals P) ∧ P.length = k * k ∧ ∀ r, r < k → ∀ b, b < k → mat k P r b = if r < k' then G r b else 0) (fun i _ => k - (intOf i).toNat)
      case atStart => exact ⟨0, _, Nat.zero_le _, rfl, grownBy_refl _ _, p2, by simp, fun r _ b _ => bd_replicate _ _⟩
      case round =>
        obtain ⟨r, P, hr, rfl, hgV, rP, hlP, hP⟩ := hrel
        clear p2
        by_cases hrt : r < k
        · have hP2 : ∀ r', r' < k → ∀ b, b < k → mat k P r' b = if r' < r ∨ r' = r ∧ b ∈ L.take 0 then G r' b else 0 := fun r' h1 b h2 => by
            rw [hP r' h1 b h2]
            by_cases e : r' < r
            · rw [if_pos e, if_pos (.inl e)]
            · rw [if_neg e, if_neg (by simp; omega)]
          clear hP
          obtain ⟨lb, lo, rfl, hlbq, hlc⟩ := hLc.resolve_left (by omega)
          go_wp2_with fail
          go_loopw [50] (fun i V => ∃ (m : Nat) (P : List B64), m ≤ k ∧ i = .int .i64 m ∧ w2.grownBy V (some q) ∧ Row V q 2 (bvals P) ∧ P.length = k * k ∧ ∀ r', r' < k → ∀ b, b < k → mat k P r' b = if r' < r ∨ r' = r ∧ b ∈ L.take m then G r' b else 0) (fun i _ => k - (intOf i).toNat)
          case atStart => exact ⟨0, P, Nat.zero_le _, rfl, hgV, rP, hlP, hP2⟩
          case round =>
            clear hP2 hlP rP hgV
            obtain ⟨m, P, hm, rfl, hgV, rP, hlP, hP⟩ := hrel
            by_cases hmt : m < k
            · have hbk := hLn _ (wd_mem (show m < L.length by omega))
              have hcb := cell_grown hgV hlbq (hlc m hmt)
              have hbm := hbef m hmt
              have hnb : wd L m ∉ L.take m := fun h => by
                have h1 := hnd
                rw [← List.take_append_drop m L, drop_wd (by omega), List.nodup_append] at h1
                exact h1.2.2 _ h _ (by simp) rfl
              have htk : L.take (m + 1) = L.take m ++ [wd L m] := take_wd (by omega)
              generalize wd L m = b at *
              have hBV : Below w.heap.size w wr := hB2.trans (grown_below hgV (by omega) hB2.size)
              have q4 := q2.kept hgV (by simp; omega)
              have e0 := q4.cell (i := 0) rfl
              have e1 := q4.cell (i := 1) rfl
              have hFv := hvF.below (hBV.mono hn₀)
              have hprr := plc_lt hrt hrt
              have hprb := plc_lt hrt hbk
              have hpbb := plc_lt hbk hbk
              have hrr := hrows r hrt
              have hrb := hrows b hbk
              have ltP := rP.lt
              have hVs := hBV.size
              obtain ⟨fb, fo, rfl, hfb, hfc⟩ := hFv.cellsB (i := b * k + b) (by omega)
              have hfq : fb ≠ q := by omega
              by_cases hrbe : r = b
              · subst hrbe
                have kf := hfc (r * k + r) (by omega)
                have kc := rP.cell (bvals_at (i := r * k + r) (by omega))
                have kz := rP.frozen (r * k + r)
                have hset := rP.set (r * k + r) (.int .i64 (bd F (r * k + r)).toInt)
                rw [bvals_set] at hset
                have HP := hide hP
                have hgd := hide (hGd r hrt)
                have hgs : w2.grownBy (wr.setCell ⟨q, r * k + r, none⟩ (.int .i64 (bd F (r * k + r)).toInt)) (some q) := hgV.trans (grownBy_setCellAt _ _ _ _)
                clear hP hfc hlc hbm
                generalize hfx : (bd F (r * k + r)).toInt = fx at *
                go_wp2_with fail
                go_roundw
                case rel => exact ⟨m + 1, P.set (r * k + r) (bd F (r * k + r)), by omega, by go_num, hgs, hset, by rw [List.length_set, hlP], fun r' h1 b' h2 => by
                  unfold mat
                  rw [bd_set (by omega)]
                  have h3 := HP.out r' h1 b' h2
                  unfold mat at h3
                  by_cases e : r * k + r = r' * k + b'
                  · obtain ⟨e3, e4⟩ := plc_inj hrt h2 e
                    subst e3; subst e4
                    rw [if_pos rfl, if_pos (.inr ⟨rfl, by rw [htk]; simp⟩), hgd.out]; rfl
                  · rw [if_neg e, h3, htk]
                    have hne : ¬ (r' = r ∧ b' = r) := fun h => e (by rw [h.1, h.2])
                    by_cases e5 : r' < r ∨ r' = r ∧ b' ∈ L.take m
                    · rw [if_pos e5, if_pos (e5.imp id fun h => ⟨h.1, by simp [h.2]⟩)]
                    · rw [if_neg e5, if_neg (fun h => h.elim (fun h => e5 (.inl h)) fun h => by
                        have := h.2
                        simp only [List.mem_append, List.mem_singleton] at this
                        exact this.elim (fun t => e5 (.inr ⟨h.1, t⟩)) fun t => hne ⟨h.1, t⟩)]⟩
                case measure => simp [intOf]; omega
              · have hreq : ((r : Int) == (b : Int)) = false := by rw [beq_eq_false_iff_ne]; omega
                have hGb := hide (hG r hrt b hbk hrbe)
                clear hfc e0 e1 q4 hFv hfb hfq
                have e0 := (q2.kept hgV (by simp; omega)).cell (i := 0) rfl
                have HP := hide hP
                have HTK := hide htk
                clear hP htk
                have hread : ∀ x, x < k → underB us x b = true → bd P (r * k + x) = G r x := fun x hx hu => by
                  have h1 := HP.out r hrt x hx
                  rw [if_pos (.inr ⟨rfl, hbm x hx hu⟩)] at h1
                  exact h1
                clear hbm
                go_wp2_with fail
                clear e0 hBV hVs ltP hcb
                go_loopw [15, 14] (fun i s V => ∃ x : Nat, x ≤ k ∧ i = .int .i64 x ∧ s = .int .i64 (sm x (ivAt us (mat k F) G r b)).toInt ∧ w2.grownBy V (some q) ∧ Row V q 2 (bvals P)) (fun i _ _ => k - (intOf i).toNat)
                case atStart => exact ⟨0, Nat.zero_le _, rfl, rfl, hgV, rP⟩
                case round =>
                  clear hgV rP
                  obtain ⟨x, hx, rfl, rfl, hgV, rP⟩ := hrel
                  have hBV : Below w.heap.size w wr := hB2.trans (grown_below hgV (by omega) hB2.size)
                  have hVs := hBV.size
                  have ltP := rP.lt
                  have q4 := q2.kept hgV (by simp; omega)
                  have e0 := q4.cell (i := 0) rfl
                  have e1 := q4.cell (i := 1) rfl
                  by_cases hxt : x < k
                  · have hc1 := hbel r hrt x hxt wr (hw.below (hBV.mono hn₀)) (by omega)
                    have HX := hide (show sm (x + 1) (ivAt us (mat k F) G r b) = sm x (ivAt us (mat k F) G r b) + ivAt us (mat k F) G r b x from rfl)
                    have hT : ivAt us (mat k F) G r b x = if hasB (wd us r) x && underB us x b then G r x * bd F (x * k + b) else 0 := rfl
                    generalize sm x (ivAt us (mat k F) G r b) = S0 at *
                    generalize ivAt us (mat k F) G r b x = tv at *
                    have hrx := hrows x hxt
                    cases h1 : hasB (wd us r) x with
                    | false =>
                      rw [h1] at hT hc1
                      have hT := hide hT
                      clear h1 hread
                      go_wp2_with fail
                      refine hc1.mono ?_
                      rintro e w3 ⟨rfl, hb3⟩
                      clear e0 e1 q4
                      go_wp2_with fail
                      refine ⟨⟨x + 1, by omega, by go_num, ?_, hgV.trans (below_grown hb3 _), rP.keep hb3⟩, by simp [intOf]; omega⟩
                      rw [HX.out, hT.out]; simp
                    | true =>
                      have hc2 := fun W (hb : Below w.heap.size w W) => hund x hxt b hbk W (hw.below (hb.mono hn₀)) (by have := hb.size; omega)
                      cases h2' : underB us x b with
                      | false =>
                        rw [h1, h2'] at hT
                        rw [h1] at hc1
                        rw [h2'] at hc2
                        have hT := hide hT
                        clear h1 h2' hread
                        go_wp2_with fail
                        refine hc1.mono ?_
                        rintro e w3 ⟨rfl, hb3⟩
                        have hB3 := hBV.trans (hb3.mono hVs)
                        have q5 := row_below q4 hb3 q4.lt
                        clear e0 e1
                        have e0 := q5.cell (i := 0) rfl
                        have e1 := q5.cell (i := 1) rfl
                        go_wp2_with fail
                        refine (hc2 _ hB3).mono ?_
                        rintro e w4 ⟨rfl, hb4⟩
                        clear e0 e1 q4 q5 hc1 hc2
                        go_wp2_with fail
                        refine ⟨⟨x + 1, by omega, by go_num, ?_, (hgV.trans (below_grown hb3 _)).trans (below_grown hb4 _), (rP.keep hb3).keep hb4⟩, by simp [intOf]; omega⟩
                        rw [HX.out, hT.out]; simp
                      | true =>
                        have hrd := hread x hxt h2'
                        rw [h1, h2'] at hT
                        rw [h1] at hc1
                        rw [h2'] at hc2
                        have hT : tv = G r x * bd F (x * k + b) := hT
                        have hprx := plc_lt hrt hxt
                        have hpxb := plc_lt hxt hbk
                        have kp := rP.cell (bvals_at (i := r * k + x) (by omega))
                        rw [hrd] at kp
                        obtain ⟨fb2, fo2, efb, hfb, hfc⟩ := (hvF.below (hBV.mono hn₀)).cellsB (i := x * k + b) (by omega)
                        cases efb
                        have kf := hfc (x * k + b) (by omega)
                        have hmul := wrap_mul (G r x) (bd F (x * k + b))
                        have hadd := wrap_add S0 tv
                        rw [← hT] at hmul
                        generalize S0 + tv = s1 at *
                        generalize tv.toInt = tvi at *
                        generalize (G r x).toInt = gv at *
                        generalize (bd F (x * k + b)).toInt = fv at *
                        clear h1 h2' hfc hT hread hrd
                        go_wp2_with fail
                        refine hc1.mono ?_
                        rintro e w3 ⟨rfl, hb3⟩
                        have hB3 := hBV.trans (hb3.mono hVs)
                        have q5 := row_below q4 hb3 q4.lt
                        clear e0 e1
                        have e0 := q5.cell (i := 0) rfl
                        have e1 := q5.cell (i := 1) rfl
                        go_wp2_with fail
                        refine (hc2 _ hB3).mono ?_
                        rintro e w4 ⟨rfl, hb4⟩
                        have hB4 := hB3.trans (hb4.mono hB3.size)
                        have rP4 := (rP.keep hb3).keep hb4
                        have hg4 := (hgV.trans (below_grown hb3 _)).trans (below_grown hb4 (some q))
                        have q6 := row_below q5 hb4 q5.lt
                        clear e0 e1 hc1 hc2
                        have kp := cell_keep hb4 (cell_keep hb3 kp)
                        have kf := cell_keep hb4 (cell_keep hb3 kf)
                        have kp := cell_regrown kp
                        have kf := cell_regrown kf
                        clear q4 q5 q6 rP hgV hb3 hb4
                        go_wp2_with fail
                        refine wp_region_quiet_below (by kernel_rfl) (by kernel_rfl) ?_
                        repeat (go_big_quiet_step (fail))
                        refine wpQuiet_nil ?_
                        intro _ hw'
                        obtain ⟨⟨dq, osq⟩, hw''⟩ := hw'
                        subst hw''
                        go_wp2_with fail
                        refine ⟨⟨x + 1, by omega, by go_num, by rw [HX.out, hadd], hg4.trans (below_grown (below_regrown _ dq osq) _), rP4.keep (below_regrown _ dq osq)⟩, by simp [intOf]; omega⟩
                  · obtain rfl : x = k := by omega
                    obtain ⟨fb2, fo2, efb, hfb, hfc⟩ := (hvF.below (hBV.mono hn₀)).cellsB (i := b * x + b) (by omega)
                    cases efb
                    have kf := hfc (b * x + b) (by omega)
                    have kc := rP.cell (bvals_at (i := r * x + b) (by omega))
                    have kz := rP.frozen (r * x + b)
                    have hset := rP.set (r * x + b) (.int .i64 (G r b).toInt)
                    rw [bvals_set] at hset
                    have hgs : w2.grownBy (wr.setCell ⟨q, r * x + b, none⟩ (.int .i64 (G r b).toInt)) (some q) := hgV.trans (grownBy_setCellAt _ _ _ _)
                    have hGE : -(sm x (ivAt us (mat x F) G r b)) * bd F (b * x + b) = G r b := hGb.out
                    have hneg := wrap_neg (sm x (ivAt us (mat x F) G r b))
                    have hmul := wrap_mul (-(sm x (ivAt us (mat x F) G r b))) (bd F (b * x + b))
                    rw [hGE] at hmul
                    generalize sm x (ivAt us (mat x F) G r b) = S0 at *
                    generalize hns : -S0 = ns at *
                    generalize hgg : G r b = gg at *
                    clear hGE hfc hread hns
                    generalize (bd F (b * x + b)).toInt = fv at *
                    go_wp2_with fail
                    refine ⟨⟨m + 1, P.set (r * x + b) gg, by omega, by go_num, hgs, hset, by rw [List.length_set, hlP], fun r' h1 b' h2 => ?_⟩, by simp [intOf]; omega⟩
                    unfold mat
                    rw [bd_set (by omega)]
                    have h3 := HP.out r' h1 b' h2
                    unfold mat at h3
                    by_cases e : r * x + b = r' * x + b'
                    · obtain ⟨e3, e4⟩ := plc_inj hbk h2 e
                      subst e3; subst e4
                      rw [if_pos rfl, if_pos (.inr ⟨rfl, by rw [HTK.out]; simp⟩), hgg]
                    · rw [if_neg e, h3, HTK.out]
                      have hne : ¬ (r' = r ∧ b' = b) := fun h => e (by rw [h.1, h.2])
                      by_cases e5 : r' < r ∨ r' = r ∧ b' ∈ L.take m
                      · rw [if_pos e5, if_pos (e5.imp id fun h => ⟨h.1, by simp [h.2]⟩)]
                      · rw [if_neg e5, if_neg (fun h => h.elim (fun h => e5 (.inl h)) fun h => by
                          have := h.2
                          simp only [List.mem_append, List.mem_singleton] at this
                          exact this.elim (fun t => e5 (.inr ⟨h.1, t⟩)) fun t => hne ⟨h.1, t⟩)]
            · obtain rfl : m = k := by omega
              have hfin : ∀ r', r' < m → ∀ b, b < m → mat m P r' b = if r' < r + 1 then G r' b else 0 := fun r' h1 b h2 => by
                rw [hP r' h1 b h2, List.take_of_length_le (by omega)]
                by_cases e : r' < r + 1
                · rw [if_pos e]
                  by_cases e2 : r' < r
                  · rw [if_pos (.inl e2)]
                  · rw [if_pos (.inr ⟨by omega, hmem b h2⟩)]
                · rw [if_neg e, if_neg (fun h => h.elim (fun t => e (by omega)) fun t => e (by omega))]
              clear hP
              go_wp2_with fail
              refine ⟨⟨r + 1, P, by omega, by go_num, hgV, rP, hlP, hfin⟩, by simp [intOf]; omega⟩
        · obtain rfl : r = k := by omega
          have e : P = tabL r G := mat_ext hlP (tabL_len _ _) fun a ha b hb => by
            rw [hP a ha b hb, mat_tabL _ a ha b hb, if_pos ha]
          subst e
          clear hP hlP
          go_wp2_with fail
          go_ret2
          exact ⟨q, rfl, by omega, hB2.trans (grown_below hgV (by omega) hB2.size), rP⟩
end Go.Proofs.YtilffmalkegioaaDoor

namespace Go.Proofs.YtilffmalkegioaaDoor
open Go.RowKit Go.Shelf

structure UndoSt (w : World) (n : Nat) (a : Option Addr) (cap : Nat) (V : World) : Prop where
  bel : Below w.heap.size w V
  r0 : Row V w.heap.size 24 [.int .i64 n, .slice a n cap]
theorem UndoSt.drew {w : World} {n : Nat} {a : Option Addr} {cap : Nat} {V : World} (h : UndoSt w n a cap V) : UndoSt w n a cap V.drew := ⟨h.bel.drew, h.r0⟩
theorem UndoSt.keep {w : World} {n : Nat} {a : Option Addr} {cap : Nat} {A V : World} (hb : Below A.heap.size A V) (h : UndoSt w n a cap A) : UndoSt w n a cap V := ⟨h.bel.trans (hb.mono h.bel.size), h.r0.keep hb⟩
theorem UndoSt.all {w : World} {n : Nat} {a : Option Addr} {cap : Nat} {V : World} (h : UndoSt w n a cap V) : V.cell? ⟨w.heap.size, 0, none⟩ = some (.int .i64 n) ∧ V.cell? ⟨w.heap.size, 1, none⟩ = some (.slice a n cap) ∧ UndoSt w n a cap V := ⟨h.r0.cell (i := 0) rfl, h.r0.cell (i := 1) rfl, h⟩

set_option maxRecDepth 100000 in
set_option maxHeartbeats 8000000 in
theorem RUndo_any (n : Nat) (a : Option Addr) (cap : Nat) (us : List Nat) (af : Option Addr) (cf : Nat) (v : Nat → B64) (n₀ : Nat) (hn : n = us.length) (hf : Fit us) (ho : IsOrd us) (hl : n ≤ 16) (w : World) (hw : IsWords n₀ w a us) (hv : VecAt w af n v) (hn₀ : n₀ ≤ w.heap.size) :
    Calls Tryd.prog 27 #[.agg #[.int .i64 n, .slice a n cap], .slice af n cf] w fun e w' => ∃ av cv, e = .returned (.slice av n cv) ∧ Below w.heap.size w w' ∧ w'.ownsRow w.heap.size 2 1 (.slice av n cv) n (bvals (vecL n (vm n v (muM us)))) := by
  have hnn : n * n ≤ 256 := Nat.mul_le_mul hl hl
  obtain ⟨i0, hi, hz0, hz1, hz2⟩ := info_parts info_i64
  obtain ⟨i1, p1, e1⟩ : IsTab us (tabL n (zet us)) ∧ PM n (mat n (tabL n (zet us))) ∧ tabL n (invG (mat n (tabL n (zet us))) (sortL us)) = tabL n (muM us) := by
    subst hn
    refine ⟨⟨tabL_len _ _, fun x hx y hy hno => by rw [mat_tabL _ x hx y hy]; exact zet_no hno⟩, fun x hx => .inl ?_, mu_tab ho⟩
    rw [mat_tabL _ x hx x hx]
    exact zet_one (leW_refl ho hx)
  have k4 := fun W (h : UndoSt w n a cap W) => RZeta_any n a cap us n₀ hn hf hl W (hw.below (h.bel.mono hn₀)) (by have := h.bel.size; omega)
  have k5 := fun av cv W (h : UndoSt w n a cap W) z => RInverse_ok n a cap us av cv (tabL n (zet us)) W.heap.size hn hf ho hl i1 p1 W ((hw.below (h.bel.mono hn₀)).mono (by have := h.bel.size; omega)) z (Nat.le_refl _)
  rw [e1] at k5
  have hrows : ∀ y, y < n → y * n + n ≤ n * n := fun y hy => by
    have := Nat.mul_le_mul_right n (show y + 1 ≤ n from hy)
    rwa [Nat.succ_mul] at this
  have hfull : vecL n (vm n v (muM us)) = vecL n (vm n v (mat n (tabL n (muM us)))) := vecL_is (vecL_len _ _) fun i hi => by rw [bd_vecL _ hi]; exact (vm_congr (fun _ _ => rfl) (mat_tabL _) hi).symm
  rw [hfull]
  have hlm := tabL_len n (muM us)
  generalize tabL n (muM us) = Q at *
  generalize tabL n (zet us) = Z at *
  clear hn hfull i1 p1 e1 ho hf
  obtain ⟨W0, hW0⟩ : ∃ W0, w.alloc (.cells #[.int .i64 n, .slice a n cap] 24) = W0 := ⟨_, rfl⟩
  obtain ⟨r0, hb0, hs0⟩ := one_row w 24 (.int .i64 n) (.slice a n cap) hW0
  have hst : UndoSt w n a cap W0 := ⟨hb0, r0⟩
  go_enter Tryd.func27, Tryd.ntmps27
  go_wp2_with fail
  go_region_held3 (fun V => V.cell? ⟨w.heap.size, 0, none⟩ = some (.int .i64 n) ∧ V.cell? ⟨w.heap.size, 1, none⟩ = some (.slice a n cap) ∧ UndoSt w n a cap V) ((go_split_ands; first | exact UndoSt.all hst | exact UndoSt.all hst.drew | exact UndoSt.all (by assumption) | exact UndoSt.all (UndoSt.keep hb (by assumption)) | exact UndoSt.all (UndoSt.keep hb2 (by assumption)) | fail))
    (first
      | (go_at_call 17; go_split_ands; with_reducible refine (k4 _ (by assumption)).mono ?_; rintro e w' ⟨za, zc, rfl, hb, hown⟩)
      | (go_at_call 18; go_split_ands; with_reducible refine (k5 _ _ _ (by assumption) (ownsRow_b hown)).mono ?_; rintro e w' ⟨g, rfl, hg, hb2, hr2⟩))
  go_split_ands
  have hT := ‹UndoSt w n a cap w'›
  have z6 := hr2.b hr2.lt
  have hgw : w.heap.size < w'.heap.size := by have := hT.r0.lt; exact this
  have hvv := hv.below hT.bel
  have r6 := hT.r0
  have hB6 := hT.bel
  clear k4 k5 hst hb hb2 hown hr2 hg hT hW0 hv hw r0 hb0 hs0
  go_wp2_with fail
  go_loopw [8, 7] (fun i ls wr => ∃ (m : Nat) (av : Option Addr) (cv : Nat), m ≤ n ∧ i = .int .i64 m ∧ ls = .slice av m cv ∧ Below w'.heap.size w' wr ∧ wr.ownsRow w'.heap.size 2 1 (.slice av m cv) m (bvals (vecL m (vm n v (mat n Q))))) (fun i _ _ => n - (intOf i).toNat)
  case atStart => exact ⟨0, none, 0, Nat.zero_le _, rfl, rfl, Below.refl _ _, World.ownsRow_nil ..⟩
  case round =>
    obtain ⟨m, av, cv, hm, rfl, rfl, hB, hown⟩ := hrel
    have q0 := row_below r6 hB r6.lt
    have c0 := q0.cell (i := 0) rfl
    by_cases hmt : m < n
    · have HS := hide (vecL_snoc (vm n v (mat n Q)) m)
      have hvm : vm n v (mat n Q) m = sm n (fun x => v x * mat n Q x m) := rfl
      rw [hvm] at HS
      generalize vecL m (vm n v (mat n Q)) = L0 at *
      go_wp2_with fail
      clear c0 hvm
      go_loopw [10, 9] (fun i s wr => ∃ (x : Nat), x ≤ n ∧ i = .int .i64 x ∧ s = .int .i64 (sm x (fun x => v x * mat n Q x m)).toInt ∧ Below w'.heap.size w' wr ∧ wr.ownsRow w'.heap.size 2 1 (.slice av m cv) m (bvals L0)) (fun i _ _ => n - (intOf i).toNat)
      case atStart => exact ⟨0, Nat.zero_le _, rfl, rfl, hB, hown⟩
      case round =>
        clear hB hown q0
        obtain ⟨x, hx, rfl, rfl, hB, hown⟩ := hrel
        have hBs := hB.size
        have q0 := row_below r6 hB r6.lt
        have c0 := q0.cell (i := 0) rfl
        by_cases hxt : x < n
        · obtain ⟨fb, fo, rfl, hfb, hfc⟩ := (hvv.below hB).resolve_left (by omega)
          obtain ⟨gb, go, e2, hgb, hgc⟩ := (z6.below hB).cellsB (i := x * n + m) (by rw [hlm]; exact plc_lt hxt hmt)
          cases e2
          have kg := hgc (x * n + m) (by rw [hlm]; exact plc_lt hxt hmt)
          rw [Nat.zero_add] at kg
          have kf := cell_regrown (hfc x hxt)
          have kg := cell_regrown kg
          have kc := cell_regrown c0
          have hrx := hrows x hxt
          have hpx := plc_lt hxt hmt
          have HX := hide (show sm (x + 1) (fun x => v x * mat n Q x m) = sm x (fun x => v x * mat n Q x m) + v x * bd Q (x * n + m) from rfl)
          have hmul := wrap_mul (v x) (bd Q (x * n + m))
          have hadd := wrap_add (sm x (fun x => v x * mat n Q x m)) (v x * bd Q (x * n + m))
          generalize sm x (fun x => v x * mat n Q x m) = S0 at *
          generalize v x * bd Q (x * n + m) = tv at *
          generalize hs1 : S0 + tv = s1 at *
          generalize tv.toInt = tvi at *
          generalize (v x).toInt = fv at *
          generalize (bd Q (x * n + m)).toInt = gv at *
          clear hfc hgc hvv z6 hs1
          go_wp2_with fail
          refine wp_region_quiet_below (by kernel_rfl) (by kernel_rfl) ?_
          repeat (go_big_quiet_step (fail))
          refine wpQuiet_nil ?_
          intro _ hw'
          obtain ⟨⟨dq, osq⟩, hw''⟩ := hw'
          subst hw''
          go_wp2_with fail
          refine ⟨⟨x + 1, by omega, by go_num, by rw [HX.out, hadd], hB.trans ((below_regrown _ dq osq).mono hBs), ownsRow_below hown (below_regrown _ dq osq)⟩, by simp [intOf]; omega⟩
        · obtain rfl : x = n := by omega
          generalize sm x (fun x' => v x' * mat x Q x' m) = S0 at *
          go_wp2_with (at_builtin; refine wpList_append_own _ rfl _ _ 25 rfl w'.heap.size 2 i0 (.int .i64 0) 1 8 Tryd.underlying25 hi hz0 hz1 hz2 rfl (by decide) _ _ _ rfl (hown.alloc _) ⟨wr.heap.size, 0, none⟩ 1 1 [.int .i64 S0.toInt] rfl rfl (cell_one_new _ _ _) (fun u hu => by simp at hu; subst hu; rfl) (by unfold maxLen; omega) (by omega) (by simp; omega) ?_; intro v' w3 hown3 hgrow3 _; obtain ⟨g', cap', rfl⟩ := ownsRow_succ hown3)
          have hB3 : Below w'.heap.size w' w3 := (hB.alloc hBs (.cells #[.int .i64 S0.toInt] 2)).grown hgrow3 (by simp; omega) fun q eq => by
            apply Nat.le_of_not_lt; intro hql
            exact ownBlock_ge hown (b := q) hql eq.symm
          refine ⟨⟨m + 1, some ⟨g', 0, none⟩, cap', by omega, by go_num, rfl, hB3, ?_⟩, by simp [intOf]; omega⟩
          rw [HS.out, bvals_snoc]
          exact hown3
    · obtain rfl : m = n := by omega
      go_wp2
      go_ret
      exact ⟨av, cv, rfl, hB6.trans (hB.mono (by omega)), ownsRow_base hown (by omega)⟩
end Go.Proofs.YtilffmalkegioaaDoor

namespace Go.Proofs.YtilffmalkegioaaDoor
open Go.RowKit Go.Shelf

/-- what is added at x -/
def smAt (us : List Nat) (v : Nat → B64) (b x : Nat) : B64 := if hasB (wd us x) b then v x else 0
theorem sm_zet {us : List Nat} (v : Nat → B64) (n b : Nat) : sm n (smAt us v b) = vm n v (zet us) b := sm_congr fun x _ => by
  unfold smAt zet
  cases hasB (wd us x) b <;> simp

set_option maxRecDepth 100000 in
set_option maxHeartbeats 8000000 in
theorem RSums_any (n : Nat) (a : Option Addr) (cap : Nat) (us : List Nat) (af : Option Addr) (cf : Nat) (v : Nat → B64) (n₀ : Nat) (hn : n = us.length) (hf : Fit us) (hl : n ≤ 16) (w : World) (hw : IsWords n₀ w a us) (hv : VecAt w af n v) (hn₀ : n₀ ≤ w.heap.size) :
    Calls Tryd.prog 26 #[.agg #[.int .i64 n, .slice a n cap], .slice af n cf] w fun e w' => ∃ av cv, e = .returned (.slice av n cv) ∧ Below w.heap.size w w' ∧ w'.ownsRow w.heap.size 2 1 (.slice av n cv) n (bvals (vecL n (vm n v (zet us)))) := by
  obtain ⟨i0, hi, hz0, hz1, hz2⟩ := info_parts info_i64
  have hbel := fun i (hi : i < n) j (hj : j < n) (W : World) (hW : IsWords n₀ W a us) (hs : n₀ ≤ W.heap.size) => Below_any n a cap us i j n₀ hf (by omega) (by omega) W hW hs
  rw [← hn] at hbel
  have hfull : vecL n (vm n v (zet us)) = vecL n (fun b => sm n (smAt us v b)) := vecL_is (vecL_len _ _) fun i hi => by rw [bd_vecL _ hi, sm_zet]
  rw [hfull]
  clear hn hfull
  go_enter Tryd.func26, Tryd.ntmps26
  go_wp2_with fail
  obtain ⟨W0, hW0⟩ : ∃ W0, w.alloc (.cells #[.int .i64 n, .slice a n cap] 24) = W0 := ⟨_, rfl⟩
  obtain ⟨r0, hb0, hs0⟩ := one_row w 24 (.int .i64 n) (.slice a n cap) hW0
  rw [hW0]
  have hw0 := hw.below (hb0.mono hn₀)
  have hv0 := hv.below hb0
  have hn1 : n₀ ≤ W0.heap.size := by omega
  clear hW0 hw hv
  go_loopw [6, 5] (fun i ls wr => ∃ (m : Nat) (av : Option Addr) (cv : Nat), m ≤ n ∧ i = .int .i64 m ∧ ls = .slice av m cv ∧ Below W0.heap.size W0 wr ∧ wr.ownsRow W0.heap.size 2 1 (.slice av m cv) m (bvals (vecL m (fun b => sm n (smAt us v b))))) (fun i _ _ => n - (intOf i).toNat)
  case atStart => exact ⟨0, none, 0, Nat.zero_le _, rfl, rfl, Below.refl _ _, World.ownsRow_nil ..⟩
  case round =>
    obtain ⟨m, av, cv, hm, rfl, rfl, hB, hown⟩ := hrel
    have q0 := row_below r0 hB r0.lt
    have c0 := q0.cell (i := 0) rfl
    have c1 := q0.cell (i := 1) rfl
    by_cases hmt : m < n
    · have HS := hide (vecL_snoc (fun b => sm n (smAt us v b)) m)
      generalize vecL m (fun b => sm n (smAt us v b)) = L0 at *
      go_wp2_with fail
      clear c0 c1
      go_loopw [8, 7] (fun i s wr => ∃ (x : Nat), x ≤ n ∧ i = .int .i64 x ∧ s = .int .i64 (sm x (smAt us v m)).toInt ∧ Below W0.heap.size W0 wr ∧ wr.ownsRow W0.heap.size 2 1 (.slice av m cv) m (bvals L0)) (fun i _ _ => n - (intOf i).toNat)
      case atStart => exact ⟨0, Nat.zero_le _, rfl, rfl, hB, hown⟩
      case round =>
        clear hB hown q0
        obtain ⟨x, hx, rfl, rfl, hB, hown⟩ := hrel
        have hBs := hB.size
        have q0 := row_below r0 hB r0.lt
        have c0 := q0.cell (i := 0) rfl
        have c1 := q0.cell (i := 1) rfl
        by_cases hxt : x < n
        · have hc1 := hbel x hxt m hmt wr (hw0.below (hB.mono hn1)) (by omega)
          obtain ⟨fb, fo, rfl, hfb, hfc⟩ := hv0.resolve_left (by omega)
          have kf := (hB.cell (p := ⟨fb, fo + x, none⟩) hfb).trans (hfc x hxt)
          have HX := hide (show sm (x + 1) (smAt us v m) = sm x (smAt us v m) + smAt us v m x from rfl)
          have hT : smAt us v m x = if hasB (wd us x) m then v x else 0 := rfl
          have hadd := wrap_add (sm x (smAt us v m)) (v x)
          generalize sm x (smAt us v m) = S0 at *
          generalize smAt us v m x = tv at *
          generalize hs1 : S0 + v x = s1 at *
          generalize (v x).toInt = vi at *
          cases h1 : hasB (wd us x) m with
          | false =>
            rw [h1] at hT hc1
            have hT := hide hT
            clear h1 hfc hv0
            go_wp2_with fail
            refine hc1.mono ?_
            rintro e w2 ⟨rfl, hb2⟩
            clear c0 c1 q0
            go_wp2_with fail
            refine ⟨⟨x + 1, by omega, by go_num, ?_, hB.trans (hb2.mono hBs), ownsRow_below hown hb2⟩, by simp [intOf]; omega⟩
            rw [HX.out, hT.out]; simp
          | true =>
            rw [h1] at hT hc1
            have hT := hide hT
            clear h1 hfc hv0
            go_wp2_with fail
            refine hc1.mono ?_
            rintro e w2 ⟨rfl, hb2⟩
            have kf := cell_keep hb2 (show wr.cell? ⟨fb, fo + x, none⟩ = _ from kf)
            clear c0 c1 q0
            go_wp2_with fail
            refine ⟨⟨x + 1, by omega, by go_num, ?_, hB.trans (hb2.mono hBs), ownsRow_below hown hb2⟩, by simp [intOf]; omega⟩
            have e1 : tv = v x := hT.out
            rw [HX.out, e1, hs1, hadd]
        · obtain rfl : x = n := by omega
          generalize sm x (smAt us v m) = S0 at *
          go_wp2_with (at_builtin; refine wpList_append_own _ rfl _ _ 25 rfl W0.heap.size 2 i0 (.int .i64 0) 1 8 Tryd.underlying25 hi hz0 hz1 hz2 rfl (by decide) _ _ _ rfl (hown.alloc _) ⟨wr.heap.size, 0, none⟩ 1 1 [.int .i64 S0.toInt] rfl rfl (cell_one_new _ _ _) (fun u hu => by simp at hu; subst hu; rfl) (by unfold maxLen; omega) (by omega) (by simp; omega) ?_; intro v' w3 hown3 hgrow3 _; obtain ⟨g', cap', rfl⟩ := ownsRow_succ hown3)
          have hB3 : Below W0.heap.size W0 w3 := (hB.alloc hBs (.cells #[.int .i64 S0.toInt] 2)).grown hgrow3 (by simp; omega) fun q eq => by
            apply Nat.le_of_not_lt; intro hql
            exact ownBlock_ge hown (b := q) hql eq.symm
          refine ⟨⟨m + 1, some ⟨g', 0, none⟩, cap', by omega, by go_num, rfl, hB3, ?_⟩, by simp [intOf]; omega⟩
          rw [HS.out, bvals_snoc]
          exact hown3
    · obtain rfl : m = n := by omega
      go_wp2
      go_ret
      exact ⟨av, cv, rfl, hb0.trans (hB.mono (by omega)), ownsRow_base hown (by omega)⟩
end Go.Proofs.YtilffmalkegioaaDoor

namespace Go.Proofs.YtilffmalkegioaaDoor
open Go.RowKit Go.Shelf

theorem ZInts.step {A B : World} {a : Option Addr} {l : List Int} (h : ZInts A.heap.size A a l) (hb : Below A.heap.size A B) : ZInts B.heap.size B a l := (h.below hb).mono hb.size
set_option maxRecDepth 100000 in
set_option maxHeartbeats 4000000 in
theorem msums_bad (n : Int) (a : Option Addr) (cap : Nat) (us : List Nat) (a1 : Option Addr) (c1_ : Nat) (l1 : List B64) (n₀ : Nat) (hf : Fit us) (w : World) (hT : TabAt w) (hw : IsWords n₀ w a us) (z1 : ZInts n₀ w a1 (tiL l1)) (hg : 0 < n₀) (hn₀ : n₀ ≤ w.heap.size) (hc : codeOf n us ≠ 0) :
    Calls Tryd.prog 6 #[.agg #[.int .i64 n, .slice a us.length cap], .slice a1 l1.length c1_] w fun e w' => e = .returned (.bool true) ∧ Below w.heap.size w w' := by
  have e1 : (codeOf n us == 0) = false := by rw [beq_eq_false_iff_ne]; exact hc
  have e2 : (codeOf n us != 0) = true := by rw [bne_iff_ne]; exact hc
  have k1 := fun W hT hw hg => Sums_bad n a cap us (.slice a1 l1.length c1_) W.heap.size hf W hT hw hg (Nat.le_refl _) hc
  have k2 := fun W hT hw hg => Undo_bad n a cap us (.slice a1 l1.length c1_) W.heap.size hf W hT hw hg (Nat.le_refl _) hc
  have k3 := fun W hw => OrderCheck_any n a cap us W.heap.size hf W hw (Nat.le_refl _)
  unfold mobErr at k1 k2
  generalize codeOf n us = c at *
  clear hc
  obtain ⟨W0, hW0⟩ : ∃ V, w.alloc (.cells #[.int .i64 n, .slice a us.length cap] 24) = V := ⟨_, rfl⟩
  obtain ⟨r0, hB, hs0⟩ := one_row w 24 (.int .i64 n) (.slice a us.length cap) hW0
  replace hw := (hw.below (hB.mono hn₀)).mono (show n₀ ≤ W0.heap.size by omega)
  replace z1 := (z1.below (hB.mono hn₀)).mono (show n₀ ≤ W0.heap.size by omega)
  replace hT := hT.below hB (by omega)
  replace hg : 0 < W0.heap.size := by omega
  clear hs0 hn₀
  have c0 := r0.cell (i := 0) rfl
  have c1 := r0.cell (i := 1) rfl
  go_enter Tryd.func6, Tryd.ntmps6
  go_wp2_with fail
  clear hW0
  refine (k1 _ hT hw hg).mono ?_
  rintro e w1 ⟨rfl, hb⟩
  clear c0 c1
  replace r0 := row_below r0 hb r0.lt
  replace hw := (hw.below hb).mono hb.size
  replace z1 := z1.step hb
  replace hT := hT.below hb hg
  replace hg := Nat.lt_of_lt_of_le hg hb.size
  replace hB := hB.trans (hb.mono hB.size)
  have c0 := r0.cell (i := 0) rfl
  have c1 := r0.cell (i := 1) rfl
  clear hb
  go_wp2_with fail
  refine (k2 _ hT hw hg).mono ?_
  rintro e w2 ⟨rfl, hb⟩
  clear c0 c1
  replace r0 := row_below r0 hb r0.lt
  replace hw := (hw.below hb).mono hb.size
  replace z1 := z1.step hb
  replace hT := hT.below hb hg
  replace hg := Nat.lt_of_lt_of_le hg hb.size
  replace hB := hB.trans (hb.mono hB.size)
  have c0 := r0.cell (i := 0) rfl
  have c1 := r0.cell (i := 1) rfl
  clear hb
  go_wp2_with fail
  refine (k3 _ hw).mono ?_
  rintro e w3 ⟨rfl, hb⟩
  clear c0 c1
  replace r0 := row_below r0 hb r0.lt
  replace hw := (hw.below hb).mono hb.size
  replace z1 := z1.step hb
  replace hT := hT.below hb hg
  replace hg := Nat.lt_of_lt_of_le hg hb.size
  replace hB := hB.trans (hb.mono hB.size)
  have c0 := r0.cell (i := 0) rfl
  have c1 := r0.cell (i := 1) rfl
  clear hb
  go_wp2_with fail
  go_ret
  exact ⟨rfl, hB⟩

set_option maxRecDepth 100000 in
set_option maxHeartbeats 4000000 in
theorem msums_len (n : Nat) (a : Option Addr) (cap : Nat) (us : List Nat) (a1 : Option Addr) (c1_ : Nat) (l1 : List B64) (n₀ : Nat) (hn : n = us.length) (hf : Fit us) (w : World) (hT : TabAt w) (hw : IsWords n₀ w a us) (z1 : ZInts n₀ w a1 (tiL l1)) (hg : 0 < n₀) (hn₀ : n₀ ≤ w.heap.size) (hc : codeOf n us = 0) (hm : l1.length ≠ n) :
    Calls Tryd.prog 6 #[.agg #[.int .i64 n, .slice a n cap], .slice a1 l1.length c1_] w fun e w' => e = .returned (.bool true) ∧ Below w.heap.size w w' := by
  have k1 := fun W hT hw hg => Sums_len n a cap us a1 c1_ l1.length W.heap.size hn hf W hT hw hg (Nat.le_refl _) hc hm
  have k2 := fun W hT hw hg => Undo_len n a cap us a1 c1_ l1.length W.heap.size hn hf W hT hw hg (Nat.le_refl _) hc hm
  have k3 := fun W hw => OrderCheck_any n a cap us W.heap.size hf W hw (Nat.le_refl _)
  have g1 : ((l1.length : Int) != (n : Int)) = true := by rw [bne_iff_ne]; omega
  unfold mobErr at k1 k2
  rw [hc, ← hn] at k3
  clear hc hn hm
  obtain ⟨W0, hW0⟩ : ∃ V, w.alloc (.cells #[.int .i64 n, .slice a n cap] 24) = V := ⟨_, rfl⟩
  obtain ⟨r0, hB, hs0⟩ := one_row w 24 (.int .i64 n) (.slice a n cap) hW0
  replace hw := (hw.below (hB.mono hn₀)).mono (show n₀ ≤ W0.heap.size by omega)
  replace z1 := (z1.below (hB.mono hn₀)).mono (show n₀ ≤ W0.heap.size by omega)
  replace hT := hT.below hB (by omega)
  replace hg : 0 < W0.heap.size := by omega
  clear hs0 hn₀
  have c0 := r0.cell (i := 0) rfl
  have c1 := r0.cell (i := 1) rfl
  go_enter Tryd.func6, Tryd.ntmps6
  go_wp2_with fail
  clear hW0
  refine (k1 _ hT hw hg).mono ?_
  rintro e w1 ⟨rfl, hb⟩
  clear c0 c1
  replace r0 := row_below r0 hb r0.lt
  replace hw := (hw.below hb).mono hb.size
  replace z1 := z1.step hb
  replace hT := hT.below hb hg
  replace hg := Nat.lt_of_lt_of_le hg hb.size
  replace hB := hB.trans (hb.mono hB.size)
  have c0 := r0.cell (i := 0) rfl
  have c1 := r0.cell (i := 1) rfl
  clear hb
  go_wp2_with fail
  refine (k2 _ hT hw hg).mono ?_
  rintro e w2 ⟨rfl, hb⟩
  clear c0 c1
  replace r0 := row_below r0 hb r0.lt
  replace hw := (hw.below hb).mono hb.size
  replace z1 := z1.step hb
  replace hT := hT.below hb hg
  replace hg := Nat.lt_of_lt_of_le hg hb.size
  replace hB := hB.trans (hb.mono hB.size)
  have c0 := r0.cell (i := 0) rfl
  have c1 := r0.cell (i := 1) rfl
  clear hb
  go_wp2_with fail
  refine (k3 _ hw).mono ?_
  rintro e w3 ⟨rfl, hb⟩
  clear c0 c1
  replace r0 := row_below r0 hb r0.lt
  replace hw := (hw.below hb).mono hb.size
  replace z1 := z1.step hb
  replace hT := hT.below hb hg
  replace hg := Nat.lt_of_lt_of_le hg hb.size
  replace hB := hB.trans (hb.mono hB.size)
  have c0 := r0.cell (i := 0) rfl
  have c1 := r0.cell (i := 1) rfl
  clear hb
  go_wp2_with fail
  go_ret
  exact ⟨rfl, hB⟩

set_option maxRecDepth 100000 in
set_option maxHeartbeats 4000000 in
theorem msums_tab (n : Nat) (a : Option Addr) (cap : Nat) (us : List Nat) (a1 : Option Addr) (c1_ : Nat) (l1 : List B64) (n₀ : Nat) (hn : n = us.length) (hf : Fit us) (w : World) (hT : TabAt w) (hw : IsWords n₀ w a us) (z1 : ZInts n₀ w a1 (tiL l1)) (hg : 0 < n₀) (hn₀ : n₀ ≤ w.heap.size) (hc : codeOf n us = 0) (hm : l1.length = n) :
    Calls Tryd.prog 6 #[.agg #[.int .i64 n, .slice a n cap], .slice a1 l1.length c1_] w fun e w' => e = .returned (.bool true) ∧ Below w.heap.size w w' := by
  have hl : n ≤ 16 := by have := (code_zero hc).2.1; omega
  have ho : IsOrd us := (code_zero hc).2.2.2.2
  have k1 := fun W hT hw z1 hg => Sums_ok n a cap us a1 c1_ (bd l1) W.heap.size hn hf W hT hw (ZInts.vec z1 (Nat.le_refl _) hm) hg (Nat.le_refl _) hc
  have k2 := fun W hT hw z1 hg => Undo_ok n a cap us a1 c1_ (bd l1) W.heap.size hn hf W hT hw (ZInts.vec z1 (Nat.le_refl _) hm) hg (Nat.le_refl _) hc
  have k3 := fun W hw => OrderCheck_any n a cap us W.heap.size hf W hw (Nat.le_refl _)
  have k4 := fun W hw z1 => RSums_any n a cap us a1 c1_ (bd l1) W.heap.size hn hf hl W hw (ZInts.vec z1 (Nat.le_refl _) hm) (Nat.le_refl _)
  have k5 := fun W hw z1 => RUndo_any n a cap us a1 c1_ (bd l1) W.heap.size hn hf ho hl W hw (ZInts.vec z1 (Nat.le_refl _) hm) (Nat.le_refl _)
  rw [hc, ← hn] at k3
  have hla := vecL_len n (vm n (bd l1) (zet us))
  have hlb := vecL_len n (vm n (bd l1) (muM us))
  generalize vecL n (vm n (bd l1) (zet us)) = A at *
  generalize vecL n (vm n (bd l1) (muM us)) = B at *
  rw [hm]
  have g1 : ((n : Int) != (n : Int)) = false := by simp
  clear hc hn ho
  obtain ⟨W0, hW0⟩ : ∃ V, w.alloc (.cells #[.int .i64 n, .slice a n cap] 24) = V := ⟨_, rfl⟩
  obtain ⟨r0, hB, hs0⟩ := one_row w 24 (.int .i64 n) (.slice a n cap) hW0
  replace hw := (hw.below (hB.mono hn₀)).mono (show n₀ ≤ W0.heap.size by omega)
  replace z1 := (z1.below (hB.mono hn₀)).mono (show n₀ ≤ W0.heap.size by omega)
  replace hT := hT.below hB (by omega)
  replace hg : 0 < W0.heap.size := by omega
  clear hs0 hn₀
  have c0 := r0.cell (i := 0) rfl
  have c1 := r0.cell (i := 1) rfl
  go_enter Tryd.func6, Tryd.ntmps6
  go_wp2_with fail
  clear hW0
  refine (k1 _ hT hw z1 hg).mono ?_
  rintro e w1 ⟨p, rfl, hp, hb, hr⟩
  clear c0 c1
  replace r0 := row_below r0 hb r0.lt
  replace hw := (hw.below hb).mono hb.size
  replace z1 := z1.step hb
  replace hT := hT.below hb hg
  replace hg := Nat.lt_of_lt_of_le hg hb.size
  replace hB := hB.trans (hb.mono hB.size)
  have c0 := r0.cell (i := 0) rfl
  have c1 := r0.cell (i := 1) rfl
  have z2 := hr.b hr.lt
  clear hr hp
  clear hb
  go_wp2_with fail
  refine (k2 _ hT hw z1 hg).mono ?_
  rintro e w2 ⟨q, rfl, hp, hb, hr⟩
  clear c0 c1
  replace r0 := row_below r0 hb r0.lt
  replace hw := (hw.below hb).mono hb.size
  replace z1 := z1.step hb
  replace z2 := z2.step hb
  replace hT := hT.below hb hg
  replace hg := Nat.lt_of_lt_of_le hg hb.size
  replace hB := hB.trans (hb.mono hB.size)
  have c0 := r0.cell (i := 0) rfl
  have c1 := r0.cell (i := 1) rfl
  have z3 := hr.b hr.lt
  clear hr hp
  clear hb
  go_wp2_with fail
  refine (k3 _ hw).mono ?_
  rintro e w3 ⟨rfl, hb⟩
  clear c0 c1
  replace r0 := row_below r0 hb r0.lt
  replace hw := (hw.below hb).mono hb.size
  replace z1 := z1.step hb
  replace z2 := z2.step hb
  replace z3 := z3.step hb
  replace hT := hT.below hb hg
  replace hg := Nat.lt_of_lt_of_le hg hb.size
  replace hB := hB.trans (hb.mono hB.size)
  have c0 := r0.cell (i := 0) rfl
  have c1 := r0.cell (i := 1) rfl
  clear hb
  go_wp2_with fail
  refine (k4 _ hw z1).mono ?_
  rintro e w4 ⟨av, cv, rfl, hb, hown⟩
  clear c0 c1
  replace r0 := row_below r0 hb r0.lt
  replace hw := (hw.below hb).mono hb.size
  replace z1 := z1.step hb
  replace z2 := z2.step hb
  replace z3 := z3.step hb
  replace hT := hT.below hb hg
  replace hg := Nat.lt_of_lt_of_le hg hb.size
  replace hB := hB.trans (hb.mono hB.size)
  have c0 := r0.cell (i := 0) rfl
  have c1 := r0.cell (i := 1) rfl
  have z4 := ownsRow_b hown
  clear hown
  clear hb
  go_wp2_with fail
  refine (Longs_same _ _ _ _ A n _ hla (by omega) _ z2 z4 (Nat.le_refl _)).mono ?_
  rintro e w5 ⟨rfl, hb⟩
  clear c0 c1
  replace r0 := row_below r0 hb r0.lt
  replace hw := (hw.below hb).mono hb.size
  replace z1 := z1.step hb
  replace z2 := z2.step hb
  replace z3 := z3.step hb
  replace z4 := z4.step hb
  replace hT := hT.below hb hg
  replace hg := Nat.lt_of_lt_of_le hg hb.size
  replace hB := hB.trans (hb.mono hB.size)
  have c0 := r0.cell (i := 0) rfl
  have c1 := r0.cell (i := 1) rfl
  clear hb
  go_wp2_with fail
  refine (k5 _ hw z1).mono ?_
  rintro e w6 ⟨av2, cv2, rfl, hb, hown⟩
  clear c0 c1
  replace r0 := row_below r0 hb r0.lt
  replace hw := (hw.below hb).mono hb.size
  replace z1 := z1.step hb
  replace z2 := z2.step hb
  replace z3 := z3.step hb
  replace z4 := z4.step hb
  replace hT := hT.below hb hg
  replace hg := Nat.lt_of_lt_of_le hg hb.size
  replace hB := hB.trans (hb.mono hB.size)
  have c0 := r0.cell (i := 0) rfl
  have c1 := r0.cell (i := 1) rfl
  have z5 := ownsRow_b hown
  clear hown
  clear hb
  go_wp2_with fail
  refine (Longs_same _ _ _ _ B n _ hlb (by omega) _ z3 z5 (Nat.le_refl _)).mono ?_
  rintro e w7 ⟨rfl, hb⟩
  clear c0 c1
  replace r0 := row_below r0 hb r0.lt
  replace hw := (hw.below hb).mono hb.size
  replace z1 := z1.step hb
  replace z2 := z2.step hb
  replace z3 := z3.step hb
  replace z4 := z4.step hb
  replace z5 := z5.step hb
  replace hT := hT.below hb hg
  replace hg := Nat.lt_of_lt_of_le hg hb.size
  replace hB := hB.trans (hb.mono hB.size)
  have c0 := r0.cell (i := 0) rfl
  have c1 := r0.cell (i := 1) rfl
  clear hb
  go_wp2_with fail
  go_ret
  exact ⟨rfl, hB⟩

theorem msums_ok (n : Nat) (a : Option Addr) (cap : Nat) (us : List Nat) (a1 : Option Addr) (c1_ : Nat) (l1 : List B64) (n₀ : Nat) (hn : n = us.length) (hf : Fit us) (w : World) (hT : TabAt w) (hw : IsWords n₀ w a us) (z1 : ZInts n₀ w a1 (tiL l1)) (hg : 0 < n₀) (hn₀ : n₀ ≤ w.heap.size) (hc : codeOf n us = 0) :
    Calls Tryd.prog 6 #[.agg #[.int .i64 n, .slice a n cap], .slice a1 l1.length c1_] w fun e w' => e = .returned (.bool true) ∧ Below w.heap.size w w' := by
  by_cases h : l1.length = n
  · exact msums_tab n a cap us a1 c1_ l1 n₀ hn hf w hT hw z1 hg hn₀ hc h
  · exact msums_len n a cap us a1 c1_ l1 n₀ hn hf w hT hw z1 hg hn₀ hc h
/-- **MobiusSums answers true, for every order and any numbers, and writes nothing that was there** -/
theorem msums_any (n : Int) (a : Option Addr) (cap : Nat) (us : List Nat) (a1 : Option Addr) (c1_ : Nat) (l1 : List B64) (n₀ : Nat) (hf : Fit us) (_lz1 : l1.length ≤ 9223372036854775807) (w : World) (hT : TabAt w) (hw : IsWords n₀ w a us) (z1 : ZInts n₀ w a1 (tiL l1)) (hg : 0 < n₀) (hn₀ : n₀ ≤ w.heap.size) :
    Calls Tryd.prog 6 #[.agg #[.int .i64 n, .slice a us.length cap], .slice a1 l1.length c1_] w fun e w' => e = .returned (.bool true) ∧ Below w.heap.size w w' := by
  by_cases hc : codeOf n us = 0
  · obtain rfl := (code_zero hc).2.2.1
    exact msums_ok us.length a cap us a1 c1_ l1 n₀ rfl hf w hT hw z1 hg hn₀ hc
  · exact msums_bad n a cap us a1 c1_ l1 n₀ hf w hT hw z1 hg hn₀ hc
end Go.Proofs.YtilffmalkegioaaDoor
