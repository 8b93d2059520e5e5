/- Contracts: the document's Under, Covered, OrderCovers. Slices of ints in memory; the contract of the document's TimesSame. The contract of the document's OrderSorted: all elements, each time the least one that may come. The document's MobiusInverse. Package mobius: Inverse. What the laws of tables ask of the lists: the inverse's inverse, and the products with it. The contract of sound. The contract of refused. The walk of the law MobiusRota: it answers true, and writes nothing that was there. -/
import Derived.Test.YtilffmalkegioaaDoorRefCovered
import Derived.Test.YtilffmalkegioaaDoorPairMem
import Derived.Test.YtilffmalkegioaaDoorBoxMore
import Derived.Test.YtilffmalkegioaaDoorIntVals
import Derived.Test.YtilffmalkegioaaDoorRefCheck
import Derived.Test.YtilffmalkegioaaDoorSortPlain
import Derived.Test.YtilffmalkegioaaDoorHas
import Derived.Test.YtilffmalkegioaaDoorMobRefT
import Derived.Test.YtilffmalkegioaaDoorMobInv
import Derived.Test.YtilffmalkegioaaDoorMobPubM
import Derived.Test.YtilffmalkegioaaDoorMobIsTab
import Derived.Test.YtilffmalkegioaaDoorCheck
import Derived.Test.YtilffmalkegioaaDoorMobRef
namespace Go.Proofs.YtilffmalkegioaaDoor
open Go.RowKit Go.Shelf

end Go.Proofs.YtilffmalkegioaaDoor

namespace Go.Proofs.YtilffmalkegioaaDoor
open Go.RowKit Go.Shelf

def sameIB (l m : List Nat) : Bool := decide (l = m)
end Go.Proofs.YtilffmalkegioaaDoor

namespace Go.Proofs.YtilffmalkegioaaDoor
open Go.RowKit Go.Shelf

/-- what best is when the elements from i on have been looked at -/
def bestI (us : List Nat) (done : List Nat) (i : Nat) : Int := match ((List.range us.length).filter (fun j => decide (i ≤ j))).find? (readyB (underB us) us.length done) with | some m => (m : Int) | none => -1
theorem best_end (us : List Nat) (done : List Nat) : bestI us done us.length = -1 := by
  unfold bestI
  have : (List.range us.length).filter (fun j => decide (us.length ≤ j)) = [] := by
    rw [List.filter_eq_nil_iff]; intro a ha; have := List.mem_range.1 ha; simp; omega
  rw [this]; rfl
theorem best_split {n i : Nat} (h : i < n) : (List.range n).filter (fun j => decide (i ≤ j)) = i :: (List.range n).filter (fun j => decide (i + 1 ≤ j)) := by
  refine sorted_ext (List.Pairwise.filter _ List.pairwise_lt_range) ?_ fun x => ?_
  · rw [List.pairwise_cons]
    exact ⟨fun y hy => by have := (List.mem_filter.1 hy).2; simp at this; omega, List.Pairwise.filter _ List.pairwise_lt_range⟩
  · simp only [List.mem_filter, List.mem_range, List.mem_cons, decide_eq_true_eq]
    omega
theorem best_yes {us done : List Nat} {i : Nat} (h : i < us.length) (hr : readyB (underB us) us.length done i = true) : bestI us done i = (i : Int) := by
  unfold bestI; rw [best_split h, List.find?_cons, hr]
theorem best_no {us done : List Nat} {i : Nat} (h : i < us.length) (hr : readyB (underB us) us.length done i = false) : bestI us done i = bestI us done (i + 1) := by
  unfold bestI; rw [best_split h, List.find?_cons, hr]
theorem best_zero {us done : List Nat} (h : ∃ i, i < us.length ∧ readyB (underB us) us.length done i = true) : bestI us done 0 = ((nextF (underB us) us.length done : Nat) : Int) := by
  unfold bestI nextF
  have : (List.range us.length).filter (fun j => decide (0 ≤ j)) = List.range us.length := by rw [List.filter_eq_self]; intro a _; simp
  rw [this]
  cases hf : (List.range us.length).find? (readyB (underB us) us.length done) with
  | some m => rfl
  | none =>
    obtain ⟨i, hi, hr⟩ := h
    have := List.find?_eq_none.1 hf i (List.mem_range.2 hi)
    rw [hr] at this; simp at this
/-- is i still ready when those below j have been looked at? -/
def readyTo (us done : List Nat) (i j : Nat) : Bool := !memB done i && (List.range j).all fun x => !(underB us x i && !memB done x)
theorem readyTo_zero (us done : List Nat) (i : Nat) : readyTo us done i 0 = !memB done i := by unfold readyTo; simp
theorem readyTo_succ (us done : List Nat) (i j : Nat) : readyTo us done i (j + 1) = (readyTo us done i j && !(underB us j i && !memB done j)) := by
  unfold readyTo; rw [List.range_succ, List.all_append, Bool.and_assoc]; simp
theorem readyTo_all (us done : List Nat) (i : Nat) : readyTo us done i us.length = readyB (underB us) us.length done i := rfl
def sliceLen : Value → Nat
  | .slice _ n _ => n
  | _ => 0

set_option maxRecDepth 100000 in
set_option maxHeartbeats 2000000 in
theorem OrderSorted_any (a : Option Addr) (cap : Nat) (us : List Nat) (n₀ : Nat) (hf : Fit us) (hl : us.length ≤ 16) (hord : IsOrd us) (w : World) (hw : IsWords n₀ w a us) (hn₀ : n₀ ≤ w.heap.size) :
    Calls Tryd.prog 43 #[.agg #[.int .i64 us.length, .slice a us.length cap]] w fun e w' => ∃ av cv, e = .returned (.slice av us.length cv) ∧ Below w.heap.size w w' ∧ w'.ownsRow w.heap.size 3 1 (.slice av us.length cv) us.length (ivals (sortF (underB us) us.length us.length)) := by
  obtain ⟨i0, hi, hz0, hz1, hz2⟩ := info_parts info_int
  have hA := acy_under hord
  go_enter Tryd.func43, Tryd.ntmps43
  go_wp2
  go_loopw [3] (fun v wr => ∃ (k : Nat) (L : List Nat) (av : Option Addr) (cv : Nat), k ≤ us.length ∧ L = sortF (underB us) us.length k ∧ v = .slice av k cv ∧ InBox w.heap.size w wr us.length a us.length cap ∧ wr.ownsRow (w.heap.size + 1) 3 1 (.slice av k cv) k (ivals L)) (fun v _ => us.length - sliceLen v)
  case atStart => exact ⟨0, [], none, 0, Nat.zero_le _, rfl, rfl, ⟨by simp, by simp, (Below.refl _ _).alloc (Nat.le_refl _) _, by simp⟩, World.ownsRow_nil ..⟩
  case round =>
    obtain ⟨k, L, av, cv, hk, hL, rfl, hbox, hown⟩ := hrel
    have HL := hide hL
    clear hL
    have hc0 := hbox.c0
    have hc1 := hbox.c1
    have hLlen : L.length = k := by rw [HL.out, sortF_len]
    by_cases hlt : k < us.length
    · have HLlen := hide hLlen
      clear hLlen
      go_wp2
      go_loopw [4, 5] (fun b i wr => ∃ i' : Nat, i' ≤ us.length ∧ b = .int .i64 (bestI us L i') ∧ i = .int .i64 ((i' : Int) - 1) ∧ InBox w.heap.size w wr us.length a us.length cap ∧ wr.ownsRow (w.heap.size + 1) 3 1 (.slice av k cv) k (ivals L)) (fun _ i _ => (intOf i + 1).toNat)
      case atStart => exact ⟨us.length, Nat.le_refl _, by rw [best_end], rfl, hbox, hown⟩
      case round =>
        clear hc0 hc1 hbox hown
        obtain ⟨i', hi', rfl, rfl, hbox, hown⟩ := hrel
        have hc0 := hbox.c0
        have hc1 := hbox.c1
        cases i' with
        | zero =>
          have hex := hA L (left_some (by rw [HLlen.out]; exact hlt))
          have hbz := best_zero hex
          rw [hbz]
          have hnx := (next_spec hex).1
          generalize hnn : nextF (underB us) us.length L = nx at *
          have Hnn := hide hnn
          clear hnn hex hbz
          go_wp2_with (at_builtin; refine wpList_append_own _ rfl _ _ 56 rfl (w.heap.size + 1) 3 i0 (.int .i64 0) 1 8 Tryd.underlying56 hi hz0 hz1 hz2 rfl (by decide) _ _ _ rfl (hown.alloc _) ⟨wr.heap.size, 0, none⟩ 1 1 [.int .i64 (nx : Nat)] rfl rfl (cell_one_new _ _ _) (fun u hu => by simp at hu; subst hu; rfl) (by unfold maxLen; omega) (by omega) (by have := hbox.lt; simp; omega) ?_; intro v' w3 hown3 hgrow3 _; obtain ⟨g', cap', rfl⟩ := ownsRow_succ hown3)
          have hbox3 : InBox w.heap.size w w3 us.length a us.length cap := (hbox.step hbox.le ((Below.refl _ _).alloc (Nat.le_refl _) (.cells #[.int .i64 (nx : Nat)] 3))).grown hgrow3 fun b eb => by
            have h1 : w.heap.size + 1 ≤ b := by
              apply Nat.le_of_not_lt; intro hbl
              exact ownBlock_ge hown (b := b) hbl eb.symm
            omega
          exact ⟨⟨k + 1, L ++ [nx], some ⟨g', 0, none⟩, cap', by omega, by rw [← Hnn.out, HL.out]; rfl, rfl, hbox3, by rw [ivals_snoc]; exact hown3⟩, by simp only [sliceLen]; omega⟩
        | succ m =>
          have hm1 : ((m + 1 : Nat) : Int) - 1 = (m : Int) := by omega
          rw [hm1]
          clear hm1
          have hmn : m < us.length := by omega
          have hhas := Has_any av cv L m wr.heap.size (by rw [HLlen.out]; omega) wr (ownsRow_ints hown)
          rw [HLlen.out] at hhas
          go_wp2_with (go_at_call 61; refine hhas.mono ?_; rintro e w' ⟨rfl, rfl⟩)
          go_loopw [6, 7] (fun r j wr => ∃ j' : Nat, j' ≤ us.length ∧ j = .int .i64 j' ∧ r = .bool (readyTo us L m j') ∧ InBox w.heap.size w wr us.length a us.length cap ∧ wr.ownsRow (w.heap.size + 1) 3 1 (.slice av k cv) k (ivals L)) (fun _ j _ => us.length - (intOf j).toNat)
          case atStart => exact ⟨0, Nat.zero_le _, rfl, by rw [readyTo_zero], hbox, hown⟩
          case round =>
            clear hhas hc0 hc1 hbox hown
            obtain ⟨j, hj, rfl, rfl, hbox, hown⟩ := hrel
            have hc0 := hbox.c0
            have hc1 := hbox.c1
            by_cases hlj : j < us.length
            · have hun := Under_any us.length a cap us j m n₀ hf hlj (by omega) wr (hw.below (hbox.bel.mono hn₀)) (by have := hbox.le; omega)
              have Hs := hide (readyTo_succ us L m j)
              cases hu : underB us j m with
              | false =>
                rw [hu] at hun
                have Hu := hide hu
                clear hu
                go_wp2_with (go_at_call 44; refine hun.mono ?_; rintro e w1 ⟨rfl, hb1⟩)
                exact ⟨⟨j + 1, by omega, by go_num, by rw [Hs.out, Hu.out]; simp, hbox.step hbox.le hb1, ownsRow_below hown hb1⟩, by simp [intOf]; omega⟩
              | true =>
                rw [hu] at hun
                have Hu := hide hu
                clear hu
                cases hm : memB L j with
                | true =>
                  have Hm := hide hm
                  clear hm
                  go_wp2_with (first
                    | (go_at_call 44; refine hun.mono ?_; rintro e w1 ⟨rfl, hb1⟩; have hown1 := ownsRow_below hown hb1; have hh := Has_any av cv L j w1.heap.size (by rw [HLlen.out]; omega) w1 (ownsRow_ints hown1); rw [HLlen.out, Hm.out] at hh)
                    | (go_at_call 61; refine hh.mono ?_; rintro e w' ⟨rfl, rfl⟩))
                  exact ⟨⟨j + 1, by omega, by go_num, by rw [Hs.out, Hu.out, Hm.out]; simp, hbox.step hbox.le hb1, hown1⟩, by simp [intOf]; omega⟩
                | false =>
                  have Hm := hide hm
                  clear hm
                  go_wp2_with (first
                    | (go_at_call 44; refine hun.mono ?_; rintro e w1 ⟨rfl, hb1⟩; have hown1 := ownsRow_below hown hb1; have hh := Has_any av cv L j w1.heap.size (by rw [HLlen.out]; omega) w1 (ownsRow_ints hown1); rw [HLlen.out, Hm.out] at hh)
                    | (go_at_call 61; refine hh.mono ?_; rintro e w' ⟨rfl, rfl⟩))
                  exact ⟨⟨j + 1, by omega, by go_num, by rw [Hs.out, Hu.out, Hm.out]; simp, hbox.step hbox.le hb1, hown1⟩, by simp [intOf]; omega⟩
            · obtain rfl : j = us.length := by omega
              rw [readyTo_all]
              cases hr : readyB (underB us) us.length L m with
              | true =>
                have Hb := hide (best_yes hmn hr)
                clear hr
                go_wp2
                exact ⟨⟨m, by omega, by rw [Hb.out], rfl, hbox, hown⟩, by simp [intOf]⟩
              | false =>
                have Hb := hide (best_no hmn hr)
                clear hr
                go_wp2
                exact ⟨⟨m, by omega, by rw [Hb.out], rfl, hbox, hown⟩, by simp [intOf]⟩
    · obtain rfl : k = us.length := by omega
      go_wp2
      go_ret
      have e1 := HL.out
      subst e1
      exact ⟨av, cv, rfl, hbox.bel, ownsRow_base hown (by omega)⟩
end Go.Proofs.YtilffmalkegioaaDoor

namespace Go.Proofs.YtilffmalkegioaaDoor
open Go.RowKit Go.Shelf

/-- 1 or -1 where a is b -/
def PM (n : Nat) (f : Mat) : Prop := ∀ a, a < n → f a a = 1 ∨ f a a = -1
theorem PM.unit {n : Nat} {f : Mat} (h : PM n f) : Unit1 n f := fun a ha => by
  rcases h a ha with e | e <;> rw [e] <;> decide
theorem pm_toInt {x : B64} : (x.toInt = 1 ↔ x = 1) ∧ (x.toInt = -1 ↔ x = -1) := by
  constructor
  · rw [← toInt_one]; exact toInt_eq
  · rw [← toInt_none]; exact toInt_eq
/-- what is added at x -/
def ivAt (us : List Nat) (F G : Mat) (a b x : Nat) : B64 := if hasB (wd us a) x && underB us x b then G a x * F x b else 0
theorem inv_leftH {us l : List Nat} (ho : IsOrd us) (hL : Line us l) {F : Mat} (hF : Tab us F) (hu : Unit1 us.length F) {a b : Nat} (ha : a < us.length) (hb : b < us.length) (hne : a ≠ b) :
    -(sm us.length (ivAt us F (invG F l) a b)) * F b b = invG F l a b := by
  have h1 := inv_left ho hL hF hu a ha b hb
  have hT := inv_tab ho hL hF
  rw [one_ne hne] at h1
  unfold mm at h1
  have e1 : (sm us.length fun x => invG F l a x * F x b) = sm us.length (ivAt us F (invG F l) a b) + invG F l a b * F b b := by
    have e2 : (sm us.length fun x => invG F l a x * F x b) = sm us.length fun x => ivAt us F (invG F l) a b x + (if x = b then invG F l a b * F b b else 0) := sm_congr fun x hx => by
      unfold ivAt
      by_cases e : x = b
      · subst e
        have : underB us x x = false := by unfold underB; simp
        rw [this]; simp
      · rw [if_neg e]
        by_cases h1 : leW us a x
        · by_cases h2 : leW us x b
          · have : underB us x b = true := by unfold underB leW at *; simp [e, h2]
            unfold leW at h1
            rw [this, h1]; simp
          · rw [hF x hx b hb h2]; simp
        · rw [hT a ha x hx h1]; simp
    rw [e2, sm_add, sm_one hb fun x _ hne => if_neg hne, if_pos rfl]
  rw [e1] at h1
  have h2 := hu b hb
  generalize sm us.length (ivAt us F (invG F l) a b) = S at *
  generalize F b b = d at *
  generalize invG F l a b = g at *
  have h3 : -S = g * d := by
    have h4 : -S + (S + g * d) = g * d := by grind
    rw [h1] at h4
    rw [← h4]; simp
  rw [h3, BitVec.mul_assoc, h2]; simp
theorem line_before {us l : List Nat} (hL : Line us l) {m x : Nat} (hm : m < l.length) (hx : x < us.length) (h : underB us x (wd l m) = true) : x ∈ l.take m := by
  have hxl := (hL.mem x).2 hx
  rw [← List.take_append_drop m l] at hxl
  rcases List.mem_append.1 hxl with h1 | h1
  · exact h1
  · exfalso
    rw [drop_wd hm] at h1
    unfold underB at h
    rw [Bool.and_eq_true] at h
    have hne : x ≠ wd l m := by simpa using h.1
    rcases List.mem_cons.1 h1 with e | e
    · exact hne e
    · have hup := hL.up
      rw [← List.take_append_drop m l, List.pairwise_append, drop_wd hm, List.pairwise_cons] at hup
      exact hup.2.1.1 x e h.2

set_option maxRecDepth 100000 in
set_option maxHeartbeats 4000000 in
theorem RInverse_none (n : Nat) (a : Option Addr) (cap : Nat) (us : List Nat) (af : Option Addr) (cf : Nat) (F : List B64) (n₀ : Nat) (hn : n = us.length) (hf : Fit us) (ho : IsOrd us) (hl : n ≤ 16) (hlF : F.length = n * n) (hno : ¬ PM n (mat n F)) (w : World) (hw : IsWords n₀ w a us) (hvF : ZInts n₀ w af (tiL F)) (hn₀ : n₀ ≤ w.heap.size) :
    Calls Tryd.prog 18 #[.agg #[.int .i64 n, .slice a n cap], .slice af (n * n) cf] w fun e w' => e = .returned (.tuple #[.slice none 0 0, .bool false]) ∧ Below w.heap.size w w' := by
  have h2 : n * n ≤ 256 := Nat.mul_le_mul hl hl
  have hsort := fun (W : World) (hW : IsWords n₀ W a us) (hs : n₀ ≤ W.heap.size) => OrderSorted_any a cap us n₀ hf (by omega) ho W hW hs
  rw [← hn] at hsort
  have hrows : ∀ y, y < n → y * n + n ≤ n * n := fun y hy => by
    have := Nat.mul_le_mul_right n (show y + 1 ≤ n from hy)
    rwa [Nat.succ_mul] at this
  have hz : (n : Int) * (n : Int) = ((n * n : Nat) : Int) := by push_cast; rfl
  have hmk := run_make_row' (P := Tryd.prog) 25 2 (.int .i64 0) 8 Tryd.underlying25 info_i64 rfl .i64 .i64 (n * n) (by omega) (by omega)
  simp only [← hz] at hmk
  have hwz : wrap64 ((n : Int) * (n : Int)) = (n : Int) * (n : Int) := by rw [hz, IntWalk.wrap64_in _ (by omega)]
  clear hz hn
  obtain ⟨W0, hW0⟩ : ∃ W0, w.alloc (.cells #[.int .i64 n, .slice a n cap] 24) = W0 := ⟨_, rfl⟩
  obtain ⟨r0, hb0, hs0⟩ := one_row w 24 (.int .i64 n) (.slice a n cap) hW0
  obtain ⟨W1, hW1⟩ : ∃ W1, W0.alloc (.cells (madeCells #[.int .i64 0] (n * n)) 2) = W1 := ⟨_, rfl⟩
  have hb1 : Below w.heap.size w W1 := by rw [← hW1]; exact hb0.alloc (by omega) _
  have q0 : Row W1 w.heap.size 24 [.int .i64 n, .slice a n cap] := by rw [← hW1]; exact r0.alloc _
  have hs1 := hb1.size
  have c0 := r0.cell (i := 0) rfl
  have c1 := r0.cell (i := 1) rfl
  have d0 := q0.cell (i := 0) rfl
  have d1 := q0.cell (i := 1) rfl
  go_enter Tryd.func18, Tryd.ntmps18
  go_wp2_with fail
  refine (hsort _ (hw.below (hb1.mono hn₀)) (by omega)).mono ?_
  rintro e w2 ⟨sv, sc, rfl, hb2, -⟩
  have hB2 := hb1.trans (hb2.mono hs1)
  have hF2 := hvF.below (hB2.mono hn₀)
  clear hsort hmk c0 c1 d0 d1 hwz hb2
  go_wp2_with fail
  clear hW0 hW1
  go_loopw [9] (fun i wr => ∃ k : Nat, k ≤ n ∧ i = .int .i64 k ∧ wr = w2 ∧ ∀ a, a < k → mat n F a a = 1 ∨ mat n F a a = -1) (fun i _ => n - (intOf i).toNat)
  case atStart => exact ⟨0, Nat.zero_le _, rfl, rfl, fun a ha => absurd ha (Nat.not_lt_zero _)⟩
  case round =>
    obtain ⟨k, hk, rfl, rfl, hK⟩ := hrel
    by_cases hlt : k < n
    · have hrk := hrows k hlt
      obtain ⟨fb, fo, rfl, hfb, hfc⟩ := hF2.cellsB (i := k * n + k) (by rw [hlF]; exact plc_lt hlt hlt)
      have kf := hfc (k * n + k) (by rw [hlF]; exact plc_lt hlt hlt)
      have e1 := pm_toInt (x := bd F (k * n + k))
      clear hfc
      by_cases h1 : bd F (k * n + k) = 1
      · have g1 : ((bd F (k * n + k)).toInt != 1) = false := by rw [h1]; rfl
        have HK := hide hK
        have H1 := hide (show mat n F k k = 1 from h1)
        clear hK h1 e1
        generalize (bd F (k * n + k)).toInt = x at *
        go_wp2_with fail
        go_roundw
        case rel => exact ⟨k + 1, by omega, by go_num, trivial, fun a ha => by
          by_cases e : a = k
          · subst e; exact .inl H1.out
          · exact HK.out a (by omega)⟩
        case measure => simp [intOf]; omega
      · by_cases h2' : bd F (k * n + k) = -1
        · have g1 : ((bd F (k * n + k)).toInt != 1) = true := by rw [h2']; rfl
          have g2 : ((bd F (k * n + k)).toInt != -1) = false := by rw [h2']; rfl
          have HK := hide hK
          have H1 := hide (show mat n F k k = -1 from h2')
          clear hK h1 h2' e1
          generalize (bd F (k * n + k)).toInt = x at *
          go_wp2_with fail
          go_roundw
          case rel => exact ⟨k + 1, by omega, by go_num, trivial, fun a ha => by
            by_cases e : a = k
            · subst e; exact .inr H1.out
            · exact HK.out a (by omega)⟩
          case measure => simp [intOf]; omega
        · have g1 : ((bd F (k * n + k)).toInt != 1) = true := by rw [bne_iff_ne]; exact fun h => h1 (e1.1.1 h)
          have g2 : ((bd F (k * n + k)).toInt != -1) = true := by rw [bne_iff_ne]; exact fun h => h2' (e1.2.1 h)
          clear hK h1 h2' e1
          generalize (bd F (k * n + k)).toInt = x at *
          go_wp2_with fail
          go_ret2
          exact ⟨rfl, hB2⟩
    · obtain rfl : k = n := by omega
      exact absurd hK hno
end Go.Proofs.YtilffmalkegioaaDoor

namespace Go.Proofs.YtilffmalkegioaaDoor
open Go.RowKit Go.Shelf

set_option maxRecDepth 100000 in
set_option maxHeartbeats 1000000 in
theorem Inverse_bad (n : Int) (a : Option Addr) (cap : Nat) (us : List Nat) (v1 : Value) (n₀ : Nat) (hf : Fit us) (w : World) (hT : TabAt w) (hw : IsWords n₀ w a us) (hg : 0 < n₀) (hn₀ : n₀ ≤ w.heap.size) (hc : codeOf n us ≠ 0) :
    Calls Tryd.prog 23 #[.agg #[.int .i64 n, .slice a us.length cap], v1] w fun e w' => e = mobErr (codeOf n us) ∧ Below w.heap.size w w' := by
  obtain ⟨r0, hb0, hs0⟩ := one_row w 24 (.int .i64 n) (.slice a us.length cap) rfl
  have hck := Sorted_bad n a cap us n₀ hf _ (hT.below hb0 (by omega)) (hw.below (hb0.mono hn₀)) hg (by omega) hc
  unfold mobErr
  generalize codeOf n us = c at *
  have hne : (c != 0) = true := by rw [bne_iff_ne]; exact hc
  have Hb := hide hb0
  clear hb0 hc hs0
  go_enter Tryd.func23, Tryd.ntmps23
  go_wp2_with (go_at_call 39; refine hck.mono ?_; rintro e w1 ⟨rfl, hb1⟩)
  go_ret2
  exact ⟨rfl, Hb.out.trans (hb1.mono (by simp))⟩

set_option maxRecDepth 100000 in
set_option maxHeartbeats 4000000 in
theorem Inverse_notab (n : Nat) (a : Option Addr) (cap : Nat) (us : List Nat) (af : Option Addr) (cf : Nat) (F : List B64) (n₀ : Nat) (hn : n = us.length) (hf : Fit us) (w : World) (hT : TabAt w) (hw : IsWords n₀ w a us) (hvF : ZInts n₀ w af (tiL F)) (hg : 0 < n₀) (hn₀ : n₀ ≤ w.heap.size) (hc : codeOf n us = 0) (hno : ¬ IsTab us F) :
    Calls Tryd.prog 23 #[.agg #[.int .i64 n, .slice a n cap], .slice af F.length cf] w fun e w' => e = mobErr 2 ∧ Below w.heap.size w w' := by
  have hl : n ≤ 16 := by have := (code_zero hc).2.1; omega
  obtain ⟨r0, hb0, hs0⟩ := one_row w 24 (.int .i64 n) (.slice a n cap) rfl
  have hck := sorted_ans n a cap us hn hf hc _ (hT.below hb0 (by omega)) ((hw.below (hb0.mono hn₀)).mono (by omega)) (by omega)
  have t1 := fun (W : World) (hb : Below w.heap.size w W) => isTable_any n a cap us af cf F n₀ hn hf hl W (hw.below (hb.mono hn₀)) (hvF.below (hb.mono hn₀)) (by have := hb.size; omega)
  rw [tabB_false.2 hno] at t1
  unfold mobErr
  have Hb := hide hb0
  clear hb0 hc hno hn
  go_enter Tryd.func23, Tryd.ntmps23
  go_wp2_with fail
  refine hck.mono ?_
  rintro e w1 ⟨la, lc, rfl, hb1, hcap, hil⟩
  have q0 := row_below r0 hb1 r0.lt
  have c0 := q0.cell (i := 0) rfl
  have c1 := q0.cell (i := 1) rfl
  have hB1 := Hb.out.trans (hb1.mono (by simp))
  have hs1 := hB1.size
  clear hck
  go_wp2_with fail
  refine (t1 _ hB1).mono ?_
  rintro e w2 ⟨rfl, hb2⟩
  clear c0 c1
  go_wp2_with fail
  go_ret2
  exact ⟨rfl, hB1.trans (hb2.mono hs1)⟩

set_option maxRecDepth 100000 in
set_option maxHeartbeats 4000000 in
theorem Inverse_none (n : Nat) (a : Option Addr) (cap : Nat) (us : List Nat) (af : Option Addr) (cf : Nat) (F : List B64) (n₀ : Nat) (hn : n = us.length) (hf : Fit us) (w : World) (hT : TabAt w) (hw : IsWords n₀ w a us) (hvF : ZInts n₀ w af (tiL F)) (hg : 0 < n₀) (hn₀ : n₀ ≤ w.heap.size) (hc : codeOf n us = 0) (hF : IsTab us F) (hno : ¬ PM n (mat n F)) :
    Calls Tryd.prog 23 #[.agg #[.int .i64 n, .slice a n cap], .slice af (n * n) cf] w fun e w' => e = mobErr 5 ∧ Below w.heap.size w w' := by
  have hl : n ≤ 16 := by have := (code_zero hc).2.1; omega
  obtain ⟨r0, hb0, hs0⟩ := one_row w 24 (.int .i64 n) (.slice a n cap) rfl
  have hck := sorted_ans n a cap us hn hf hc _ (hT.below hb0 (by omega)) ((hw.below (hb0.mono hn₀)).mono (by omega)) (by omega)
  have t1 := fun (W : World) (hb : Below w.heap.size w W) => isTable_any n a cap us af cf F n₀ hn hf hl W (hw.below (hb.mono hn₀)) (hvF.below (hb.mono hn₀)) (by have := hb.size; omega)
  have hlF : F.length = n * n := by rw [hF.1, hn]
  have h2 : n * n ≤ 256 := Nat.mul_le_mul hl hl
  rw [tabB_true.2 hF, hlF] at t1
  have k1 := fun W hw => copied_any n hl af cf W.heap.size F hlF W hw (Nat.le_refl _)
  have hrow := row_any n
  unfold sqV at k1 hrow
  unfold mobErr
  have Hb := hide hb0
  clear hb0 hc hn hF
  go_enter Tryd.func23, Tryd.ntmps23
  go_wp2_with fail
  refine hck.mono ?_
  rintro e w1 ⟨la, lc, rfl, hb1, hcap, hil⟩
  have q0 := row_below r0 hb1 r0.lt
  have c0 := q0.cell (i := 0) rfl
  have c1 := q0.cell (i := 1) rfl
  have hB1 := Hb.out.trans (hb1.mono (by simp))
  have hs1 := hB1.size
  clear hck
  go_wp2_with fail
  refine (t1 _ hB1).mono ?_
  rintro e w2 ⟨rfl, hb2⟩
  clear c0 c1
  have q2 := row_below q0 hb2 q0.lt
  have c0 := q2.cell (i := 0) rfl
  have c1 := q2.cell (i := 1) rfl
  have hB2 := hB1.trans (hb2.mono hs1)
  have hs2 := hB2.size
  clear t1
  go_wp2_with fail
  refine (k1 _ ((hvF.below (hB2.mono hn₀)).mono (by omega))).mono ?_
  rintro e w3 ⟨p, rfl, hp, hb3, hr3⟩
  have z2 := hb2.size
  have z3 := hb3.size
  have q3 := row_below q2 hb3 q2.lt
  have hB3 := hB2.trans (hb3.mono hs2)
  have hs3 := hB3.size
  clear c0 c1 k1
  obtain ⟨W1, hW1⟩ : ∃ W1, w3.alloc (.cells #[.int .i64 n, .slice (some ⟨p, 0, none⟩) (n * n) (n * n)] 54) = W1 := ⟨_, rfl⟩
  obtain ⟨r8, hB4, hs4⟩ := sq_cells w3 _ _ hW1
  have ltp := hr3.lt
  have q4 := row_below q3 hB4 q3.lt
  have p4 := row_below hr3 hB4 hr3.lt
  have hBW := hB3.trans (hB4.mono hs3)
  have c0 := q4.cell (i := 0) rfl
  go_wp2_with fail
  clear c0 hW1
  generalize w3.heap.size = B at *
  have hsz := hBW.size
  go_loopw [29] (fun i wr => ∃ k : Nat, k ≤ n ∧ i = .int .i64 k ∧ Below W1.heap.size W1 wr ∧ ∀ a, a < k → mat n F a a = 1 ∨ mat n F a a = -1) (fun i _ => n - (intOf i).toNat)
  case atStart => exact ⟨0, Nat.zero_le _, rfl, Below.refl _ _, fun a ha => absurd ha (Nat.not_lt_zero _)⟩
  case round =>
    obtain ⟨k, hk, rfl, hB, hK⟩ := hrel
    have s8 := row_below r8 hB r8.lt
    have s4 := row_below p4 hB p4.lt
    have hBz := hB.size
    by_cases hlt : k < n
    · have hpl := plc_lt hlt hlt
      have d0 := s8.cell (i := 0) rfl
      have d1 := s8.cell (i := 1) rfl
      have e1 := pm_toInt (x := bd F (k * n + k))
      go_wp2_with fail
      refine (hrow p k hl hlt _).mono ?_
      rintro e w5 ⟨rfl, hb5⟩
      have kf := (s4.keep hb5).cell (bvals_at (i := k * n + k) (by omega))
      have hB5 := hB.trans (hb5.mono hBz)
      clear d0 d1 s4 s8
      by_cases h1 : bd F (k * n + k) = 1
      · have g1 : ((bd F (k * n + k)).toInt != 1) = false := by rw [h1]; rfl
        have HK := hide hK
        have H1 := hide (show mat n F k k = 1 from h1)
        clear hK h1 e1
        generalize (bd F (k * n + k)).toInt = x at *
        go_wp2_with fail
        go_roundw
        case rel => exact ⟨k + 1, by omega, by go_num, hB5, fun a ha => by
          by_cases e : a = k
          · subst e; exact .inl H1.out
          · exact HK.out a (by omega)⟩
        case measure => simp [intOf]; omega
      · by_cases h2' : bd F (k * n + k) = -1
        · have g1 : ((bd F (k * n + k)).toInt != 1) = true := by rw [h2']; rfl
          have g2 : ((bd F (k * n + k)).toInt != -1) = false := by rw [h2']; rfl
          have HK := hide hK
          have H1 := hide (show mat n F k k = -1 from h2')
          clear hK h1 h2' e1
          generalize (bd F (k * n + k)).toInt = x at *
          go_wp2_with fail
          go_roundw
          case rel => exact ⟨k + 1, by omega, by go_num, hB5, fun a ha => by
            by_cases e : a = k
            · subst e; exact .inr H1.out
            · exact HK.out a (by omega)⟩
          case measure => simp [intOf]; omega
        · have g1 : ((bd F (k * n + k)).toInt != 1) = true := by rw [bne_iff_ne]; exact fun h => h1 (e1.1.1 h)
          have g2 : ((bd F (k * n + k)).toInt != -1) = true := by rw [bne_iff_ne]; exact fun h => h2' (e1.2.1 h)
          clear hK h1 h2' e1
          generalize (bd F (k * n + k)).toInt = x at *
          go_wp2_with fail
          go_ret2
          exact ⟨rfl, hBW.trans (hB5.mono hsz)⟩
    · obtain rfl : k = n := by omega
      exact absurd hK hno

set_option maxRecDepth 100000 in
set_option maxHeartbeats 4000000 in
theorem Inverse_ok (n : Nat) (a : Option Addr) (cap : Nat) (us : List Nat) (af : Option Addr) (cf : Nat) (F : List B64) (n₀ : Nat) (hn : n = us.length) (hf : Fit us) (w : World) (hT : TabAt w) (hw : IsWords n₀ w a us) (hvF : ZInts n₀ w af (tiL F)) (hg : 0 < n₀) (hn₀ : n₀ ≤ w.heap.size) (hc : codeOf n us = 0) (hF : IsTab us F) (hpm : PM n (mat n F)) :
    Calls Tryd.prog 23 #[.agg #[.int .i64 n, .slice a n cap], .slice af (n * n) cf] w fun e w' => ∃ p, e = .returned (.tuple #[.slice (some ⟨p, 0, none⟩) (n * n) (n * n), .int .i64 0]) ∧ w.heap.size ≤ p ∧ Below w.heap.size w w' ∧ Row w' p 2 (bvals (tabL n (invG (mat n F) (sortL us)))) := by
  have hl : n ≤ 16 := by have := (code_zero hc).2.1; omega
  obtain ⟨r0, hb0, hs0⟩ := one_row w 24 (.int .i64 n) (.slice a n cap) rfl
  have hck := sorted_ans n a cap us hn hf hc _ (hT.below hb0 (by omega)) ((hw.below (hb0.mono hn₀)).mono (by omega)) (by omega)
  have t1 := fun (W : World) (hb : Below w.heap.size w W) => isTable_any n a cap us af cf F n₀ hn hf hl W (hw.below (hb.mono hn₀)) (hvF.below (hb.mono hn₀)) (by have := hb.size; omega)
  have hlF : F.length = n * n := by rw [hF.1, hn]
  have h2 : n * n ≤ 256 := Nat.mul_le_mul hl hl
  rw [tabB_true.2 hF, hlF] at t1
  have k1 := fun W hw => copied_any n hl af cf W.heap.size F hlF W hw (Nat.le_refl _)
  have hrow := row_any n
  unfold sqV at k1 hrow
  have ho : IsOrd us := (code_zero hc).2.2.2.2
  have hL := sortL_line ho
  have hlen : (sortL us).length = n := by rw [hL.len, hn]
  have hinv := fun p av cv hcap W h1 h2 => inverse_any n p hl F hlF av cv (sortL us) hlen hcap (fun x hx => by rw [hn]; exact (hL.mem x).1 hx) hL.nodup W.heap.size W h1 h2 (Nat.le_refl _)
  unfold sqV at hinv
  have Hb := hide hb0
  have HPM := hide hpm
  clear hb0 hc hn hF hL ho hpm
  go_enter Tryd.func23, Tryd.ntmps23
  go_wp2_with fail
  refine hck.mono ?_
  rintro e w1 ⟨la, lc, rfl, hb1, hcap, hil⟩
  have q0 := row_below r0 hb1 r0.lt
  have c0 := q0.cell (i := 0) rfl
  have c1 := q0.cell (i := 1) rfl
  have hB1 := Hb.out.trans (hb1.mono (by simp))
  have hs1 := hB1.size
  clear hck
  go_wp2_with fail
  refine (t1 _ hB1).mono ?_
  rintro e w2 ⟨rfl, hb2⟩
  clear c0 c1
  have q2 := row_below q0 hb2 q0.lt
  have c0 := q2.cell (i := 0) rfl
  have c1 := q2.cell (i := 1) rfl
  have hB2 := hB1.trans (hb2.mono hs1)
  have hs2 := hB2.size
  clear t1
  go_wp2_with fail
  refine (k1 _ ((hvF.below (hB2.mono hn₀)).mono (by omega))).mono ?_
  rintro e w3 ⟨p, rfl, hp, hb3, hr3⟩
  have z2 := hb2.size
  have z3 := hb3.size
  have q3 := row_below q2 hb3 q2.lt
  have hB3 := hB2.trans (hb3.mono hs2)
  have hs3 := hB3.size
  clear c0 c1 k1
  obtain ⟨W1, hW1⟩ : ∃ W1, w3.alloc (.cells #[.int .i64 n, .slice (some ⟨p, 0, none⟩) (n * n) (n * n)] 54) = W1 := ⟨_, rfl⟩
  obtain ⟨r8, hB4, hs4⟩ := sq_cells w3 _ _ hW1
  have ltp := hr3.lt
  have q4 := row_below q3 hB4 q3.lt
  have p4 := row_below hr3 hB4 hr3.lt
  have hBW := hB3.trans (hB4.mono hs3)
  have c0 := q4.cell (i := 0) rfl
  go_wp2_with fail
  clear c0 hW1
  generalize w3.heap.size = B at *
  have hsz := hBW.size
  go_loopw [29] (fun i wr => ∃ k : Nat, k ≤ n ∧ i = .int .i64 k ∧ Below W1.heap.size W1 wr ∧ ∀ a, a < k → mat n F a a = 1 ∨ mat n F a a = -1) (fun i _ => n - (intOf i).toNat)
  case atStart => exact ⟨0, Nat.zero_le _, rfl, Below.refl _ _, fun a ha => absurd ha (Nat.not_lt_zero _)⟩
  case round =>
    obtain ⟨k, hk, rfl, hB, hK⟩ := hrel
    have s8 := row_below r8 hB r8.lt
    have s4 := row_below p4 hB p4.lt
    have hBz := hB.size
    by_cases hlt : k < n
    · have hpl := plc_lt hlt hlt
      have d0 := s8.cell (i := 0) rfl
      have d1 := s8.cell (i := 1) rfl
      have e1 := pm_toInt (x := bd F (k * n + k))
      go_wp2_with fail
      refine (hrow p k hl hlt _).mono ?_
      rintro e w5 ⟨rfl, hb5⟩
      have kf := (s4.keep hb5).cell (bvals_at (i := k * n + k) (by omega))
      have hB5 := hB.trans (hb5.mono hBz)
      clear d0 d1 s4 s8
      by_cases h1 : bd F (k * n + k) = 1
      · have g1 : ((bd F (k * n + k)).toInt != 1) = false := by rw [h1]; rfl
        have HK := hide hK
        have H1 := hide (show mat n F k k = 1 from h1)
        clear hK h1 e1
        generalize (bd F (k * n + k)).toInt = x at *
        go_wp2_with fail
        go_roundw
        case rel => exact ⟨k + 1, by omega, by go_num, hB5, fun a ha => by
          by_cases e : a = k
          · subst e; exact .inl H1.out
          · exact HK.out a (by omega)⟩
        case measure => simp [intOf]; omega
      · by_cases h2' : bd F (k * n + k) = -1
        · have g1 : ((bd F (k * n + k)).toInt != 1) = true := by rw [h2']; rfl
          have g2 : ((bd F (k * n + k)).toInt != -1) = false := by rw [h2']; rfl
          have HK := hide hK
          have H1 := hide (show mat n F k k = -1 from h2')
          clear hK h1 h2' e1
          generalize (bd F (k * n + k)).toInt = x at *
          go_wp2_with fail
          go_roundw
          case rel => exact ⟨k + 1, by omega, by go_num, hB5, fun a ha => by
            by_cases e : a = k
            · subst e; exact .inr H1.out
            · exact HK.out a (by omega)⟩
          case measure => simp [intOf]; omega
        · have g1 : ((bd F (k * n + k)).toInt != 1) = true := by rw [bne_iff_ne]; exact fun h => h1 (e1.1.1 h)
          have g2 : ((bd F (k * n + k)).toInt != -1) = true := by rw [bne_iff_ne]; exact fun h => h2' (e1.2.1 h)
          exact absurd (HPM.out k hlt) (fun h => h.elim h1 h2')
    · obtain rfl : k = n := by omega
      have d0 := s8.cell (i := 0) rfl
      have d1 := s8.cell (i := 1) rfl
      have hil4 := (IsInts.below (IsInts.below (IsInts.below (IsInts.below hil hb2) (hb3.mono hb2.size)) (hB4.mono (by omega))) (hB.mono (by omega))).up (show w1.heap.size ≤ wr.heap.size by have := hb2.size; omega)
      clear hK hrow
      go_wp2_with fail
      refine (hinv _ _ _ hcap _ s4 hil4).mono ?_
      rintro e w6 ⟨g, rfl, hg6, hb6, hr6⟩
      have hfr := run_field_at k (some ⟨g, 0, none⟩) (k * k) (k * k)
      go_wp2
      go_ret2
      exact ⟨g, rfl, by omega, (hBW.trans (hB.mono hsz)).trans (hb6.mono (by omega)), hr6⟩
end Go.Proofs.YtilffmalkegioaaDoor

namespace Go.Proofs.YtilffmalkegioaaDoor
open Go.RowKit Go.Shelf

/-- the list of the inverse -/
def invL (us : List Nat) (n : Nat) (F : List B64) : List B64 := tabL n (invG (mat n F) (sortL us))
theorem invL_len (us : List Nat) (n : Nat) (F : List B64) : (invL us n F).length = n * n := tabL_len _ _
theorem invL_mat (us : List Nat) (n : Nat) (F : List B64) : EqN n (mat n (invL us n F)) (invG (mat n F) (sortL us)) := mat_tabL _
theorem tabL_tab {us : List Nat} {f : Mat} (h : Tab us f) : IsTab us (tabL us.length f) :=
  ⟨tabL_len _ _, fun a ha b hb hno => by rw [mat_tabL f a ha b hb]; exact h a ha b hb hno⟩
theorem one_tab {us : List Nat} (ho : IsOrd us) : Tab us one := fun a ha b _ h => one_ne fun e => h (by subst e; exact leW_refl ho ha)
section
variable {us : List Nat} {F : List B64} (ho : IsOrd us) (hF : IsTab us F) (hpm : PM us.length (mat us.length F))
include ho hF hpm
omit hpm in
theorem invL_tab : IsTab us (invL us us.length F) := tabL_tab (inv_tab ho (sortL_line ho) hF.2)
theorem invL_pm : PM us.length (mat us.length (invL us us.length F)) := fun a ha => by
  rw [invL_mat us us.length F a ha a ha, inv_diag ho (sortL_line ho) hF.2 ha]; exact hpm a ha
theorem invL_inv : invL us us.length (invL us us.length F) = F := by
  have h1 : EqN us.length (invG (mat us.length (invL us us.length F)) (sortL us)) (mat us.length F) :=
    (invG_congr (invL_mat us us.length F) fun x hx => ((sortL_line ho).mem x).1 hx).trans (inv_inv ho (sortL_line ho) hF.2 hpm.unit)
  have h2 : invL us us.length (invL us us.length F) = tabL us.length (mat us.length F) := tabL_congr h1
  rw [h2, tabL_mat hF.1]
theorem invL_right : tabL us.length (mm us.length (mat us.length F) (mat us.length (invL us us.length F))) = tabL us.length one :=
  tabL_congr ((mm_congr (EqN.refl _ _) (invL_mat us us.length F)).trans (inv_right (sortL_line ho) hF.2 hpm.unit))
theorem invL_left : tabL us.length (mm us.length (mat us.length (invL us us.length F)) (mat us.length F)) = tabL us.length one :=
  tabL_congr ((mm_congr (invL_mat us us.length F) (EqN.refl _ _)).trans (inv_left ho (sortL_line ho) hF.2 hpm.unit))
end
end Go.Proofs.YtilffmalkegioaaDoor

namespace Go.Proofs.YtilffmalkegioaaDoor
open Go.RowKit Go.Shelf

theorem sound_any (n : Int) (a : Option Addr) (cap : Nat) (us : List Nat) (n₀ : Nat) (hf : Fit us) (w : World) (hw : IsWords n₀ w a us) (hn₀ : n₀ ≤ w.heap.size) :
    Calls Tryd.prog 30 #[.agg #[.int .i64 n, .slice a us.length cap]] w fun e w' => e = .returned (.bool (codeOf n us == 0)) ∧ Below w.heap.size w w' := by
  have hb0 : Below w.heap.size w (w.alloc (.cells #[.int .i64 n, .slice a us.length cap] 24)) := (Below.refl _ _).alloc (Nat.le_refl _) _
  have hck := OrderCheck_any n a cap us n₀ hf _ (hw.below (hb0.mono hn₀)) (by simp; omega)
  generalize codeOf n us = c at *
  have Hb := hide hb0
  clear hb0
  go_enter Tryd.func30, Tryd.ntmps30
  go_wp2_with (go_at_call 16; refine hck.mono ?_; rintro e w1 ⟨rfl, hb1⟩)
  go_ret
  exact ⟨rfl, Hb.out.trans (hb1.mono (by simp))⟩
end Go.Proofs.YtilffmalkegioaaDoor

namespace Go.Proofs.YtilffmalkegioaaDoor
open Go.RowKit Go.Shelf

theorem refused_any (n : Int) (a : Option Addr) (cap : Nat) (us : List Nat) (n₀ : Nat) (hf : Fit us) (w : World) (hT : TabAt w) (hw : IsWords n₀ w a us) (hg : 0 < n₀) (hn₀ : n₀ ≤ w.heap.size) :
    Calls Tryd.prog 31 #[.agg #[.int .i64 n, .slice a us.length cap]] w fun e w' => e = .returned (.bool (codeOf n us != 0)) ∧ Below w.heap.size w w' := by
  have hb0 : Below w.heap.size w (w.alloc (.cells #[.int .i64 n, .slice a us.length cap] 24)) := (Below.refl _ _).alloc (Nat.le_refl _) _
  have hck := Check_any n a cap us n₀ hf _ (hT.below hb0 (by omega)) (hw.below (hb0.mono hn₀)) hg (by simp; omega)
  generalize codeOf n us = c at *
  have Hb := hide hb0
  clear hb0
  go_enter Tryd.func31, Tryd.ntmps31
  go_wp2_with (go_at_call 37; refine hck.mono ?_; rintro e w1 ⟨rfl, hb1⟩)
  go_ret
  exact ⟨rfl, Hb.out.trans (hb1.mono (by simp))⟩

end Go.Proofs.YtilffmalkegioaaDoor

namespace Go.Proofs.YtilffmalkegioaaDoor
open Go.RowKit Go.Shelf

theorem ZInts.step {A B : World} {a : Option Addr} {l : List Int} (h : ZInts A.heap.size A a l) (hb : Below A.heap.size A B) : ZInts B.heap.size B a l := (h.below hb).mono hb.size
/-- what the law says of the numbers: what was summed is undone, what was undone is summed -/
theorem rota_lists {us : List Nat} (ho : IsOrd us) (l : List B64) (hl : l.length = us.length) :
    vecL us.length (vm us.length (bd (vecL us.length (vm us.length (bd l) (zet us)))) (muM us)) = l ∧ vecL us.length (vm us.length (bd (vecL us.length (vm us.length (bd l) (muM us)))) (zet us)) = l := by
  have key : ∀ f g, EqN us.length (mm us.length f g) one → vecL us.length (vm us.length (bd (vecL us.length (vm us.length (bd l) f))) g) = l := fun f g h => by
    refine (vecL_is hl fun i hi => ?_).symm
    rw [vm_congr (v' := vm us.length (bd l) f) (fun x hx => bd_vecL _ hx) (EqN.refl _ _) hi, vm_back h _ hi]
  exact ⟨key _ _ (mu_right ho), key _ _ (mu_left ho)⟩
set_option maxRecDepth 100000 in
set_option maxHeartbeats 4000000 in
theorem mrota_bad (n : Int) (a : Option Addr) (cap : Nat) (us : List Nat) (a1 : Option Addr) (c1_ : Nat) (l1 : List B64) (n₀ : Nat) (hf : Fit us) (w : World) (hT : TabAt w) (hw : IsWords n₀ w a us) (z1 : ZInts n₀ w a1 (tiL l1)) (hg : 0 < n₀) (hn₀ : n₀ ≤ w.heap.size) (hc : codeOf n us ≠ 0) :
    Calls Tryd.prog 10 #[.agg #[.int .i64 n, .slice a us.length cap], .slice a1 l1.length c1_] w fun e w' => e = .returned (.bool true) ∧ Below w.heap.size w w' := by
  have k1 := fun W hw => sound_any n a cap us W.heap.size hf W hw (Nat.le_refl _)
  have k2 := fun W hT hw hg => refused_any n a cap us W.heap.size hf W hT hw hg (Nat.le_refl _)
  have e1 : (codeOf n us == 0) = false := by rw [beq_eq_false_iff_ne]; exact hc
  have e2 : (codeOf n us != 0) = true := by rw [bne_iff_ne]; exact hc
  rw [e1] at k1
  rw [e2] at k2
  clear hc e1 e2
  obtain ⟨W0, hW0⟩ : ∃ V, w.alloc (.cells #[.int .i64 n, .slice a us.length cap] 24) = V := ⟨_, rfl⟩
  obtain ⟨r0, hB, hs0⟩ := one_row w 24 (.int .i64 n) (.slice a us.length cap) hW0
  replace hw := (hw.below (hB.mono hn₀)).mono (show n₀ ≤ W0.heap.size by omega)
  replace z1 := (z1.below (hB.mono hn₀)).mono (show n₀ ≤ W0.heap.size by omega)
  replace hT := hT.below hB (by omega)
  replace hg : 0 < W0.heap.size := by omega
  clear hs0 hn₀
  have c0 := r0.cell (i := 0) rfl
  have c1 := r0.cell (i := 1) rfl
  go_enter Tryd.func10, Tryd.ntmps10
  go_wp2_with fail
  clear hW0
  refine (k1 _ hw).mono ?_
  rintro e w1 ⟨rfl, hb⟩
  clear c0 c1
  replace r0 := row_below r0 hb r0.lt
  replace hw := (hw.below hb).mono hb.size
  replace z1 := z1.step hb
  replace hT := hT.below hb hg
  replace hg := Nat.lt_of_lt_of_le hg hb.size
  replace hB := hB.trans (hb.mono hB.size)
  have c0 := r0.cell (i := 0) rfl
  have c1 := r0.cell (i := 1) rfl
  clear hb
  go_wp2_with fail
  refine (k2 _ hT hw hg).mono ?_
  rintro e w2 ⟨rfl, hb⟩
  clear c0 c1
  replace r0 := row_below r0 hb r0.lt
  replace hw := (hw.below hb).mono hb.size
  replace z1 := z1.step hb
  replace hT := hT.below hb hg
  replace hg := Nat.lt_of_lt_of_le hg hb.size
  replace hB := hB.trans (hb.mono hB.size)
  have c0 := r0.cell (i := 0) rfl
  have c1 := r0.cell (i := 1) rfl
  clear hb
  go_wp2_with fail
  go_ret
  exact ⟨rfl, hB⟩

set_option maxRecDepth 100000 in
set_option maxHeartbeats 4000000 in
theorem mrota_len (n : Nat) (a : Option Addr) (cap : Nat) (us : List Nat) (a1 : Option Addr) (c1_ : Nat) (l1 : List B64) (n₀ : Nat) (hn : n = us.length) (hf : Fit us) (w : World) (hT : TabAt w) (hw : IsWords n₀ w a us) (z1 : ZInts n₀ w a1 (tiL l1)) (hg : 0 < n₀) (hn₀ : n₀ ≤ w.heap.size) (hc : codeOf n us = 0) (hm : l1.length ≠ n) :
    Calls Tryd.prog 10 #[.agg #[.int .i64 n, .slice a n cap], .slice a1 l1.length c1_] w fun e w' => e = .returned (.bool true) ∧ Below w.heap.size w w' := by
  have ks := fun W hw => sound_any n a cap us W.heap.size hf W hw (Nat.le_refl _)
  have e1 : (codeOf n us == 0) = true := by rw [hc]; rfl
  rw [e1, ← hn] at ks
  clear e1
  have k1 := fun W hT hw hg => Sums_len n a cap us a1 c1_ l1.length W.heap.size hn hf W hT hw hg (Nat.le_refl _) hc hm
  have k2 := fun W hT hw hg => Undo_len n a cap us a1 c1_ l1.length W.heap.size hn hf W hT hw hg (Nat.le_refl _) hc hm
  unfold mobErr at k1 k2
  clear hc hn hm
  obtain ⟨W0, hW0⟩ : ∃ V, w.alloc (.cells #[.int .i64 n, .slice a n cap] 24) = V := ⟨_, rfl⟩
  obtain ⟨r0, hB, hs0⟩ := one_row w 24 (.int .i64 n) (.slice a n cap) hW0
  replace hw := (hw.below (hB.mono hn₀)).mono (show n₀ ≤ W0.heap.size by omega)
  replace z1 := (z1.below (hB.mono hn₀)).mono (show n₀ ≤ W0.heap.size by omega)
  replace hT := hT.below hB (by omega)
  replace hg : 0 < W0.heap.size := by omega
  clear hs0 hn₀
  have c0 := r0.cell (i := 0) rfl
  have c1 := r0.cell (i := 1) rfl
  go_enter Tryd.func10, Tryd.ntmps10
  go_wp2_with fail
  clear hW0
  refine (ks _ hw).mono ?_
  rintro e w1 ⟨rfl, hb⟩
  clear c0 c1
  replace r0 := row_below r0 hb r0.lt
  replace hw := (hw.below hb).mono hb.size
  replace z1 := z1.step hb
  replace hT := hT.below hb hg
  replace hg := Nat.lt_of_lt_of_le hg hb.size
  replace hB := hB.trans (hb.mono hB.size)
  have c0 := r0.cell (i := 0) rfl
  have c1 := r0.cell (i := 1) rfl
  clear hb
  go_wp2_with fail
  refine (k1 _ hT hw hg).mono ?_
  rintro e w2 ⟨rfl, hb⟩
  clear c0 c1
  replace r0 := row_below r0 hb r0.lt
  replace hw := (hw.below hb).mono hb.size
  replace z1 := z1.step hb
  replace hT := hT.below hb hg
  replace hg := Nat.lt_of_lt_of_le hg hb.size
  replace hB := hB.trans (hb.mono hB.size)
  have c0 := r0.cell (i := 0) rfl
  have c1 := r0.cell (i := 1) rfl
  clear hb
  go_wp2_with fail
  refine (k2 _ hT hw hg).mono ?_
  rintro e w3 ⟨rfl, hb⟩
  clear c0 c1
  replace r0 := row_below r0 hb r0.lt
  replace hw := (hw.below hb).mono hb.size
  replace z1 := z1.step hb
  replace hT := hT.below hb hg
  replace hg := Nat.lt_of_lt_of_le hg hb.size
  replace hB := hB.trans (hb.mono hB.size)
  have c0 := r0.cell (i := 0) rfl
  have c1 := r0.cell (i := 1) rfl
  clear hb
  go_wp2_with fail
  go_ret
  exact ⟨rfl, hB⟩

set_option maxRecDepth 100000 in
set_option maxHeartbeats 8000000 in
theorem mrota_tab (n : Nat) (a : Option Addr) (cap : Nat) (us : List Nat) (a1 : Option Addr) (c1_ : Nat) (l1 : List B64) (n₀ : Nat) (hn : n = us.length) (hf : Fit us) (w : World) (hT : TabAt w) (hw : IsWords n₀ w a us) (z1 : ZInts n₀ w a1 (tiL l1)) (hg : 0 < n₀) (hn₀ : n₀ ≤ w.heap.size) (hc : codeOf n us = 0) (hm : l1.length = n) :
    Calls Tryd.prog 10 #[.agg #[.int .i64 n, .slice a n cap], .slice a1 l1.length c1_] w fun e w' => e = .returned (.bool true) ∧ Below w.heap.size w w' := by
  have ks := fun W hw => sound_any n a cap us W.heap.size hf W hw (Nat.le_refl _)
  have e1 : (codeOf n us == 0) = true := by rw [hc]; rfl
  rw [e1, ← hn] at ks
  clear e1
  have hl : n ≤ 16 := by have := (code_zero hc).2.1; omega
  have hnn : n * n ≤ 256 := Nat.mul_le_mul hl hl
  have ho : IsOrd us := (code_zero hc).2.2.2.2
  obtain ⟨e1, e2⟩ : vecL n (vm n (bd (vecL n (vm n (bd l1) (zet us)))) (muM us)) = l1 ∧ vecL n (vm n (bd (vecL n (vm n (bd l1) (muM us)))) (zet us)) = l1 := by
    subst hn; exact rota_lists ho l1 hm
  have k1 := fun W hT hw z1 hg => Sums_ok n a cap us a1 c1_ (bd l1) W.heap.size hn hf W hT hw (ZInts.vec z1 (Nat.le_refl _) hm) hg (Nat.le_refl _) hc
  have k2 := fun W hT hw z1 hg => Undo_ok n a cap us a1 c1_ (bd l1) W.heap.size hn hf W hT hw (ZInts.vec z1 (Nat.le_refl _) hm) hg (Nat.le_refl _) hc
  have k3 := fun ax cx W hT hw z2 hg => Undo_ok n a cap us ax cx (bd (vecL n (vm n (bd l1) (zet us)))) W.heap.size hn hf W hT hw (ZInts.vec z2 (Nat.le_refl _) (vecL_len _ _)) hg (Nat.le_refl _) hc
  have k4 := fun ax cx W hT hw z3 hg => Sums_ok n a cap us ax cx (bd (vecL n (vm n (bd l1) (muM us)))) W.heap.size hn hf W hT hw (ZInts.vec z3 (Nat.le_refl _) (vecL_len _ _)) hg (Nat.le_refl _) hc
  have k5 := fun W hT hw hg => Mu_ok n a cap us W.heap.size hn hf W hT hw hg (Nat.le_refl _) hc
  rw [e1] at k3
  rw [e2] at k4
  have hvm : ∀ i, i < n → bd (vecL n (vm n (bd l1) (muM us))) i = sm n (fun x => bd l1 x * mat n (tabL n (muM us)) x i) := fun i hi => by
    rw [bd_vecL _ hi]; exact sm_congr fun x hx => by rw [mat_tabL _ x hx i hi]
  have hlb := vecL_len n (vm n (bd l1) (muM us))
  have hlm := tabL_len n (muM us)
  generalize vecL n (vm n (bd l1) (zet us)) = A at *
  generalize vecL n (vm n (bd l1) (muM us)) = B at *
  generalize tabL n (muM us) = Q at *
  have hrows : ∀ y, y < n → y * n + n ≤ n * n := fun y hy => by
    have := Nat.mul_le_mul_right n (show y + 1 ≤ n from hy)
    rwa [Nat.succ_mul] at this
  rw [hm]
  have f1 : ((n : Int) != (n : Int)) = false := by simp
  clear hc hn e1 e2 ho
  obtain ⟨W0, hW0⟩ : ∃ V, w.alloc (.cells #[.int .i64 n, .slice a n cap] 24) = V := ⟨_, rfl⟩
  obtain ⟨r0, hB, hs0⟩ := one_row w 24 (.int .i64 n) (.slice a n cap) hW0
  replace hw := (hw.below (hB.mono hn₀)).mono (show n₀ ≤ W0.heap.size by omega)
  replace z1 := (z1.below (hB.mono hn₀)).mono (show n₀ ≤ W0.heap.size by omega)
  replace hT := hT.below hB (by omega)
  replace hg : 0 < W0.heap.size := by omega
  clear hs0 hn₀
  have c0 := r0.cell (i := 0) rfl
  have c1 := r0.cell (i := 1) rfl
  go_enter Tryd.func10, Tryd.ntmps10
  go_wp2_with fail
  clear hW0
  refine (ks _ hw).mono ?_
  rintro e w1 ⟨rfl, hb⟩
  clear c0 c1
  replace r0 := row_below r0 hb r0.lt
  replace hw := (hw.below hb).mono hb.size
  replace z1 := z1.step hb
  replace hT := hT.below hb hg
  replace hg := Nat.lt_of_lt_of_le hg hb.size
  replace hB := hB.trans (hb.mono hB.size)
  have c0 := r0.cell (i := 0) rfl
  have c1 := r0.cell (i := 1) rfl
  clear hb
  go_wp2_with fail
  refine (k1 _ hT hw z1 hg).mono ?_
  rintro e w2 ⟨p, rfl, hp, hb, hr⟩
  clear c0 c1
  replace r0 := row_below r0 hb r0.lt
  replace hw := (hw.below hb).mono hb.size
  replace z1 := z1.step hb
  replace hT := hT.below hb hg
  replace hg := Nat.lt_of_lt_of_le hg hb.size
  replace hB := hB.trans (hb.mono hB.size)
  have c0 := r0.cell (i := 0) rfl
  have c1 := r0.cell (i := 1) rfl
  have z2 := hr.b hr.lt
  clear hr hp
  clear hb
  go_wp2_with fail
  refine (k2 _ hT hw z1 hg).mono ?_
  rintro e w3 ⟨q, rfl, hp, hb, hr⟩
  clear c0 c1
  replace r0 := row_below r0 hb r0.lt
  replace hw := (hw.below hb).mono hb.size
  replace z1 := z1.step hb
  replace z2 := z2.step hb
  replace hT := hT.below hb hg
  replace hg := Nat.lt_of_lt_of_le hg hb.size
  replace hB := hB.trans (hb.mono hB.size)
  have c0 := r0.cell (i := 0) rfl
  have c1 := r0.cell (i := 1) rfl
  have z3 := hr.b hr.lt
  clear hr hp
  clear hb
  go_wp2_with fail
  refine (k3 _ _ _ hT hw z2 hg).mono ?_
  rintro e w4 ⟨r, rfl, hp, hb, hr⟩
  clear c0 c1
  replace r0 := row_below r0 hb r0.lt
  replace hw := (hw.below hb).mono hb.size
  replace z1 := z1.step hb
  replace z2 := z2.step hb
  replace z3 := z3.step hb
  replace hT := hT.below hb hg
  replace hg := Nat.lt_of_lt_of_le hg hb.size
  replace hB := hB.trans (hb.mono hB.size)
  have c0 := r0.cell (i := 0) rfl
  have c1 := r0.cell (i := 1) rfl
  have z4 := hr.b hr.lt
  clear hr hp
  clear hb
  go_wp2_with fail
  refine (k4 _ _ _ hT hw z3 hg).mono ?_
  rintro e w5 ⟨t, rfl, hp, hb, hr⟩
  clear c0 c1
  replace r0 := row_below r0 hb r0.lt
  replace hw := (hw.below hb).mono hb.size
  replace z1 := z1.step hb
  replace z2 := z2.step hb
  replace z3 := z3.step hb
  replace z4 := z4.step hb
  replace hT := hT.below hb hg
  replace hg := Nat.lt_of_lt_of_le hg hb.size
  replace hB := hB.trans (hb.mono hB.size)
  have c0 := r0.cell (i := 0) rfl
  have c1 := r0.cell (i := 1) rfl
  have z5 := hr.b hr.lt
  clear hr hp
  clear hb
  go_wp2_with fail
  refine (k5 _ hT hw hg).mono ?_
  rintro e w6 ⟨u, rfl, hp, hb, hr⟩
  clear c0 c1
  replace r0 := row_below r0 hb r0.lt
  replace hw := (hw.below hb).mono hb.size
  replace z1 := z1.step hb
  replace z2 := z2.step hb
  replace z3 := z3.step hb
  replace z4 := z4.step hb
  replace z5 := z5.step hb
  replace hT := hT.below hb hg
  replace hg := Nat.lt_of_lt_of_le hg hb.size
  replace hB := hB.trans (hb.mono hB.size)
  have c0 := r0.cell (i := 0) rfl
  have c1 := r0.cell (i := 1) rfl
  have z6 := hr.b hr.lt
  clear hr hp
  clear hb
  go_wp2_with fail
  clear k1 k2 k3 k4 k5 ks
  have Wz := hB.size
  go_loopw [13] (fun i wr => ∃ k : Nat, k ≤ n ∧ i = .int .i64 k ∧ Below w6.heap.size w6 wr) (fun i _ => n - (intOf i).toNat)
  case atStart => exact ⟨0, Nat.zero_le _, rfl, Below.refl _ _⟩
  case round =>
    clear c0 c1
    obtain ⟨k, hk, rfl, hb⟩ := hrel
    have g0 := row_below r0 hb r0.lt
    have c0 := g0.cell (i := 0) rfl
    have c1 := g0.cell (i := 1) rfl
    by_cases hlt : k < n
    · have hk2 := hvm k hlt
      go_wp2_with fail
      clear c0 c1
      go_loopw [15, 14] (fun i s wr => ∃ x : Nat, x ≤ n ∧ i = .int .i64 x ∧ s = .int .i64 (sm x (fun x => bd l1 x * mat n Q x k)).toInt ∧ Below w6.heap.size w6 wr) (fun i _ _ => n - (intOf i).toNat)
      case atStart => exact ⟨0, Nat.zero_le _, rfl, rfl, hb⟩
      case round =>
        clear hb g0
        obtain ⟨x, hx, rfl, rfl, hb⟩ := hrel
        have g0 := row_below r0 hb r0.lt
        have c0 := g0.cell (i := 0) rfl
        have c1 := g0.cell (i := 1) rfl
        by_cases hxt : x < n
        · obtain ⟨fb, fo, e1, hfb, hfc⟩ := (z1.below hb).cellsB (i := x) (by omega)
          subst e1
          obtain ⟨gb, go, e2, hgb, hgc⟩ := (z6.below hb).cellsB (i := x * n + k) (by rw [hlm]; exact plc_lt hxt hlt)
          cases e2
          have kf := cell_regrown (hfc x (by omega))
          have kg := hgc (x * n + k) (by rw [hlm]; exact plc_lt hxt hlt)
          rw [Nat.zero_add] at kg
          have kg := cell_regrown kg
          have kc := cell_regrown c0
          have hrx := hrows x hxt
          have hpx := plc_lt hxt hlt
          have HX := hide (show sm (x + 1) (fun x => bd l1 x * mat n Q x k) = sm x (fun x => bd l1 x * mat n Q x k) + bd l1 x * bd Q (x * n + k) from rfl)
          have hmul := wrap_mul (bd l1 x) (bd Q (x * n + k))
          have hadd := wrap_add (sm x (fun x => bd l1 x * mat n Q x k)) (bd l1 x * bd Q (x * n + k))
          generalize sm x (fun x => bd l1 x * mat n Q x k) = S0 at *
          generalize bd l1 x * bd Q (x * n + k) = tv at *
          generalize hs1 : S0 + tv = s1 at *
          generalize tv.toInt = tvi at *
          generalize (bd l1 x).toInt = fv at *
          generalize (bd Q (x * n + k)).toInt = gv at *
          clear hfc hgc z1 z2 z3 z4 z5 z6
          go_wp2_with fail
          refine wp_region_quiet_below (by kernel_rfl) (by kernel_rfl) ?_
          repeat (go_big_quiet_step (fail))
          refine wpQuiet_nil ?_
          intro _ hw'
          obtain ⟨⟨dq, osq⟩, hw''⟩ := hw'
          subst hw''
          go_wp2_with fail
          refine ⟨⟨x + 1, by omega, by go_num, by rw [HX.out, hadd], hb.trans ((below_regrown _ dq osq).mono hb.size)⟩, by simp [intOf]; omega⟩
        · obtain rfl : x = n := by omega
          obtain ⟨fb, fo, e1, hfb, hfc⟩ := (z3.below hb).cellsB (i := k) (by omega)
          cases e1
          have kf := hfc k (by omega)
          rw [hk2, Nat.zero_add] at kf
          have hne : ((sm x (fun x' => bd l1 x' * mat x Q x' k)).toInt != (sm x (fun x' => bd l1 x' * mat x Q x' k)).toInt) = false := by simp
          generalize (sm x (fun x' => bd l1 x' * mat x Q x' k)).toInt = sv at *
          clear hfc
          go_wp2_with fail
          refine ⟨⟨k + 1, by omega, by go_num, hb⟩, by simp [intOf]; omega⟩
    · obtain rfl : k = n := by omega
      replace z1 := z1.step hb
      replace z4 := z4.step hb
      replace z5 := z5.step hb
      replace hB := hB.trans (hb.mono hB.size)
      go_wp2_with fail
      refine (Longs_same _ _ _ _ l1 k _ hm (by omega) _ z4 z1 (Nat.le_refl _)).mono ?_
      rintro e w7 ⟨rfl, hb7⟩
      replace z1 := z1.step hb7
      replace z5 := z5.step hb7
      replace hB := hB.trans (hb7.mono hB.size)
      clear c0 c1
      go_wp2_with fail
      refine (Longs_same _ _ _ _ l1 k _ hm (by omega) _ z5 z1 (Nat.le_refl _)).mono ?_
      rintro e w8 ⟨rfl, hb8⟩
      replace hB := hB.trans (hb8.mono hB.size)
      go_wp2_with fail
      go_ret
      exact ⟨rfl, hB⟩

theorem mrota_ok (n : Nat) (a : Option Addr) (cap : Nat) (us : List Nat) (a1 : Option Addr) (c1_ : Nat) (l1 : List B64) (n₀ : Nat) (hn : n = us.length) (hf : Fit us) (w : World) (hT : TabAt w) (hw : IsWords n₀ w a us) (z1 : ZInts n₀ w a1 (tiL l1)) (hg : 0 < n₀) (hn₀ : n₀ ≤ w.heap.size) (hc : codeOf n us = 0) :
    Calls Tryd.prog 10 #[.agg #[.int .i64 n, .slice a n cap], .slice a1 l1.length c1_] w fun e w' => e = .returned (.bool true) ∧ Below w.heap.size w w' := by
  by_cases h : l1.length = n
  · exact mrota_tab n a cap us a1 c1_ l1 n₀ hn hf w hT hw z1 hg hn₀ hc h
  · exact mrota_len n a cap us a1 c1_ l1 n₀ hn hf w hT hw z1 hg hn₀ hc h
/-- **MobiusRota answers true, for every order and any numbers, and writes nothing that was there** -/
theorem mrota_any (n : Int) (a : Option Addr) (cap : Nat) (us : List Nat) (a1 : Option Addr) (c1_ : Nat) (l1 : List B64) (n₀ : Nat) (hf : Fit us) (_lz1 : l1.length ≤ 9223372036854775807) (w : World) (hT : TabAt w) (hw : IsWords n₀ w a us) (z1 : ZInts n₀ w a1 (tiL l1)) (hg : 0 < n₀) (hn₀ : n₀ ≤ w.heap.size) :
    Calls Tryd.prog 10 #[.agg #[.int .i64 n, .slice a us.length cap], .slice a1 l1.length c1_] w fun e w' => e = .returned (.bool true) ∧ Below w.heap.size w w' := by
  by_cases hc : codeOf n us = 0
  · obtain rfl := (code_zero hc).2.2.1
    exact mrota_ok us.length a cap us a1 c1_ l1 n₀ rfl hf w hT hw z1 hg hn₀ hc
  · exact mrota_bad n a cap us a1 c1_ l1 n₀ hf w hT hw z1 hg hn₀ hc
end Go.Proofs.YtilffmalkegioaaDoor
