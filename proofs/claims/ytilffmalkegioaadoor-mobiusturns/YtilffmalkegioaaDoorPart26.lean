/- The contract of the document's OrderSorted: all elements, each time the least one that may come. The document's MobiusInverse. -/
import Derived.Test.YtilffmalkegioaaDoorPart25
import Derived.Test.YtilffmalkegioaaDoorPart8
import Derived.Test.YtilffmalkegioaaDoorPart12
import Derived.Test.YtilffmalkegioaaDoorPart23
import Derived.Test.YtilffmalkegioaaDoorPart19
import Derived.Test.YtilffmalkegioaaDoorPart24
namespace Go.Proofs.YtilffmalkegioaaDoor
open Go.RowKit Go.Shelf

/-- what best is when the elements from i on have been looked at -/
def bestI (us : List Nat) (done : List Nat) (i : Nat) : Int := match ((List.range us.length).filter (fun j => decide (i ≤ j))).find? (readyB (underB us) us.length done) with | some m => (m : Int) | none => -1
theorem best_end (us : List Nat) (done : List Nat) : bestI us done us.length = -1 := by
  unfold bestI
  have : (List.range us.length).filter (fun j => decide (us.length ≤ j)) = [] := by
    rw [List.filter_eq_nil_iff]; intro a ha; have := List.mem_range.1 ha; simp; omega
  rw [this]; rfl
theorem best_split {n i : Nat} (h : i < n) : (List.range n).filter (fun j => decide (i ≤ j)) = i :: (List.range n).filter (fun j => decide (i + 1 ≤ j)) := by
  refine sorted_ext (List.Pairwise.filter _ List.pairwise_lt_range) ?_ fun x => ?_
  · rw [List.pairwise_cons]
    exact ⟨fun y hy => by have := (List.mem_filter.1 hy).2; simp at this; omega, List.Pairwise.filter _ List.pairwise_lt_range⟩
  · simp only [List.mem_filter, List.mem_range, List.mem_cons, decide_eq_true_eq]
    omega
theorem best_yes {us done : List Nat} {i : Nat} (h : i < us.length) (hr : readyB (underB us) us.length done i = true) : bestI us done i = (i : Int) := by
  unfold bestI; rw [best_split h, List.find?_cons, hr]
theorem best_no {us done : List Nat} {i : Nat} (h : i < us.length) (hr : readyB (underB us) us.length done i = false) : bestI us done i = bestI us done (i + 1) := by
  unfold bestI; rw [best_split h, List.find?_cons, hr]
theorem best_zero {us done : List Nat} (h : ∃ i, i < us.length ∧ readyB (underB us) us.length done i = true) : bestI us done 0 = ((nextF (underB us) us.length done : Nat) : Int) := by
  unfold bestI nextF
  have : (List.range us.length).filter (fun j => decide (0 ≤ j)) = List.range us.length := by rw [List.filter_eq_self]; intro a _; simp
  rw [this]
  cases hf : (List.range us.length).find? (readyB (underB us) us.length done) with
  | some m => rfl
  | none =>
    obtain ⟨i, hi, hr⟩ := h
    have := List.find?_eq_none.1 hf i (List.mem_range.2 hi)
    rw [hr] at this; simp at this
/-- is i still ready when those below j have been looked at? -/
def readyTo (us done : List Nat) (i j : Nat) : Bool := !memB done i && (List.range j).all fun x => !(underB us x i && !memB done x)
theorem readyTo_zero (us done : List Nat) (i : Nat) : readyTo us done i 0 = !memB done i := by unfold readyTo; simp
theorem readyTo_succ (us done : List Nat) (i j : Nat) : readyTo us done i (j + 1) = (readyTo us done i j && !(underB us j i && !memB done j)) := by
  unfold readyTo; rw [List.range_succ, List.all_append, Bool.and_assoc]; simp
theorem readyTo_all (us done : List Nat) (i : Nat) : readyTo us done i us.length = readyB (underB us) us.length done i := rfl
def sliceLen : Value → Nat
  | .slice _ n _ => n
  | _ => 0

set_option maxRecDepth 100000 in
set_option maxHeartbeats 2000000 in
theorem OrderSorted_any (a : Option Addr) (cap : Nat) (us : List Nat) (n₀ : Nat) (hf : Fit us) (hl : us.length ≤ 16) (hord : IsOrd us) (w : World) (hw : IsWords n₀ w a us) (hn₀ : n₀ ≤ w.heap.size) :
    Calls Tryd.prog 43 #[.agg #[.int .i64 us.length, .slice a us.length cap]] w fun e w' => ∃ av cv, e = .returned (.slice av us.length cv) ∧ Below w.heap.size w w' ∧ w'.ownsRow w.heap.size 3 1 (.slice av us.length cv) us.length (ivals (sortF (underB us) us.length us.length)) := by
  obtain ⟨i0, hi, hz0, hz1, hz2⟩ := info_parts info_int
  have hA := acy_under hord
  go_enter Tryd.func43, Tryd.ntmps43
  go_wp2
  go_loopw [3] (fun v wr => ∃ (k : Nat) (L : List Nat) (av : Option Addr) (cv : Nat), k ≤ us.length ∧ L = sortF (underB us) us.length k ∧ v = .slice av k cv ∧ InBox w.heap.size w wr us.length a us.length cap ∧ wr.ownsRow (w.heap.size + 1) 3 1 (.slice av k cv) k (ivals L)) (fun v _ => us.length - sliceLen v)
  case atStart => exact ⟨0, [], none, 0, Nat.zero_le _, rfl, rfl, ⟨by simp, by simp, (Below.refl _ _).alloc (Nat.le_refl _) _, by simp⟩, World.ownsRow_nil ..⟩
  case round =>
    obtain ⟨k, L, av, cv, hk, hL, rfl, hbox, hown⟩ := hrel
    have HL := hide hL
    clear hL
    have hc0 := hbox.c0
    have hc1 := hbox.c1
    have hLlen : L.length = k := by rw [HL.out, sortF_len]
    by_cases hlt : k < us.length
    · have HLlen := hide hLlen
      clear hLlen
      go_wp2
      go_loopw [4, 5] (fun b i wr => ∃ i' : Nat, i' ≤ us.length ∧ b = .int .i64 (bestI us L i') ∧ i = .int .i64 ((i' : Int) - 1) ∧ InBox w.heap.size w wr us.length a us.length cap ∧ wr.ownsRow (w.heap.size + 1) 3 1 (.slice av k cv) k (ivals L)) (fun _ i _ => (intOf i + 1).toNat)
      case atStart => exact ⟨us.length, Nat.le_refl _, by rw [best_end], rfl, hbox, hown⟩
      case round =>
        clear hc0 hc1 hbox hown
        obtain ⟨i', hi', rfl, rfl, hbox, hown⟩ := hrel
        have hc0 := hbox.c0
        have hc1 := hbox.c1
        cases i' with
        | zero =>
          have hex := hA L (left_some (by rw [HLlen.out]; exact hlt))
          have hbz := best_zero hex
          rw [hbz]
          have hnx := (next_spec hex).1
          generalize hnn : nextF (underB us) us.length L = nx at *
          have Hnn := hide hnn
          clear hnn hex hbz
          go_wp2_with (at_builtin; refine wpList_append_own _ rfl _ _ 56 rfl (w.heap.size + 1) 3 i0 (.int .i64 0) 1 8 Tryd.underlying56 hi hz0 hz1 hz2 rfl (by decide) _ _ _ rfl (hown.alloc _) ⟨wr.heap.size, 0, none⟩ 1 1 [.int .i64 (nx : Nat)] rfl rfl (cell_one_new _ _ _) (fun u hu => by simp at hu; subst hu; rfl) (by unfold maxLen; omega) (by omega) (by have := hbox.lt; simp; omega) ?_; intro v' w3 hown3 hgrow3 _; obtain ⟨g', cap', rfl⟩ := ownsRow_succ hown3)
          have hbox3 : InBox w.heap.size w w3 us.length a us.length cap := (hbox.step hbox.le ((Below.refl _ _).alloc (Nat.le_refl _) (.cells #[.int .i64 (nx : Nat)] 3))).grown hgrow3 fun b eb => by
            have h1 : w.heap.size + 1 ≤ b := by
              apply Nat.le_of_not_lt; intro hbl
              exact ownBlock_ge hown (b := b) hbl eb.symm
            omega
          exact ⟨⟨k + 1, L ++ [nx], some ⟨g', 0, none⟩, cap', by omega, by rw [← Hnn.out, HL.out]; rfl, rfl, hbox3, by rw [ivals_snoc]; exact hown3⟩, by simp only [sliceLen]; omega⟩
        | succ m =>
          have hm1 : ((m + 1 : Nat) : Int) - 1 = (m : Int) := by omega
          rw [hm1]
          clear hm1
          have hmn : m < us.length := by omega
          have hhas := Has_any av cv L m wr.heap.size (by rw [HLlen.out]; omega) wr (ownsRow_ints hown)
          rw [HLlen.out] at hhas
          go_wp2_with (go_at_call 61; refine hhas.mono ?_; rintro e w' ⟨rfl, rfl⟩)
          go_loopw [6, 7] (fun r j wr => ∃ j' : Nat, j' ≤ us.length ∧ j = .int .i64 j' ∧ r = .bool (readyTo us L m j') ∧ InBox w.heap.size w wr us.length a us.length cap ∧ wr.ownsRow (w.heap.size + 1) 3 1 (.slice av k cv) k (ivals L)) (fun _ j _ => us.length - (intOf j).toNat)
          case atStart => exact ⟨0, Nat.zero_le _, rfl, by rw [readyTo_zero], hbox, hown⟩
          case round =>
            clear hhas hc0 hc1 hbox hown
            obtain ⟨j, hj, rfl, rfl, hbox, hown⟩ := hrel
            have hc0 := hbox.c0
            have hc1 := hbox.c1
            by_cases hlj : j < us.length
            · have hun := Under_any us.length a cap us j m n₀ hf hlj (by omega) wr (hw.below (hbox.bel.mono hn₀)) (by have := hbox.le; omega)
              have Hs := hide (readyTo_succ us L m j)
              cases hu : underB us j m with
              | false =>
                rw [hu] at hun
                have Hu := hide hu
                clear hu
                go_wp2_with (go_at_call 44; refine hun.mono ?_; rintro e w1 ⟨rfl, hb1⟩)
                exact ⟨⟨j + 1, by omega, by go_num, by rw [Hs.out, Hu.out]; simp, hbox.step hbox.le hb1, ownsRow_below hown hb1⟩, by simp [intOf]; omega⟩
              | true =>
                rw [hu] at hun
                have Hu := hide hu
                clear hu
                cases hm : memB L j with
                | true =>
                  have Hm := hide hm
                  clear hm
                  go_wp2_with (first
                    | (go_at_call 44; refine hun.mono ?_; rintro e w1 ⟨rfl, hb1⟩; have hown1 := ownsRow_below hown hb1; have hh := Has_any av cv L j w1.heap.size (by rw [HLlen.out]; omega) w1 (ownsRow_ints hown1); rw [HLlen.out, Hm.out] at hh)
                    | (go_at_call 61; refine hh.mono ?_; rintro e w' ⟨rfl, rfl⟩))
                  exact ⟨⟨j + 1, by omega, by go_num, by rw [Hs.out, Hu.out, Hm.out]; simp, hbox.step hbox.le hb1, hown1⟩, by simp [intOf]; omega⟩
                | false =>
                  have Hm := hide hm
                  clear hm
                  go_wp2_with (first
                    | (go_at_call 44; refine hun.mono ?_; rintro e w1 ⟨rfl, hb1⟩; have hown1 := ownsRow_below hown hb1; have hh := Has_any av cv L j w1.heap.size (by rw [HLlen.out]; omega) w1 (ownsRow_ints hown1); rw [HLlen.out, Hm.out] at hh)
                    | (go_at_call 61; refine hh.mono ?_; rintro e w' ⟨rfl, rfl⟩))
                  exact ⟨⟨j + 1, by omega, by go_num, by rw [Hs.out, Hu.out, Hm.out]; simp, hbox.step hbox.le hb1, hown1⟩, by simp [intOf]; omega⟩
            · obtain rfl : j = us.length := by omega
              rw [readyTo_all]
              cases hr : readyB (underB us) us.length L m with
              | true =>
                have Hb := hide (best_yes hmn hr)
                clear hr
                go_wp2
                exact ⟨⟨m, by omega, by rw [Hb.out], rfl, hbox, hown⟩, by simp [intOf]⟩
              | false =>
                have Hb := hide (best_no hmn hr)
                clear hr
                go_wp2
                exact ⟨⟨m, by omega, by rw [Hb.out], rfl, hbox, hown⟩, by simp [intOf]⟩
    · obtain rfl : k = us.length := by omega
      go_wp2
      go_ret
      have e1 := HL.out
      subst e1
      exact ⟨av, cv, rfl, hbox.bel, ownsRow_base hown (by omega)⟩
end Go.Proofs.YtilffmalkegioaaDoor

namespace Go.Proofs.YtilffmalkegioaaDoor
open Go.RowKit Go.Shelf

/-- 1 or -1 where a is b -/
def PM (n : Nat) (f : Mat) : Prop := ∀ a, a < n → f a a = 1 ∨ f a a = -1
theorem PM.unit {n : Nat} {f : Mat} (h : PM n f) : Unit1 n f := fun a ha => by
  rcases h a ha with e | e <;> rw [e] <;> decide
theorem pm_toInt {x : B64} : (x.toInt = 1 ↔ x = 1) ∧ (x.toInt = -1 ↔ x = -1) := by
  constructor
  · rw [← toInt_one]; exact toInt_eq
  · rw [← toInt_none]; exact toInt_eq
/-- what is added at x -/
def ivAt (us : List Nat) (F G : Mat) (a b x : Nat) : B64 := if hasB (wd us a) x && underB us x b then G a x * F x b else 0
theorem inv_leftH {us l : List Nat} (ho : IsOrd us) (hL : Line us l) {F : Mat} (hF : Tab us F) (hu : Unit1 us.length F) {a b : Nat} (ha : a < us.length) (hb : b < us.length) (hne : a ≠ b) :
    -(sm us.length (ivAt us F (invG F l) a b)) * F b b = invG F l a b := by
  have h1 := inv_left ho hL hF hu a ha b hb
  have hT := inv_tab ho hL hF
  rw [one_ne hne] at h1
  unfold mm at h1
  have e1 : (sm us.length fun x => invG F l a x * F x b) = sm us.length (ivAt us F (invG F l) a b) + invG F l a b * F b b := by
    have e2 : (sm us.length fun x => invG F l a x * F x b) = sm us.length fun x => ivAt us F (invG F l) a b x + (if x = b then invG F l a b * F b b else 0) := sm_congr fun x hx => by
      unfold ivAt
      by_cases e : x = b
      · subst e
        have : underB us x x = false := by unfold underB; simp
        rw [this]; simp
      · rw [if_neg e]
        by_cases h1 : leW us a x
        · by_cases h2 : leW us x b
          · have : underB us x b = true := by unfold underB leW at *; simp [e, h2]
            unfold leW at h1
            rw [this, h1]; simp
          · rw [hF x hx b hb h2]; simp
        · rw [hT a ha x hx h1]; simp
    rw [e2, sm_add, sm_one hb fun x _ hne => if_neg hne, if_pos rfl]
  rw [e1] at h1
  have h2 := hu b hb
  generalize sm us.length (ivAt us F (invG F l) a b) = S at *
  generalize F b b = d at *
  generalize invG F l a b = g at *
  have h3 : -S = g * d := by
    have h4 : -S + (S + g * d) = g * d := by grind
    rw [h1] at h4
    rw [← h4]; simp
  rw [h3, BitVec.mul_assoc, h2]; simp
theorem line_before {us l : List Nat} (hL : Line us l) {m x : Nat} (hm : m < l.length) (hx : x < us.length) (h : underB us x (wd l m) = true) : x ∈ l.take m := by
  have hxl := (hL.mem x).2 hx
  rw [← List.take_append_drop m l] at hxl
  rcases List.mem_append.1 hxl with h1 | h1
  · exact h1
  · exfalso
    rw [drop_wd hm] at h1
    unfold underB at h
    rw [Bool.and_eq_true] at h
    have hne : x ≠ wd l m := by simpa using h.1
    rcases List.mem_cons.1 h1 with e | e
    · exact hne e
    · have hup := hL.up
      rw [← List.take_append_drop m l, List.pairwise_append, drop_wd hm, List.pairwise_cons] at hup
      exact hup.2.1.1 x e h.2

set_option maxRecDepth 100000 in
set_option maxHeartbeats 4000000 in
theorem RInverse_none (n : Nat) (a : Option Addr) (cap : Nat) (us : List Nat) (af : Option Addr) (cf : Nat) (F : List B64) (n₀ : Nat) (hn : n = us.length) (hf : Fit us) (ho : IsOrd us) (hl : n ≤ 16) (hlF : F.length = n * n) (hno : ¬ PM n (mat n F)) (w : World) (hw : IsWords n₀ w a us) (hvF : ZInts n₀ w af (tiL F)) (hn₀ : n₀ ≤ w.heap.size) :
    Calls Tryd.prog 18 #[.agg #[.int .i64 n, .slice a n cap], .slice af (n * n) cf] w fun e w' => e = .returned (.tuple #[.slice none 0 0, .bool false]) ∧ Below w.heap.size w w' := by
  have h2 : n * n ≤ 256 := Nat.mul_le_mul hl hl
  have hsort := fun (W : World) (hW : IsWords n₀ W a us) (hs : n₀ ≤ W.heap.size) => OrderSorted_any a cap us n₀ hf (by omega) ho W hW hs
  rw [← hn] at hsort
  have hrows : ∀ y, y < n → y * n + n ≤ n * n := fun y hy => by
    have := Nat.mul_le_mul_right n (show y + 1 ≤ n from hy)
    rwa [Nat.succ_mul] at this
  have hz : (n : Int) * (n : Int) = ((n * n : Nat) : Int) := by push_cast; rfl
  have hmk := run_make_row' (P := Tryd.prog) 25 2 (.int .i64 0) 8 Tryd.underlying25 info_i64 rfl .i64 .i64 (n * n) (by omega) (by omega)
  simp only [← hz] at hmk
  have hwz : wrap64 ((n : Int) * (n : Int)) = (n : Int) * (n : Int) := by rw [hz, IntWalk.wrap64_in _ (by omega)]
  clear hz hn
  obtain ⟨W0, hW0⟩ : ∃ W0, w.alloc (.cells #[.int .i64 n, .slice a n cap] 24) = W0 := ⟨_, rfl⟩
  obtain ⟨r0, hb0, hs0⟩ := one_row w 24 (.int .i64 n) (.slice a n cap) hW0
  obtain ⟨W1, hW1⟩ : ∃ W1, W0.alloc (.cells (madeCells #[.int .i64 0] (n * n)) 2) = W1 := ⟨_, rfl⟩
  have hb1 : Below w.heap.size w W1 := by rw [← hW1]; exact hb0.alloc (by omega) _
  have q0 : Row W1 w.heap.size 24 [.int .i64 n, .slice a n cap] := by rw [← hW1]; exact r0.alloc _
  have hs1 := hb1.size
  have c0 := r0.cell (i := 0) rfl
  have c1 := r0.cell (i := 1) rfl
  have d0 := q0.cell (i := 0) rfl
  have d1 := q0.cell (i := 1) rfl
  go_enter Tryd.func18, Tryd.ntmps18
  go_wp2_with fail
  refine (hsort _ (hw.below (hb1.mono hn₀)) (by omega)).mono ?_
  rintro e w2 ⟨sv, sc, rfl, hb2, -⟩
  have hB2 := hb1.trans (hb2.mono hs1)
  have hF2 := hvF.below (hB2.mono hn₀)
  clear hsort hmk c0 c1 d0 d1 hwz hb2
  go_wp2_with fail
  clear hW0 hW1
  go_loopw [9] (fun i wr => ∃ k : Nat, k ≤ n ∧ i = .int .i64 k ∧ wr = w2 ∧ ∀ a, a < k → mat n F a a = 1 ∨ mat n F a a = -1) (fun i _ => n - (intOf i).toNat)
  case atStart => exact ⟨0, Nat.zero_le _, rfl, rfl, fun a ha => absurd ha (Nat.not_lt_zero _)⟩
  case round =>
    obtain ⟨k, hk, rfl, rfl, hK⟩ := hrel
    by_cases hlt : k < n
    · have hrk := hrows k hlt
      obtain ⟨fb, fo, rfl, hfb, hfc⟩ := hF2.cellsB (i := k * n + k) (by rw [hlF]; exact plc_lt hlt hlt)
      have kf := hfc (k * n + k) (by rw [hlF]; exact plc_lt hlt hlt)
      have e1 := pm_toInt (x := bd F (k * n + k))
      clear hfc
      by_cases h1 : bd F (k * n + k) = 1
      · have g1 : ((bd F (k * n + k)).toInt != 1) = false := by rw [h1]; rfl
        have HK := hide hK
        have H1 := hide (show mat n F k k = 1 from h1)
        clear hK h1 e1
        generalize (bd F (k * n + k)).toInt = x at *
        go_wp2_with fail
        go_roundw
        case rel => exact ⟨k + 1, by omega, by go_num, trivial, fun a ha => by
          by_cases e : a = k
          · subst e; exact .inl H1.out
          · exact HK.out a (by omega)⟩
        case measure => simp [intOf]; omega
      · by_cases h2' : bd F (k * n + k) = -1
        · have g1 : ((bd F (k * n + k)).toInt != 1) = true := by rw [h2']; rfl
          have g2 : ((bd F (k * n + k)).toInt != -1) = false := by rw [h2']; rfl
          have HK := hide hK
          have H1 := hide (show mat n F k k = -1 from h2')
          clear hK h1 h2' e1
          generalize (bd F (k * n + k)).toInt = x at *
          go_wp2_with fail
          go_roundw
          case rel => exact ⟨k + 1, by omega, by go_num, trivial, fun a ha => by
            by_cases e : a = k
            · subst e; exact .inr H1.out
            · exact HK.out a (by omega)⟩
          case measure => simp [intOf]; omega
        · have g1 : ((bd F (k * n + k)).toInt != 1) = true := by rw [bne_iff_ne]; exact fun h => h1 (e1.1.1 h)
          have g2 : ((bd F (k * n + k)).toInt != -1) = true := by rw [bne_iff_ne]; exact fun h => h2' (e1.2.1 h)
          clear hK h1 h2' e1
          generalize (bd F (k * n + k)).toInt = x at *
          go_wp2_with fail
          go_ret2
          exact ⟨rfl, hB2⟩
    · obtain rfl : k = n := by omega
      exact absurd hK hno
end Go.Proofs.YtilffmalkegioaaDoor
