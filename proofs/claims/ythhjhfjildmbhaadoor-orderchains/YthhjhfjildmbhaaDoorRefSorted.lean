/- The contract of the document's OrderSorted: all elements, each time the least one that may come. -/
import Derived.Test.YthhjhfjildmbhaaDoorRefCovers
import Derived.Test.YthhjhfjildmbhaaDoorSortPlain
import Derived.Test.YthhjhfjildmbhaaDoorInts
namespace Go.Proofs.YthhjhfjildmbhaaDoor
open Go.RowKit Go.Shelf

/-- what best is when the elements from i on have been looked at -/
def bestI (us : List Nat) (done : List Nat) (i : Nat) : Int := match ((List.range us.length).filter (fun j => decide (i ≤ j))).find? (readyB (underB us) us.length done) with | some m => (m : Int) | none => -1
theorem best_end (us : List Nat) (done : List Nat) : bestI us done us.length = -1 := by
  unfold bestI
  have : (List.range us.length).filter (fun j => decide (us.length ≤ j)) = [] := by
    rw [List.filter_eq_nil_iff]; intro a ha; have := List.mem_range.1 ha; simp; omega
  rw [this]; rfl
theorem best_split {n i : Nat} (h : i < n) : (List.range n).filter (fun j => decide (i ≤ j)) = i :: (List.range n).filter (fun j => decide (i + 1 ≤ j)) := by
  refine sorted_ext (List.Pairwise.filter _ List.pairwise_lt_range) ?_ fun x => ?_
  · rw [List.pairwise_cons]
    exact ⟨fun y hy => by have := (List.mem_filter.1 hy).2; simp at this; omega, List.Pairwise.filter _ List.pairwise_lt_range⟩
  · simp only [List.mem_filter, List.mem_range, List.mem_cons, decide_eq_true_eq]
    omega
theorem best_yes {us done : List Nat} {i : Nat} (h : i < us.length) (hr : readyB (underB us) us.length done i = true) : bestI us done i = (i : Int) := by
  unfold bestI; rw [best_split h, List.find?_cons, hr]
theorem best_no {us done : List Nat} {i : Nat} (h : i < us.length) (hr : readyB (underB us) us.length done i = false) : bestI us done i = bestI us done (i + 1) := by
  unfold bestI; rw [best_split h, List.find?_cons, hr]
theorem best_zero {us done : List Nat} (h : ∃ i, i < us.length ∧ readyB (underB us) us.length done i = true) : bestI us done 0 = ((nextF (underB us) us.length done : Nat) : Int) := by
  unfold bestI nextF
  have : (List.range us.length).filter (fun j => decide (0 ≤ j)) = List.range us.length := by rw [List.filter_eq_self]; intro a _; simp
  rw [this]
  cases hf : (List.range us.length).find? (readyB (underB us) us.length done) with
  | some m => rfl
  | none =>
    obtain ⟨i, hi, hr⟩ := h
    have := List.find?_eq_none.1 hf i (List.mem_range.2 hi)
    rw [hr] at this; simp at this
/-- is i still ready when those below j have been looked at? -/
def readyTo (us done : List Nat) (i j : Nat) : Bool := !memB done i && (List.range j).all fun x => !(underB us x i && !memB done x)
theorem readyTo_zero (us done : List Nat) (i : Nat) : readyTo us done i 0 = !memB done i := by unfold readyTo; simp
theorem readyTo_succ (us done : List Nat) (i j : Nat) : readyTo us done i (j + 1) = (readyTo us done i j && !(underB us j i && !memB done j)) := by
  unfold readyTo; rw [List.range_succ, List.all_append, Bool.and_assoc]; simp
theorem readyTo_all (us done : List Nat) (i : Nat) : readyTo us done i us.length = readyB (underB us) us.length done i := rfl
def sliceLen : Value → Nat
  | .slice _ n _ => n
  | _ => 0

set_option maxRecDepth 100000 in
set_option maxHeartbeats 2000000 in
theorem OrderSorted_any (a : Option Addr) (cap : Nat) (us : List Nat) (n₀ : Nat) (hf : Fit us) (hl : us.length ≤ 16) (hord : IsOrd us) (w : World) (hw : IsWords n₀ w a us) (hn₀ : n₀ ≤ w.heap.size) :
    Calls Tryd.prog 21 #[.agg #[.int .i64 us.length, .slice a us.length cap]] w fun e w' => ∃ av cv, e = .returned (.slice av us.length cv) ∧ Below w.heap.size w w' ∧ w'.ownsRow w.heap.size 3 1 (.slice av us.length cv) us.length (ivals (sortF (underB us) us.length us.length)) := by
  obtain ⟨i0, hi, hz0, hz1, hz2⟩ := info_parts info_int
  have hA := acy_under hord
  go_enter Tryd.func21, Tryd.ntmps21
  go_wp2
  go_loopw [3] (fun v wr => ∃ (k : Nat) (L : List Nat) (av : Option Addr) (cv : Nat), k ≤ us.length ∧ L = sortF (underB us) us.length k ∧ v = .slice av k cv ∧ InBox w.heap.size w wr us.length a us.length cap ∧ wr.ownsRow (w.heap.size + 1) 3 1 (.slice av k cv) k (ivals L)) (fun v _ => us.length - sliceLen v)
  case atStart => exact ⟨0, [], none, 0, Nat.zero_le _, rfl, rfl, ⟨by simp, by simp, (Below.refl _ _).alloc (Nat.le_refl _) _, by simp⟩, World.ownsRow_nil ..⟩
  case round =>
    obtain ⟨k, L, av, cv, hk, hL, rfl, hbox, hown⟩ := hrel
    have HL := hide hL
    clear hL
    have hc0 := hbox.c0
    have hc1 := hbox.c1
    have hLlen : L.length = k := by rw [HL.out, sortF_len]
    by_cases hlt : k < us.length
    · have HLlen := hide hLlen
      clear hLlen
      go_wp2
      go_loopw [4, 5] (fun b i wr => ∃ i' : Nat, i' ≤ us.length ∧ b = .int .i64 (bestI us L i') ∧ i = .int .i64 ((i' : Int) - 1) ∧ InBox w.heap.size w wr us.length a us.length cap ∧ wr.ownsRow (w.heap.size + 1) 3 1 (.slice av k cv) k (ivals L)) (fun _ i _ => (intOf i + 1).toNat)
      case atStart => exact ⟨us.length, Nat.le_refl _, by rw [best_end], rfl, hbox, hown⟩
      case round =>
        clear hc0 hc1 hbox hown
        obtain ⟨i', hi', rfl, rfl, hbox, hown⟩ := hrel
        have hc0 := hbox.c0
        have hc1 := hbox.c1
        cases i' with
        | zero =>
          have hex := hA L (left_some (by rw [HLlen.out]; exact hlt))
          have hbz := best_zero hex
          rw [hbz]
          have hnx := (next_spec hex).1
          generalize hnn : nextF (underB us) us.length L = nx at *
          have Hnn := hide hnn
          clear hnn hex hbz
          go_wp2_with (at_builtin; refine wpList_append_own _ rfl _ _ 39 rfl (w.heap.size + 1) 3 i0 (.int .i64 0) 1 8 Tryd.underlying39 hi hz0 hz1 hz2 rfl (by decide) _ _ _ rfl (hown.alloc _) ⟨wr.heap.size, 0, none⟩ 1 1 [.int .i64 (nx : Nat)] rfl rfl (cell_one_new _ _ _) (fun u hu => by simp at hu; subst hu; rfl) (by unfold maxLen; omega) (by omega) (by have := hbox.lt; simp; omega) ?_; intro v' w3 hown3 hgrow3 _; obtain ⟨g', cap', rfl⟩ := ownsRow_succ hown3)
          have hbox3 : InBox w.heap.size w w3 us.length a us.length cap := (hbox.step hbox.le ((Below.refl _ _).alloc (Nat.le_refl _) (.cells #[.int .i64 (nx : Nat)] 3))).grown hgrow3 fun b eb => by
            have h1 : w.heap.size + 1 ≤ b := by
              apply Nat.le_of_not_lt; intro hbl
              exact ownBlock_ge hown (b := b) hbl eb.symm
            omega
          exact ⟨⟨k + 1, L ++ [nx], some ⟨g', 0, none⟩, cap', by omega, by rw [← Hnn.out, HL.out]; rfl, rfl, hbox3, by rw [ivals_snoc]; exact hown3⟩, by simp only [sliceLen]; omega⟩
        | succ m =>
          have hm1 : ((m + 1 : Nat) : Int) - 1 = (m : Int) := by omega
          rw [hm1]
          clear hm1
          have hmn : m < us.length := by omega
          have hhas := Has_any av cv L m wr.heap.size (by rw [HLlen.out]; omega) wr (ownsRow_ints hown)
          rw [HLlen.out] at hhas
          go_wp2_with (go_at_call 40; refine hhas.mono ?_; rintro e w' ⟨rfl, rfl⟩)
          go_loopw [6, 7] (fun r j wr => ∃ j' : Nat, j' ≤ us.length ∧ j = .int .i64 j' ∧ r = .bool (readyTo us L m j') ∧ InBox w.heap.size w wr us.length a us.length cap ∧ wr.ownsRow (w.heap.size + 1) 3 1 (.slice av k cv) k (ivals L)) (fun _ j _ => us.length - (intOf j).toNat)
          case atStart => exact ⟨0, Nat.zero_le _, rfl, by rw [readyTo_zero], hbox, hown⟩
          case round =>
            clear hhas hc0 hc1 hbox hown
            obtain ⟨j, hj, rfl, rfl, hbox, hown⟩ := hrel
            have hc0 := hbox.c0
            have hc1 := hbox.c1
            by_cases hlj : j < us.length
            · have hun := Under_any us.length a cap us j m n₀ hf hlj (by omega) wr (hw.below (hbox.bel.mono hn₀)) (by have := hbox.le; omega)
              have Hs := hide (readyTo_succ us L m j)
              cases hu : underB us j m with
              | false =>
                rw [hu] at hun
                have Hu := hide hu
                clear hu
                go_wp2_with (go_at_call 41; refine hun.mono ?_; rintro e w1 ⟨rfl, hb1⟩)
                exact ⟨⟨j + 1, by omega, by go_num, by rw [Hs.out, Hu.out]; simp, hbox.step hbox.le hb1, ownsRow_below hown hb1⟩, by simp [intOf]; omega⟩
              | true =>
                rw [hu] at hun
                have Hu := hide hu
                clear hu
                cases hm : memB L j with
                | true =>
                  have Hm := hide hm
                  clear hm
                  go_wp2_with (first
                    | (go_at_call 41; refine hun.mono ?_; rintro e w1 ⟨rfl, hb1⟩; have hown1 := ownsRow_below hown hb1; have hh := Has_any av cv L j w1.heap.size (by rw [HLlen.out]; omega) w1 (ownsRow_ints hown1); rw [HLlen.out, Hm.out] at hh)
                    | (go_at_call 40; refine hh.mono ?_; rintro e w' ⟨rfl, rfl⟩))
                  exact ⟨⟨j + 1, by omega, by go_num, by rw [Hs.out, Hu.out, Hm.out]; simp, hbox.step hbox.le hb1, hown1⟩, by simp [intOf]; omega⟩
                | false =>
                  have Hm := hide hm
                  clear hm
                  go_wp2_with (first
                    | (go_at_call 41; refine hun.mono ?_; rintro e w1 ⟨rfl, hb1⟩; have hown1 := ownsRow_below hown hb1; have hh := Has_any av cv L j w1.heap.size (by rw [HLlen.out]; omega) w1 (ownsRow_ints hown1); rw [HLlen.out, Hm.out] at hh)
                    | (go_at_call 40; refine hh.mono ?_; rintro e w' ⟨rfl, rfl⟩))
                  exact ⟨⟨j + 1, by omega, by go_num, by rw [Hs.out, Hu.out, Hm.out]; simp, hbox.step hbox.le hb1, hown1⟩, by simp [intOf]; omega⟩
            · obtain rfl : j = us.length := by omega
              rw [readyTo_all]
              cases hr : readyB (underB us) us.length L m with
              | true =>
                have Hb := hide (best_yes hmn hr)
                clear hr
                go_wp2
                exact ⟨⟨m, by omega, by rw [Hb.out], rfl, hbox, hown⟩, by simp [intOf]⟩
              | false =>
                have Hb := hide (best_no hmn hr)
                clear hr
                go_wp2
                exact ⟨⟨m, by omega, by rw [Hb.out], rfl, hbox, hown⟩, by simp [intOf]⟩
    · obtain rfl : k = us.length := by omega
      go_wp2
      go_ret
      have e1 := HL.out
      subst e1
      exact ⟨av, cv, rfl, hbox.bel, ownsRow_base hown (by omega)⟩
end Go.Proofs.YthhjhfjildmbhaaDoor
