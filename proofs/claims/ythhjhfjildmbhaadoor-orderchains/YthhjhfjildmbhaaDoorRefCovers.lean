/- Contracts: the document's Under, Covered, OrderCovers. -/
import Derived.Test.YthhjhfjildmbhaaDoorRefCheck
import Derived.Test.YthhjhfjildmbhaaDoorCoversPlain
import Derived.Test.YthhjhfjildmbhaaDoorPairMem
import Derived.Test.YthhjhfjildmbhaaDoorBoxMore
namespace Go.Proofs.YthhjhfjildmbhaaDoor
open Go.RowKit Go.Shelf

theorem Under_any (n : Int) (a : Option Addr) (cap : Nat) (us : List Nat) (i j n₀ : Nat) (hf : Fit us) (hi : i < us.length) (hj : j < 32) (w : World) (hw : IsWords n₀ w a us) (hn : n₀ ≤ w.heap.size) :
    Calls Tryd.prog 41 #[.agg #[.int .i64 n, .slice a us.length cap], .int .i64 i, .int .i64 j] w fun e w' => e = .returned (.bool (underB us i j)) ∧ Below w.heap.size w w' := by
  obtain ⟨b, off, rfl, hb, hc⟩ := hw.at hi
  have hci := hc i hi
  have hfi := hf i
  have hbw : b < w.heap.size := by omega
  clear hc
  by_cases hij : i = j
  · have hd : ((i : Int) != (j : Int)) = false := by rw [bne_eq_false_iff_eq]; omega
    have Hu := hide (underB_false (us := us) (i := i) (j := j) (fun h => h.1 hij))
    clear hij
    go_enter Tryd.func41, Tryd.ntmps41
    go_wp2
    go_ret
    exact ⟨ret_bool Hu.out.symm, (Below.refl _ _).alloc (Nat.le_refl _) _⟩
  · have hd : ((i : Int) != (j : Int)) = true := by rw [bne_iff_ne]; omega
    have Hu := hide (show hasB (wd us i) j = underB us i j by unfold underB; simp [hij])
    clear hij
    go_enter Tryd.func41, Tryd.ntmps41
    go_wp2_with (go_at_call 35; refine (Bit_any _ _ hfi (by omega) _).mono ?_; rintro e w' ⟨rfl, rfl⟩)
    go_ret
    exact ⟨ret_bool Hu.out, (Below.refl _ _).alloc (Nat.le_refl _) _⟩

set_option maxRecDepth 100000 in
set_option maxHeartbeats 1000000 in
theorem Covered_any (a : Option Addr) (cap : Nat) (us : List Nat) (i j n₀ : Nat) (hf : Fit us) (hl : us.length ≤ 16) (hi : i < us.length) (hj : j < us.length) (w : World) (hw : IsWords n₀ w a us) (hn₀ : n₀ ≤ w.heap.size) :
    Calls Tryd.prog 38 #[.agg #[.int .i64 us.length, .slice a us.length cap], .int .i64 i, .int .i64 j] w fun e w' => e = .returned (.bool (coverB us i j)) ∧ Below w.heap.size w w' := by
  have hbox0 : InBox w.heap.size w (w.alloc (.cells #[.int .i64 us.length, .slice a us.length cap] 24)) us.length a us.length cap :=
    ⟨by simp, by simp, (Below.refl _ _).alloc (Nat.le_refl _) _, by simp⟩
  cases hu : underB us i j with
  | false =>
    have hun := Under_any us.length a cap us i j n₀ hf hi (by omega) _ (hw.below (hbox0.bel.mono hn₀)) (by have := hbox0.le; omega)
    rw [hu] at hun
    have Hc := hide (coverB_under hu)
    have HB := hide hbox0
    clear hu hbox0
    go_enter Tryd.func38, Tryd.ntmps38
    go_wp2_with (go_at_call 41; refine hun.mono ?_; rintro e w1 ⟨rfl, hb1⟩)
    go_ret
    exact ⟨ret_bool Hc.out.symm, (HB.out.step HB.out.le hb1).bel⟩
  | true =>
    have hun := Under_any us.length a cap us i j n₀ hf hi (by omega) _ (hw.below (hbox0.bel.mono hn₀)) (by have := hbox0.le; omega)
    rw [hu] at hun
    have HU := hide hu
    have HB := hide hbox0
    clear hu hbox0
    go_enter Tryd.func38, Tryd.ntmps38
    go_wp2_with (go_at_call 41; refine hun.mono ?_; rintro e w1 ⟨rfl, hb1⟩)
    have hbox1 := HB.out.step HB.out.le hb1
    clear hun
    go_loopw [7] (fun x wr => ∃ k : Nat, k ≤ us.length ∧ x = .int .i64 k ∧ (∀ y, y < k → ¬ (underB us i y = true ∧ underB us y j = true)) ∧ InBox w.heap.size w wr us.length a us.length cap) (fun x _ => us.length - (intOf x).toNat)
    case atStart => exact ⟨0, Nat.zero_le _, rfl, fun j h1 => by omega, hbox1⟩
    case round =>
      obtain ⟨k, hk, rfl, hall, hbox⟩ := hrel
      have hc0 := hbox.c0
      have hc1 := hbox.c1
      by_cases hlt : k < us.length
      · rcases (show (underB us i k = true ∧ underB us k j = true) ∨ (underB us i k = false ∧ Hid (¬ (underB us i k = true ∧ underB us k j = true))) ∨ (underB us i k = true ∧ underB us k j = false ∧ Hid (¬ (underB us i k = true ∧ underB us k j = true))) from by
          unfold Hid; cases underB us i k <;> cases underB us k j <;> simp) with ⟨t1, t2⟩ | ⟨t1, Ht⟩ | ⟨t1, t2, Ht⟩
        all_goals
          go_wp2_with (go_at_call 41; refine (Under_any _ _ _ us _ _ n₀ hf (by omega) (by omega) _ (hw.below (hbox.bel.mono hn₀)) (by have := hbox.le; omega)).mono ?_; rintro e w1 ⟨rfl, hb1⟩; replace hbox := hbox.step hbox.le hb1; have hc0 := hbox.c0; have hc1 := hbox.c1)
        · go_ret
          exact ⟨ret_bool (coverB_false hlt t1 t2).symm, hbox.bel⟩
        all_goals
          refine ⟨⟨k + 1, by omega, by go_num, fun y h1 => ?_, hbox⟩, by simp [intOf]; omega⟩
          by_cases e : y = k
          · rw [e]; exact Ht.out
          · exact hall y (by omega)
      · go_wp2
        go_ret
        exact ⟨ret_bool (coverB_true.2 ⟨HU.out, fun x hx => hall x (by omega)⟩).symm, hbox.bel⟩
set_option maxRecDepth 100000 in
set_option maxHeartbeats 2000000 in
theorem OrderCovers_any (a : Option Addr) (cap : Nat) (us : List Nat) (n₀ : Nat) (hf : Fit us) (hl : us.length ≤ 16) (w : World) (hw : IsWords n₀ w a us) (hn₀ : n₀ ≤ w.heap.size) :
    Calls Tryd.prog 18 #[.agg #[.int .i64 us.length, .slice a us.length cap]] w fun e w' => ∃ av cv, e = .returned (.slice av (coverL us us.length).length cv) ∧ Below w.heap.size w w' ∧ w'.ownsRow w.heap.size 45 2 (.slice av (coverL us us.length).length cv) (coverL us us.length).length (pvals (coverL us us.length)) := by
  obtain ⟨i0, hi, hz0, hz1, hz2⟩ := info_parts info_pair
  go_enter Tryd.func18, Tryd.ntmps18
  go_wp2
  go_loopw [3, 4] (fun v i wr => ∃ (k : Nat) (L : List (Nat × Nat)) (av : Option Addr) (cv : Nat), k ≤ us.length ∧ i = .int .i64 k ∧ L = coverL us k ∧ v = .slice av L.length cv ∧ InBox w.heap.size w wr us.length a us.length cap ∧ wr.ownsRow (w.heap.size + 1) 45 2 (.slice av L.length cv) L.length (pvals L)) (fun _ i _ => us.length - (intOf i).toNat)
  case atStart => exact ⟨0, [], none, 0, Nat.zero_le _, rfl, rfl, rfl, ⟨by simp, by simp, (Below.refl _ _).alloc (Nat.le_refl _) _, by simp⟩, World.ownsRow_nil ..⟩
  case round =>
    obtain ⟨k, L0, av, cv, hk, rfl, hL0, rfl, hbox, hown⟩ := hrel
    have HL0 := hide hL0
    clear hL0
    have hc0 := hbox.c0
    have hc1 := hbox.c1
    by_cases hlt : k < us.length
    · go_wp2
      go_loopw [3, 5] (fun v j wr => ∃ (j' : Nat) (L : List (Nat × Nat)) (av : Option Addr) (cv : Nat), j' ≤ us.length ∧ j = .int .i64 j' ∧ L = L0 ++ coverRow us k j' ∧ v = .slice av L.length cv ∧ InBox w.heap.size w wr us.length a us.length cap ∧ wr.ownsRow (w.heap.size + 1) 45 2 (.slice av L.length cv) L.length (pvals L)) (fun _ j _ => us.length - (intOf j).toNat)
      case atStart => exact ⟨0, L0, av, cv, Nat.zero_le _, rfl, by simp [coverRow_zero], rfl, hbox, hown⟩
      case round =>
        clear hc0 hc1 hbox hown
        obtain ⟨j, L, av, cv, hj, rfl, hL, rfl, hbox, hown⟩ := hrel
        have HL := hide hL
        clear hL
        have hc0 := hbox.c0
        have hc1 := hbox.c1
        by_cases hlj : j < us.length
        · have hcv := Covered_any a cap us k j n₀ hf hl hlt hlj wr (hw.below (hbox.bel.mono hn₀)) (by have := hbox.le; omega)
          have hlen : L.length ≤ 512 := by
            have h1 := coverL_len us k
            have h2 := coverRow_len us k j
            have h3 : k * us.length ≤ 16 * 16 := Nat.mul_le_mul (by omega) hl
            rw [HL.out, HL0.out, List.length_append]; omega
          have Hs := hide (coverRow_succ us k j)
          cases hb : coverB us k j with
          | false =>
            rw [hb] at hcv
            have Hb := hide hb
            clear hb
            go_wp2_with (go_at_call 38; refine hcv.mono ?_; rintro e w1 ⟨rfl, hb1⟩)
            exact ⟨⟨j + 1, L, av, cv, by omega, by go_num, by rw [Hs.out, Hb.out, HL.out]; simp, rfl, hbox.step hbox.le hb1, ownsRow_below hown hb1⟩, by simp [intOf]; omega⟩
          | true =>
            rw [hb] at hcv
            have Hb := hide hb
            clear hb
            go_wp2_with (first
              | (go_at_call 38; refine hcv.mono ?_; rintro e w1 ⟨rfl, hb1⟩; have hown1 := ownsRow_below hown hb1; have hbox1 := hbox.step hbox.le hb1; have hsz1 := hbox1.le; have hlt1 := hbox1.lt)
              | (at_builtin; refine wpList_append_own _ rfl _ _ 32 rfl (w.heap.size + 1) 45 i0 (.agg #[.int .i64 0, .int .i64 0]) 2 16 Tryd.underlying32 hi hz0 hz1 hz2 rfl (by decide) _ _ _ rfl (hown1.alloc _) ⟨w1.heap.size, 0, none⟩ 1 1 [.int .i64 (k : Nat), .int .i64 (j : Nat)] rfl rfl (cell_two_new _ _ _ _) (fun x hx => by simp at hx; rcases hx with rfl | rfl <;> rfl) (by unfold maxLen; omega) (by omega) (by simp; omega) ?_; intro v' w3 hown' hgrow3 _; obtain ⟨g', cap', rfl⟩ := ownsRow_succ hown'))
            have hbox3 : InBox w.heap.size w w3 us.length a us.length cap := (hbox1.step hbox1.le ((Below.refl _ _).alloc (Nat.le_refl _) (.cells #[.int .i64 (k : Nat), .int .i64 (j : Nat)] 45))).grown hgrow3 fun b eb => by
              have h1 : w.heap.size + 1 ≤ b := by
                apply Nat.le_of_not_lt; intro hbl
                exact ownBlock_ge hown1 (b := b) hbl eb.symm
              omega
            exact ⟨⟨j + 1, L ++ [(k, j)], some ⟨g', 0, none⟩, cap', by omega, by go_num, by rw [Hs.out, Hb.out, HL.out]; simp, by simp, hbox3, by rw [pvals_snoc, List.length_append]; exact hown'⟩, by simp [intOf]; omega⟩
        · obtain rfl : j = us.length := by omega
          go_wp2
          exact ⟨⟨k + 1, L, av, cv, by omega, by go_num, by rw [HL.out, HL0.out]; rfl, rfl, hbox, hown⟩, by simp [intOf]; omega⟩
    · obtain rfl : k = us.length := by omega
      go_wp2
      go_ret
      have e0 := HL0.out
      subst e0
      exact ⟨av, cv, rfl, hbox.bel, ownsRow_base hown (by omega)⟩
end Go.Proofs.YthhjhfjildmbhaaDoor
