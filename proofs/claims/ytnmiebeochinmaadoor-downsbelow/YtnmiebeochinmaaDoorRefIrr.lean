/- The contract of the document's LatticeIrreducible. -/
import Derived.Test.YtnmiebeochinmaaDoorLatGen
import Derived.Test.YtnmiebeochinmaaDoorRefCovered
import Derived.Test.YtnmiebeochinmaaDoorApart
namespace Go.Proofs.YtnmiebeochinmaaDoor
open Go.RowKit Go.Shelf

def lowTo (us : List Nat) (k : Nat) : List Nat := (List.range k).filter fun x => decide (lowCnt us x = 1)
def highTo (us : List Nat) (k : Nat) : List Nat := (List.range k).filter fun x => decide (highCnt us x = 1)
theorem lowTo_succ (us : List Nat) (k : Nat) : lowTo us (k + 1) = lowTo us k ++ if lowCnt us k = 1 then [k] else [] := by
  unfold lowTo
  rw [List.range_succ, List.filter_append]
  by_cases h : lowCnt us k = 1 <;> simp [h]
theorem highTo_succ (us : List Nat) (k : Nat) : highTo us (k + 1) = highTo us k ++ if highCnt us k = 1 then [k] else [] := by
  unfold highTo
  rw [List.range_succ, List.filter_append]
  by_cases h : highCnt us k = 1 <;> simp [h]
theorem lowTo_len (us : List Nat) (k : Nat) : (lowTo us k).length ≤ k := by
  unfold lowTo
  have := List.length_filter_le (fun x => decide (lowCnt us x = 1)) (List.range k)
  simpa using this
theorem highTo_len (us : List Nat) (k : Nat) : (highTo us k).length ≤ k := by
  unfold highTo
  have := List.length_filter_le (fun x => decide (highCnt us x = 1)) (List.range k)
  simpa using this
def belTo (us : List Nat) (i k : Nat) : Nat := ((List.range k).filter fun c => coverB us c i).length
def aboTo (us : List Nat) (i k : Nat) : Nat := ((List.range k).filter fun c => coverB us i c).length
theorem belTo_succ (us : List Nat) (i k : Nat) : belTo us i (k + 1) = belTo us i k + if coverB us k i then 1 else 0 := by
  unfold belTo
  rw [List.range_succ, List.filter_append, List.length_append]
  cases h : coverB us k i <;> simp [h]
theorem aboTo_succ (us : List Nat) (i k : Nat) : aboTo us i (k + 1) = aboTo us i k + if coverB us i k then 1 else 0 := by
  unfold aboTo
  rw [List.range_succ, List.filter_append, List.length_append]
  cases h : coverB us i k <;> simp [h]
theorem belTo_le (us : List Nat) (i k : Nat) : belTo us i k ≤ k := by
  unfold belTo
  have := List.length_filter_le (fun c => coverB us c i) (List.range k)
  simpa using this
theorem aboTo_le (us : List Nat) (i k : Nat) : aboTo us i k ≤ k := by
  unfold aboTo
  have := List.length_filter_le (fun c => coverB us i c) (List.range k)
  simpa using this

set_option maxRecDepth 100000 in
set_option maxHeartbeats 2000000 in
theorem RefIrr_any (a : Option Addr) (cap : Nat) (us : List Nat) (n₀ : Nat) (hf : Fit us) (hl : us.length ≤ 16) (w : World) (hw : IsWords n₀ w a us) (hn₀ : n₀ ≤ w.heap.size) :
    Calls Tryd.prog 29 #[.agg #[.int .i64 us.length, .slice a us.length cap]] w fun e w' => ∃ a1 c1 a2 c2, e = .returned (.tuple #[.slice a1 (lowIrr us).length c1, .slice a2 (highIrr us).length c2]) ∧ Below w.heap.size w w' ∧ IsInts w'.heap.size w' a1 (lowIrr us) ∧ IsInts w'.heap.size w' a2 (highIrr us) := by
  obtain ⟨i0, hi, hz0, hz1, hz2⟩ := info_parts info_int
  obtain ⟨r0, hb0, hs0⟩ := one_row w 24 (.int .i64 us.length) (.slice a us.length cap) rfl
  go_enter Tryd.func29, Tryd.ntmps29
  go_wp2
  obtain ⟨V, hV⟩ : ∃ V, V = w.alloc (.cells #[.int .i64 us.length, .slice a us.length cap] 24) := ⟨_, rfl⟩
  rw [← hV] at r0 hb0 hs0 ⊢
  have hwV : IsWords n₀ V a us := hw.below (hb0.mono hn₀)
  have lt0 := r0.lt
  have hcv : ∀ (x y : Nat) (r : Bool) (W : World), x < us.length → y < us.length → coverB us x y = r → Below (w.heap.size + 1) V W → w.heap.size + 1 ≤ W.heap.size → Calls Tryd.prog 35 #[.agg #[.int .i64 us.length, .slice a us.length cap], .int .i64 x, .int .i64 y] W fun e w' => e = .returned (.bool r) ∧ Below W.heap.size W w' := fun x y r W hx hy hr hW hsW =>
    (Covered_any a cap us x y n₀ hf hl hx hy W (hwV.below (hW.mono (by omega))) (by omega)).mono (by rintro e w' ⟨rfl, hb⟩; rw [hr]; exact ⟨rfl, hb⟩)
  clear hV
  go_loopw [4, 5, 6] (fun l1 l2 i wr => ∃ (k : Nat) (a1 : Option Addr) (c1 : Nat) (a2 : Option Addr) (c2 : Nat), k ≤ us.length ∧ i = .int .i64 k ∧ l1 = .slice a1 (lowTo us k).length c1 ∧ l2 = .slice a2 (highTo us k).length c2 ∧ Below (w.heap.size + 1) V wr ∧ w.heap.size + 1 ≤ wr.heap.size ∧ wr.ownsRow (w.heap.size + 1) 3 1 (.slice a1 (lowTo us k).length c1) (lowTo us k).length (ivals (lowTo us k)) ∧ wr.ownsRow (w.heap.size + 1) 3 1 (.slice a2 (highTo us k).length c2) (highTo us k).length (ivals (highTo us k)) ∧ Apart (.slice a1 (lowTo us k).length c1) (.slice a2 (highTo us k).length c2)) (fun _ _ i _ => us.length - (intOf i).toNat)
  case atStart => exact ⟨0, none, 0, none, 0, Nat.zero_le _, rfl, rfl, rfl, Below.refl _ _, by omega, World.ownsRow_nil .., World.ownsRow_nil .., fun b hb => by simp [Value.ownBlock] at hb⟩
  case round =>
    obtain ⟨k, a1, c1, a2, c2, hk, rfl, rfl, rfl, hbr, hsr, o1, o2, hap⟩ := hrel
    have y0 := row_below r0 hbr (by omega)
    have c00 := y0.cell (i := 0) rfl
    by_cases hlt : k < us.length
    · have hll := lowTo_len us k
      have hlh := highTo_len us k
      have hsl := lowTo_succ us k
      have hsh := highTo_succ us k
      have HSL := hide hsl
      have HSH := hide hsh
      clear hsl hsh
      generalize lowTo us k = S1 at *
      generalize highTo us k = S2 at *
      go_wp2
      go_loopw [7, 8, 9] (fun b u j wr => ∃ q : Nat, q ≤ us.length ∧ j = .int .i64 q ∧ b = .int .i64 (belTo us k q : Nat) ∧ u = .int .i64 (aboTo us k q : Nat) ∧ Below (w.heap.size + 1) V wr ∧ w.heap.size + 1 ≤ wr.heap.size ∧ wr.ownsRow (w.heap.size + 1) 3 1 (.slice a1 S1.length c1) S1.length (ivals S1) ∧ wr.ownsRow (w.heap.size + 1) 3 1 (.slice a2 S2.length c2) S2.length (ivals S2)) (fun _ _ j _ => us.length - (intOf j).toNat)
      case atStart => exact ⟨0, Nat.zero_le _, rfl, rfl, rfl, hbr, hsr, o1, o2⟩
      case round =>
        clear hbr hsr o1 o2 y0 c00
        obtain ⟨q, hq, rfl, rfl, rfl, hbr, hsr, o1, o2⟩ := hrel
        have y0 := row_below r0 hbr (by omega)
        have c00 := y0.cell (i := 0) rfl
        have c01 := y0.cell (i := 1) rfl
        by_cases hlq : q < us.length
        · have hb1 := belTo_succ us k q
          have hb2 := aboTo_succ us k q
          have l1 := belTo_le us k q
          have l2 := aboTo_le us k q
          have hw1 : IntKind.i64.wrap (((belTo us k q : Nat) : Int) + 1) = ((belTo us k q + 1 : Nat) : Int) := by rw [IntWalk.i64_in _ (by omega)]; omega
          have hw2 : IntKind.i64.wrap (((aboTo us k q : Nat) : Int) + 1) = ((aboTo us k q + 1 : Nat) : Int) := by rw [IntWalk.i64_in _ (by omega)]; omega
          generalize belTo us k q = z1 at *
          generalize aboTo us k q = z2 at *
          cases g1 : coverB us q k with
          | true =>
            rw [g1] at hb1
            have s1 := hcv q k true wr hlq hlt g1 hbr hsr
            clear g1
            cases g2 : coverB us k q with
            | true =>
              rw [g2] at hb2
              have s2 := fun W h1 h2 => hcv k q true W hlt hlq g2 h1 h2
              have HB1 := hide hb1
              have HB2 := hide hb2
              clear g2 hb1 hb2
              go_wp2_with (first
                | (go_at_call 35; refine s1.mono ?_; rintro e w2 ⟨rfl, h2⟩; clear s1; have hs2 := h2.size; have hB2 : Below (w.heap.size + 1) V w2 := hbr.trans (h2.mono hsr); have x0 := row_below r0 hB2 (by omega); have d0 := x0.cell (i := 0) rfl; have d1 := x0.cell (i := 1) rfl; have p1 := ownsRow_below o1 h2; have p2 := ownsRow_below o2 h2; have s3 := s2 w2 hB2 (by omega); clear s2)
                | (go_at_call 35; refine s3.mono ?_; rintro e w3 ⟨rfl, h3⟩; clear s3))
              exact ⟨⟨q + 1, by omega, by go_num, by rw [HB1.out]; simp, by rw [HB2.out]; simp, hB2.trans (h3.mono (by omega)), by have := h3.size; omega, ownsRow_below p1 h3, ownsRow_below p2 h3⟩, by simp [intOf]; omega⟩
            | false =>
              rw [g2] at hb2
              have s2 := fun W h1 h2 => hcv k q false W hlt hlq g2 h1 h2
              have HB1 := hide hb1
              have HB2 := hide hb2
              clear g2 hb1 hb2
              go_wp2_with (first
                | (go_at_call 35; refine s1.mono ?_; rintro e w2 ⟨rfl, h2⟩; clear s1; have hs2 := h2.size; have hB2 : Below (w.heap.size + 1) V w2 := hbr.trans (h2.mono hsr); have x0 := row_below r0 hB2 (by omega); have d0 := x0.cell (i := 0) rfl; have d1 := x0.cell (i := 1) rfl; have p1 := ownsRow_below o1 h2; have p2 := ownsRow_below o2 h2; have s3 := s2 w2 hB2 (by omega); clear s2)
                | (go_at_call 35; refine s3.mono ?_; rintro e w3 ⟨rfl, h3⟩; clear s3))
              exact ⟨⟨q + 1, by omega, by go_num, by rw [HB1.out]; simp, by rw [HB2.out]; simp, hB2.trans (h3.mono (by omega)), by have := h3.size; omega, ownsRow_below p1 h3, ownsRow_below p2 h3⟩, by simp [intOf]; omega⟩
          | false =>
            rw [g1] at hb1
            have s1 := hcv q k false wr hlq hlt g1 hbr hsr
            clear g1
            cases g2 : coverB us k q with
            | true =>
              rw [g2] at hb2
              have s2 := fun W h1 h2 => hcv k q true W hlt hlq g2 h1 h2
              have HB1 := hide hb1
              have HB2 := hide hb2
              clear g2 hb1 hb2
              go_wp2_with (first
                | (go_at_call 35; refine s1.mono ?_; rintro e w2 ⟨rfl, h2⟩; clear s1; have hs2 := h2.size; have hB2 : Below (w.heap.size + 1) V w2 := hbr.trans (h2.mono hsr); have x0 := row_below r0 hB2 (by omega); have d0 := x0.cell (i := 0) rfl; have d1 := x0.cell (i := 1) rfl; have p1 := ownsRow_below o1 h2; have p2 := ownsRow_below o2 h2; have s3 := s2 w2 hB2 (by omega); clear s2)
                | (go_at_call 35; refine s3.mono ?_; rintro e w3 ⟨rfl, h3⟩; clear s3))
              exact ⟨⟨q + 1, by omega, by go_num, by rw [HB1.out]; simp, by rw [HB2.out]; simp, hB2.trans (h3.mono (by omega)), by have := h3.size; omega, ownsRow_below p1 h3, ownsRow_below p2 h3⟩, by simp [intOf]; omega⟩
            | false =>
              rw [g2] at hb2
              have s2 := fun W h1 h2 => hcv k q false W hlt hlq g2 h1 h2
              have HB1 := hide hb1
              have HB2 := hide hb2
              clear g2 hb1 hb2
              go_wp2_with (first
                | (go_at_call 35; refine s1.mono ?_; rintro e w2 ⟨rfl, h2⟩; clear s1; have hs2 := h2.size; have hB2 : Below (w.heap.size + 1) V w2 := hbr.trans (h2.mono hsr); have x0 := row_below r0 hB2 (by omega); have d0 := x0.cell (i := 0) rfl; have d1 := x0.cell (i := 1) rfl; have p1 := ownsRow_below o1 h2; have p2 := ownsRow_below o2 h2; have s3 := s2 w2 hB2 (by omega); clear s2)
                | (go_at_call 35; refine s3.mono ?_; rintro e w3 ⟨rfl, h3⟩; clear s3))
              exact ⟨⟨q + 1, by omega, by go_num, by rw [HB1.out]; simp, by rw [HB2.out]; simp, hB2.trans (h3.mono (by omega)), by have := h3.size; omega, ownsRow_below p1 h3, ownsRow_below p2 h3⟩, by simp [intOf]; omega⟩
        · obtain rfl : q = us.length := by omega
          have eb : belTo us k us.length = lowCnt us k := rfl
          have ea : aboTo us k us.length = highCnt us k := rfl
          rw [eb, ea]
          have L1 := HSL.out
          have L2 := HSH.out
          generalize lowCnt us k = z1 at *
          generalize highCnt us k = z2 at *
          clear HSL HSH
          by_cases g1 : z1 = 1
          · have hd1 : ((z1 : Int) == 1) = true := by rw [g1]; rfl
            rw [if_pos g1] at L1
            clear g1
            by_cases g2 : z2 = 1
            · have hd2 : ((z2 : Int) == 1) = true := by rw [g2]; rfl
              rw [if_pos g2] at L2
              have H1 := hide L1
              have H2 := hide L2
              clear g2 L1 L2
              go_wp2_with (first
                | (at_builtin; refine wpList_append_own_at _ rfl _ _ 36 rfl (w.heap.size + 1) 3 i0 (.int .i64 0) 1 8 Tryd.underlying36 hi hz0 hz1 hz2 rfl (by decide) _ _ _ rfl (o1.alloc _) ⟨wr.heap.size, 0, none⟩ 1 1 [.int .i64 (k : Nat)] rfl rfl (cell_one_new _ _ _) (fun u hu => by simp at hu; subst hu; rfl) (by unfold maxLen; omega) (by omega) (by simp; omega) ?_; intro v' u3 p1 g3 _ at3; obtain ⟨g', cap', rfl⟩ := ownsRow_succ p1; obtain ⟨k1, k2, k3, k4⟩ := append_apart hbr hsr o1 o2 hap _ g3 at3)
                | (at_builtin; refine wpList_append_own_at _ rfl _ _ 36 rfl (w.heap.size + 1) 3 i0 (.int .i64 0) 1 8 Tryd.underlying36 hi hz0 hz1 hz2 rfl (by decide) _ _ _ rfl (k2.alloc _) ⟨u3.heap.size, 0, none⟩ 1 1 [.int .i64 (k : Nat)] rfl rfl (cell_one_new _ _ _) (fun u hu => by simp at hu; subst hu; rfl) (by unfold maxLen; omega) (by omega) (by simp; omega) ?_; intro v'' u4 p2 g4 _ at4; obtain ⟨g'', cap'', rfl⟩ := ownsRow_succ p2; obtain ⟨m1, m2, m3, m4⟩ := append_apart k1 (by omega) k2 p1 k3.symm _ g4 at4))
              have e1 : S1.length + 1 = (S1 ++ [k]).length := by simp
              have e2 : S2.length + 1 = (S2 ++ [k]).length := by simp
              refine ⟨⟨k + 1, some ⟨g', 0, none⟩, cap', some ⟨g'', 0, none⟩, cap'', by omega, by go_num, by rw [H1.out, e1], by rw [H2.out, e2], m1, by omega, ?_, ?_, ?_⟩, by simp [intOf]; omega⟩
              · rw [H1.out, ivals_snoc, ← e1]; exact m2
              · rw [H2.out, ivals_snoc, ← e2]; exact p2
              · rw [H1.out, H2.out, ← e1, ← e2]; exact m3.symm
            · have hd2 : ((z2 : Int) == 1) = false := by rw [beq_eq_false_iff_ne]; omega
              rw [if_neg g2, List.append_nil] at L2
              have H1 := hide L1
              have H2 := hide L2
              clear g2 L1 L2
              go_wp2_with (at_builtin; refine wpList_append_own_at _ rfl _ _ 36 rfl (w.heap.size + 1) 3 i0 (.int .i64 0) 1 8 Tryd.underlying36 hi hz0 hz1 hz2 rfl (by decide) _ _ _ rfl (o1.alloc _) ⟨wr.heap.size, 0, none⟩ 1 1 [.int .i64 (k : Nat)] rfl rfl (cell_one_new _ _ _) (fun u hu => by simp at hu; subst hu; rfl) (by unfold maxLen; omega) (by omega) (by simp; omega) ?_; intro v' u3 p1 g3 _ at3; obtain ⟨g', cap', rfl⟩ := ownsRow_succ p1; obtain ⟨k1, k2, k3, k4⟩ := append_apart hbr hsr o1 o2 hap _ g3 at3)
              have e1 : S1.length + 1 = (S1 ++ [k]).length := by simp
              refine ⟨⟨k + 1, some ⟨g', 0, none⟩, cap', a2, c2, by omega, by go_num, by rw [H1.out, e1], by rw [H2.out], k1, by omega, ?_, ?_, ?_⟩, by simp [intOf]; omega⟩
              · rw [H1.out, ivals_snoc, ← e1]; exact p1
              · rw [H2.out]; exact k2
              · rw [H1.out, H2.out, ← e1]; exact k3
          · have hd1 : ((z1 : Int) == 1) = false := by rw [beq_eq_false_iff_ne]; omega
            rw [if_neg g1, List.append_nil] at L1
            clear g1
            by_cases g2 : z2 = 1
            · have hd2 : ((z2 : Int) == 1) = true := by rw [g2]; rfl
              rw [if_pos g2] at L2
              have H1 := hide L1
              have H2 := hide L2
              clear g2 L1 L2
              go_wp2_with (at_builtin; refine wpList_append_own_at _ rfl _ _ 36 rfl (w.heap.size + 1) 3 i0 (.int .i64 0) 1 8 Tryd.underlying36 hi hz0 hz1 hz2 rfl (by decide) _ _ _ rfl (o2.alloc _) ⟨wr.heap.size, 0, none⟩ 1 1 [.int .i64 (k : Nat)] rfl rfl (cell_one_new _ _ _) (fun u hu => by simp at hu; subst hu; rfl) (by unfold maxLen; omega) (by omega) (by simp; omega) ?_; intro v'' u4 p2 g4 _ at4; obtain ⟨g'', cap'', rfl⟩ := ownsRow_succ p2; obtain ⟨m1, m2, m3, m4⟩ := append_apart hbr hsr o2 o1 hap.symm _ g4 at4)
              have e2 : S2.length + 1 = (S2 ++ [k]).length := by simp
              refine ⟨⟨k + 1, a1, c1, some ⟨g'', 0, none⟩, cap'', by omega, by go_num, by rw [H1.out], by rw [H2.out, e2], m1, by omega, ?_, ?_, ?_⟩, by simp [intOf]; omega⟩
              · rw [H1.out]; exact m2
              · rw [H2.out, ivals_snoc, ← e2]; exact p2
              · rw [H1.out, H2.out, ← e2]; exact m3.symm
            · have hd2 : ((z2 : Int) == 1) = false := by rw [beq_eq_false_iff_ne]; omega
              rw [if_neg g2, List.append_nil] at L2
              have H1 := hide L1
              have H2 := hide L2
              clear g2 L1 L2
              go_wp2
              refine ⟨⟨k + 1, a1, c1, a2, c2, by omega, by go_num, by rw [H1.out], by rw [H2.out], hbr, hsr, ?_, ?_, ?_⟩, by simp [intOf]; omega⟩
              · rw [H1.out]; exact o1
              · rw [H2.out]; exact o2
              · rw [H1.out, H2.out]; exact hap
    · obtain rfl : k = us.length := by omega
      go_wp2
      refine bodyPost_ret (v := .tuple #[.slice a1 (lowTo us us.length).length c1, .slice a2 (highTo us us.length).length c2]) (by simp [results, Tryd.results29, go_sem]) rfl ⟨a1, c1, a2, c2, rfl, ?_, ownsRow_ints o1, ownsRow_ints o2⟩
      exact hb0.trans (hbr.mono (by omega))
end Go.Proofs.YtnmiebeochinmaaDoor
