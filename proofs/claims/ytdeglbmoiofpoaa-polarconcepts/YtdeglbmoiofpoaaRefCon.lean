/- The contract of the document's PolarConcepts. -/
import Derived.Test.YtdeglbmoiofpoaaConPro
import Derived.Test.YtdeglbmoiofpoaaRefPol
import Derived.WalkSmall
import Derived.Lib.SmallJoins
namespace Go.Proofs.Ytdeglbmoiofpoaa
open Go.RowKit Go.Shelf

/-- the concepts whose rows are numbers below y -/
def conTP (n : Nat) (us : List Nat) (y : Nat) : List (Nat × Nat) := (conTo n us y).map fun x => (x, upW n us x)
theorem conTP_yes {n : Nat} {us : List Nat} {y : Nat} (h : dnW us (upW n us y) = y) : conTP n us (y + 1) = conTP n us y ++ [(y, upW n us y)] := by
  unfold conTP; rw [conTo_succ, if_pos h, List.map_append]; rfl
theorem conTP_no {n : Nat} {us : List Nat} {y : Nat} (h : dnW us (upW n us y) ≠ y) : conTP n us (y + 1) = conTP n us y := by
  unfold conTP; rw [conTo_succ, if_neg h, List.append_nil]
theorem cvals_snoc : ∀ (l : List (Nat × Nat)) (x y : Nat), cvals (l ++ [(x, y)]) = cvals l ++ [.int .u32 (x : Int), .int .u32 (y : Int)]
  | [], _, _ => rfl
  | a :: l, x, y => by show _ :: _ :: cvals (l ++ [(x, y)]) = _; rw [cvals_snoc l x y]; rfl
theorem ownsRow_cons {W : World} {base : Nat} {t : TypeId} {av : Option Addr} {cv k : Nat} {Q : List (Nat × Nat)} (h : W.ownsRow base t 2 (.slice av k cv) k (cvals Q)) : Q = [] ∨ ∃ B, av = some ⟨B, 0, none⟩ ∧ Cons W B Q ∧ B < W.heap.size := by
  have hlen : Q.length = k := by have := h.1; rw [cvals_len] at this; omega
  rcases h.2 with ⟨h1, h2⟩ | ⟨g, cap, cur, h1, h2, h3, h4, h5, h6, h7⟩
  · exact .inl (List.length_eq_zero_iff.1 (by omega))
  · cases h1
    refine .inr ⟨g, rfl, fun i hi => ?_, (Array.getElem?_eq_some_iff.1 h3).1⟩
    have key : ∀ j, j < k * 2 → W.cell? ⟨g, j, none⟩ = (cvals Q)[j]? := fun j hj => by
      have hx : (cur.toList.take (k * 2))[j]? = (cvals Q)[j]? := by rw [h7]
      rw [List.getElem?_take, if_pos hj] at hx
      simp [World.cell?, h3, ← Array.getElem?_toList, hx]
    have hc := cvals_at Q i hi
    exact ⟨(key (i * 2) (by omega)).trans hc.1, (key (i * 2 + 1) (by omega)).trans hc.2⟩

set_option maxRecDepth 100000 in
set_option maxHeartbeats 2000000 in
theorem RefCon_any (m : Nat) (hm : m ≤ 16) (a : Option Addr) (cap : Nat) (us : List Nat) (hl : us.length ≤ 16) (most : Nat) (hmost : most ≤ 1000) (n₀ : Nat) (w : World) (hR : Rdy a us n₀ w) :
    Calls Try.prog 7 #[.agg #[.slice a us.length cap, .int .i64 m], .int .i64 (most : Nat)] w fun e w' => ∃ Q av cv, e = .returned (.slice av (List.length Q) cv) ∧ (Q = conP m us ∨ (most < Q.length ∧ most < (conL m us).length)) ∧ Q.length ≤ most + 1 ∧ w'.ownsRow w.heap.size 33 2 (.slice av (List.length Q) cv) (List.length Q) (cvals Q) ∧ Below w.heap.size w w' := by
  obtain ⟨i0, hi, hz0, hz1, hz2⟩ := info_parts info_con
  obtain ⟨r0, hb0, hs0⟩ := one_row w 24 (.slice a us.length cap) (.int .i64 m) rfl
  obtain ⟨W0, hW0⟩ : ∃ V, w.alloc (.cells #[.slice a us.length cap, .int .i64 m] 24) = V := ⟨_, rfl⟩
  rw [hW0] at r0 hb0 hs0
  have R0 := hR.step hb0
  have c0 := r0.cell (i := 0) rfl
  have c1 := r0.cell (i := 1) rfl
  have lt0 := r0.lt
  have HB := hide hb0
  have hle0 := hb0.size
  have hbrw := bit_raw (i := us.length) (by omega)
  have hpl : bitW us.length ≤ 65536 := by unfold bitW; exact Nat.le_trans (Nat.pow_le_pow_right (by decide) hl) (by decide)
  have HP2 := hide (show bitW us.length = 2 ^ us.length from rfl)
  clear hb0 hs0
  go_enter Try.func7, Try.ntmps7
  go_wp2_with fail
  go_loopw [5, 6] (fun ls x wr => ∃ (y : Nat) (Q : List (Nat × Nat)) (av : Option Addr) (cv : Nat), y ≤ bitW us.length ∧ x = .int .u32 (y : Nat) ∧ ls = .slice av (List.length Q) cv ∧ Hid (Q = conTP m us y) ∧ Hid (Q.length ≤ most + 1) ∧ Below W0.heap.size W0 wr ∧ wr.ownsRow W0.heap.size 33 2 (.slice av (List.length Q) cv) (List.length Q) (cvals Q)) (fun _ x _ => bitW us.length - (intOf x).toNat)
  case atStart => exact ⟨0, [], none, 0, Nat.zero_le _, rfl, rfl, hide rfl, hide (Nat.zero_le _), Below.refl _ _, World.ownsRow_nil ..⟩
  case round =>
    obtain ⟨y, Q, av, cv, hy, rfl, rfl, HQ, HQl, hbr, hown⟩ := hrel
    have hBr := HB.out.trans (hbr.mono HB.out.size)
    have r3 := row_below r0 hbr lt0
    have lt3 := r3.lt
    clear c0 c1
    have c0 := r3.cell (i := 0) rfl
    have c1 := r3.cell (i := 1) rfl
    have hQl := HQl.out
    by_cases hlt : y < bitW us.length
    · by_cases hmo : Q.length ≤ most
      · have Rr := hR.step hBr
        have hy32 : y < 4294967296 := by omega
        have s1 := RefPUp_any m hm a cap us hl y hy32 n₀ wr Rr
        have hul : upW m us y < 4294967296 := upW_lt hm us y
        have HYes := hide (fun h => conTP_yes (n := m) (us := us) (y := y) h)
        have HNo := hide (fun h => conTP_no (n := m) (us := us) (y := y) h)
        generalize hu : upW m us y = u at *
        go_wp2_with fail
        refine s1.mono ?_
        rintro e w2 ⟨rfl, hb2⟩
        have hB2 := hBr.trans (hb2.mono hBr.size)
        have r4 := row_below r3 hb2 lt3
        have lt4 := r4.lt
        have R2 := hR.step hB2
        have s2 := RefPDown_any (m : Int) a cap us hl u hul n₀ w2 R2
        have hown := ownsRow_below hown hb2
        have hbr2 := hbr.trans (hb2.mono hbr.size)
        clear c0 c1 s1
        have c0 := r4.cell (i := 0) rfl
        have c1 := r4.cell (i := 1) rfl
        by_cases he : dnW us u = y
        · have hT := HYes.out he
          have HT := hide hT
          have e1 : (((dnW us u : Nat) : Int) == ((y : Nat) : Int)) = true := by rw [beq_iff_eq, he]
          clear hT he hu
          generalize dnW us u = v at *
          go_wp2_with fail
          refine s2.mono ?_
          rintro e w3 ⟨rfl, hb3⟩
          have hown := ownsRow_below hown hb3
          have hbr3 := hbr2.trans (hb3.mono hbr2.size)
          have hbsz := hbr3.size
          clear s2 c0 c1
          go_wp2_with (at_builtin; refine wpList_append_own _ rfl _ _ 25 rfl W0.heap.size 33 i0 (.agg #[.int .u32 0, .int .u32 0]) 2 8 Try.underlying25 hi hz0 hz1 hz2 rfl (by decide) _ _ _ rfl (hown.alloc _) ⟨w3.heap.size, 0, none⟩ 1 1 [.int .u32 (y : Nat), .int .u32 (u : Nat)] rfl rfl (cell_two_new _ _ _ _) (fun x hx => by simp at hx; rcases hx with rfl | rfl <;> rfl) (by unfold maxLen; omega) (by omega) (by simp; omega) ?_)
          intro v' w5 hown5 hgrow5 _
          obtain ⟨g', cap', rfl⟩ := ownsRow_succ hown5
          have hB5 : Below W0.heap.size W0 w5 := (hbr3.alloc hbsz (.cells #[.int .u32 (y : Nat), .int .u32 (u : Nat)] 33)).grown hgrow5 (by simp; omega) fun q eq => by
            apply Nat.le_of_not_lt; intro hql
            exact ownBlock_ge hown (b := q) hql eq.symm
          have hl1 : (Q ++ [(y, u)]).length = Q.length + 1 := by rw [List.length_append]; rfl
          go_wp2_with fail
          refine ⟨⟨y + 1, Q ++ [(y, u)], some ⟨g', 0, none⟩, cap', by omega, by go_num, by rw [hl1], hide (by rw [HT.out, HQ.out]), hide (by rw [hl1]; omega), hB5, ?_⟩, by simp [intOf]; omega⟩
          rw [hl1, cvals_snoc]
          exact hown5
        · have hT := HNo.out he
          have HT := hide hT
          have e1 : (((dnW us u : Nat) : Int) == ((y : Nat) : Int)) = false := by rw [beq_eq_false_iff_ne]; omega
          clear hT he hu
          generalize dnW us u = v at *
          go_wp2_with fail
          refine s2.mono ?_
          rintro e w3 ⟨rfl, hb3⟩
          have hown := ownsRow_below hown hb3
          have hbr3 := hbr2.trans (hb3.mono hbr2.size)
          clear s2 c0 c1
          go_wp2_with fail
          exact ⟨⟨y + 1, Q, av, cv, by omega, by go_num, rfl, hide (by rw [HT.out]; exact HQ.out), HQl, hbr3, hown⟩, by simp [intOf]; omega⟩
      · have HX := hide (show most < (conL m us).length by
          have h1 : (conTP m us y).length ≤ (conL m us).length := by
            unfold conTP conL
            rw [List.length_map]
            exact (conTo_pre m us (by rw [← HP2.out]; omega)).length_le
          rw [← HQ.out] at h1
          omega)
        go_wp2_with fail
        go_ret
        exact ⟨Q, av, cv, rfl, .inr ⟨by omega, HX.out⟩, HQl.out, Go.Joins.ownsRow_le hown hle0, hBr⟩
    · have hyy : y = bitW us.length := by omega
      have HX := hide (show Q = conP m us by rw [HQ.out, hyy, HP2.out]; rfl)
      clear hyy
      go_wp2_with fail
      go_ret
      exact ⟨Q, av, cv, rfl, .inl HX.out, HQl.out, Go.Joins.ownsRow_le hown hle0, hBr⟩
end Go.Proofs.Ytdeglbmoiofpoaa
