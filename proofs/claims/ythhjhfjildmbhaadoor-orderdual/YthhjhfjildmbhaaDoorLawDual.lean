/- The walk of the law OrderDual: it answers true, and writes nothing that was there. -/
import Derived.Test.YthhjhfjildmbhaaDoorDualPlain
import Derived.Test.YthhjhfjildmbhaaDoorCovers
import Derived.Test.YthhjhfjildmbhaaDoorDual
import Derived.Test.YthhjhfjildmbhaaDoorSame
namespace Go.Proofs.YthhjhfjildmbhaaDoor
open Go.RowKit Go.Shelf

theorem IsPairs.below {n₀ : Nat} {A B : World} {a : Option Addr} {l : List (Nat × Nat)} (h : IsPairs n₀ A a l) (hb : Below n₀ A B) : IsPairs n₀ B a l := by
  rcases h with h | ⟨b, h1, h2, h3⟩
  · exact .inl h
  · exact .inr ⟨b, h1, h2, fun i hi => ⟨(hb.cell (p := ⟨b, i * 2, none⟩) h2).trans (h3 i hi).1, (hb.cell (p := ⟨b, i * 2 + 1, none⟩) h2).trans (h3 i hi).2⟩⟩
theorem IsPairs.at {n₀ : Nat} {A : World} {a : Option Addr} {l : List (Nat × Nat)} (h : IsPairs n₀ A a l) {i : Nat} (hi : i < l.length) :
    ∃ b, a = some ⟨b, 0, none⟩ ∧ b < n₀ ∧ A.cell? ⟨b, i * 2, none⟩ = some (.int .i64 ((l[i].1 : Nat) : Int)) ∧ A.cell? ⟨b, i * 2 + 1, none⟩ = some (.int .i64 ((l[i].2 : Nat) : Int)) := by
  rcases h with h | ⟨b, h1, h2, h3⟩
  · subst h; simp at hi
  · exact ⟨b, h1, h2, (h3 i hi).1, (h3 i hi).2⟩
def foundB (M : List (Nat × Nat)) (j p1 p2 : Nat) : Bool := (M.take j).any fun q => decide (p1 = q.2) && decide (p2 = q.1)
theorem foundB_zero (M : List (Nat × Nat)) (p1 p2 : Nat) : foundB M 0 p1 p2 = false := by unfold foundB; simp
theorem foundB_succ {M : List (Nat × Nat)} {j : Nat} (h : j < M.length) (p1 p2 : Nat) : foundB M (j + 1) p1 p2 = (foundB M j p1 p2 || (decide (p1 = M[j].2) && decide (p2 = M[j].1))) := by
  unfold foundB; rw [List.take_succ_eq_append_getElem h, List.any_append]; simp
theorem foundB_all {M : List (Nat × Nat)} {p1 p2 : Nat} (h : (p2, p1) ∈ M) : foundB M M.length p1 p2 = true := by
  unfold foundB; rw [List.take_length, List.any_eq_true]; exact ⟨_, h, by simp⟩

theorem sound_any (n : Int) (a : Option Addr) (cap : Nat) (us : List Nat) (n₀ : Nat) (hf : Fit us) (w : World) (hw : IsWords n₀ w a us) (hn₀ : n₀ ≤ w.heap.size) :
    Calls Tryd.prog 26 #[.agg #[.int .i64 n, .slice a us.length cap]] w fun e w' => e = .returned (.bool (codeOf n us == 0)) ∧ Below w.heap.size w w' := by
  have hb0 : Below w.heap.size w (w.alloc (.cells #[.int .i64 n, .slice a us.length cap] 24)) := (Below.refl _ _).alloc (Nat.le_refl _) _
  have hck := OrderCheck_any n a cap us n₀ hf _ (hw.below (hb0.mono hn₀)) (by simp; omega)
  generalize codeOf n us = c at *
  have Hb := hide hb0
  clear hb0
  go_enter Tryd.func26, Tryd.ntmps26
  go_wp2_with (go_at_call 11; refine hck.mono ?_; rintro e w1 ⟨rfl, hb1⟩)
  go_ret
  exact ⟨rfl, Hb.out.trans (hb1.mono (by simp))⟩
theorem refused_any (n : Int) (a : Option Addr) (cap : Nat) (us : List Nat) (n₀ : Nat) (hf : Fit us) (w : World) (hT : TabAt w) (hw : IsWords n₀ w a us) (hg : 0 < n₀) (hn₀ : n₀ ≤ w.heap.size) :
    Calls Tryd.prog 27 #[.agg #[.int .i64 n, .slice a us.length cap]] w fun e w' => e = .returned (.bool (codeOf n us != 0)) ∧ Below w.heap.size w w' := by
  have hb0 : Below w.heap.size w (w.alloc (.cells #[.int .i64 n, .slice a us.length cap] 24)) := (Below.refl _ _).alloc (Nat.le_refl _) _
  have hck := Check_any n a cap us n₀ hf _ (hT.below hb0 (by omega)) (hw.below (hb0.mono hn₀)) hg (by simp; omega)
  generalize codeOf n us = c at *
  have Hb := hide hb0
  clear hb0
  go_enter Tryd.func27, Tryd.ntmps27
  go_wp2_with (go_at_call 9; refine hck.mono ?_; rintro e w1 ⟨rfl, hb1⟩)
  go_ret
  exact ⟨rfl, Hb.out.trans (hb1.mono (by simp))⟩

theorem one_order (w : World) (t : TypeId) (p0 p1 : Value) {W : World} (h : (w.alloc (.cells #[p0, p1] t)) = W) :
    Row W w.heap.size t [p0, p1] ∧ Below w.heap.size w W ∧ W.heap.size = w.heap.size + 1 := by
  subst h
  exact ⟨Row.new w t [p0, p1], (Below.refl _ _).alloc (Nat.le_refl _) _, by simp⟩

set_option maxRecDepth 100000 in
set_option maxHeartbeats 1000000 in
theorem dual_bad (n : Int) (a : Option Addr) (cap : Nat) (us : List Nat) (n₀ : Nat) (hf : Fit us) (w : World) (hT : TabAt w) (hw : IsWords n₀ w a us) (hg : 0 < n₀) (hn₀ : n₀ ≤ w.heap.size) (hc : codeOf n us ≠ 0) :
    Calls Tryd.prog 8 #[.agg #[.int .i64 n, .slice a us.length cap]] w fun e w' => e = .returned (.bool true) ∧ Below w.heap.size w w' := by
  obtain ⟨r0, hb0, hs0⟩ := one_order w 24 (.int .i64 n) (.slice a us.length cap) rfl
  have hT1 := hT.below hb0 (by omega)
  have hw1 := hw.below (hb0.mono hn₀)
  have hso := sound_any n a cap us n₀ hf _ hw1 (by omega)
  have h1 : (codeOf n us == 0) = false := by rw [beq_eq_false_iff_ne]; exact hc
  have h2 : (codeOf n us != 0) = true := by rw [bne_iff_ne]; exact hc
  rw [h1] at hso
  have c00 := r0.cell (i := 0) rfl
  have c01 := r0.cell (i := 1) rfl
  go_enter Tryd.func8, Tryd.ntmps8
  go_wp2_with fail
  refine hso.mono ?_
  rintro e w1 ⟨rfl, hb1⟩
  have q0 := row_below r0 hb1 r0.lt
  have hs1 := hb1.size
  have hre := refused_any n a cap us n₀ hf w1 (hT1.below hb1 (by omega)) (hw1.below (hb1.mono (by omega))) hg (by omega)
  rw [h2] at hre
  have d00 := q0.cell (i := 0) rfl
  have d01 := q0.cell (i := 1) rfl
  have HB := hide (hb0.trans (hb1.mono (by omega)))
  clear hso c00 c01 hb0 hb1 h1 h2 hc
  go_wp2_with (go_at_call 27; refine hre.mono ?_; rintro e w2 ⟨rfl, hb2⟩)
  go_ret
  exact ⟨rfl, HB.out.trans (hb2.mono (by have := HB.out.size; omega))⟩
set_option maxRecDepth 100000 in
set_option maxHeartbeats 1000000 in
theorem dual_ok (n : Int) (a : Option Addr) (cap : Nat) (us : List Nat) (n₀ : Nat) (hf : Fit us) (w : World) (hT : TabAt w) (hw : IsWords n₀ w a us) (hg : 0 < n₀) (hn₀ : n₀ ≤ w.heap.size) (hc : codeOf n us = 0) :
    Calls Tryd.prog 8 #[.agg #[.int .i64 n, .slice a us.length cap]] w fun e w' => e = .returned (.bool true) ∧ Below w.heap.size w w' := by
  obtain ⟨_, h16, hlen, hin, hord⟩ := code_zero hc
  have hl16 : us.length ≤ 16 := by omega
  obtain ⟨r0, hb0, hs0⟩ := one_order w 24 (.int .i64 n) (.slice a us.length cap) rfl
  have hT0 := hT.below hb0 (by omega)
  have hw0 := hw.below (hb0.mono hn₀)
  have hso := sound_any n a cap us n₀ hf _ hw0 (by omega)
  have h1 : (codeOf n us == 0) = true := by rw [beq_iff_eq]; exact hc
  rw [h1] at hso
  have c00 := r0.cell (i := 0) rfl
  have c01 := r0.cell (i := 1) rfl
  have Hc := hide hc
  clear hc h1 hlen
  go_enter Tryd.func8, Tryd.ntmps8
  go_wp2_with fail
  refine hso.mono ?_
  rintro e w1 ⟨rfl, hb1⟩
  have q1 := row_below r0 hb1 r0.lt
  have hs1 := hb1.size
  have hB1 : Below w.heap.size w w1 := hb0.trans (hb1.mono (by omega))
  have hz1 : w.heap.size < w1.heap.size := q1.lt
  have d00 := q1.cell (i := 0) rfl
  have d01 := q1.cell (i := 1) rfl
  clear hso c00 c01 r0 hb0 hb1 hs0 hs1 hT0 hw0
  -- the first Dual
  go_wp2_with fail
  refine (Dual_ok n a cap us n₀ hf w1 (hT.below hB1 (by omega)) (hw.below (hB1.mono hn₀)) hg (by omega) Hc.out).mono ?_
  rintro e w2 ⟨g, ds, rfl, hb2, hg1, rD, hTur⟩
  have hs2 := hb2.size
  have hB2 : Below w.heap.size w w2 := hB1.trans (hb2.mono (by omega))
  have q2 := row_below q1 hb2 hz1
  have hgl := rD.lt
  obtain ⟨rd, hb3, hs3⟩ := one_order w2 24 (.int .i64 n) (.slice (some ⟨g, 0, none⟩) us.length us.length) rfl
  obtain ⟨W3, hW3⟩ : ∃ W3, w2.alloc (.cells #[.int .i64 n, .slice (some ⟨g, 0, none⟩) us.length us.length] 24) = W3 := ⟨_, rfl⟩
  rw [hW3] at rd hb3 hs3
  have h3a : w2.heap.size + 1 ≤ W3.heap.size := by omega
  clear hs3
  have hB3 : Below w.heap.size w W3 := hB2.trans (hb3.mono (by omega))
  have q3 := row_below q2 hb3 q2.lt
  have rD3 := row_below rD hb3 hgl
  have e00 := q3.cell (i := 0) rfl
  have e01 := q3.cell (i := 1) rfl
  have ed0 := rd.cell (i := 0) rfl
  have ed1 := rd.cell (i := 1) rfl
  have hcd : codeOf n ds = 0 := tur_code Hc.out hTur
  have hdu2 := Dual_ok n (some ⟨g, 0, none⟩) us.length ds W3.heap.size hTur.fit W3 (hT.below hB3 (by omega)) (rD3.words rD3.lt) (by omega) (Nat.le_refl _) hcd
  rw [hTur.len] at hdu2
  clear d00 d01
  go_wp2_with fail
  refine hdu2.mono ?_
  rintro e w4 ⟨g2, es, rfl, hb4, hg2, rE, hTur2⟩
  obtain rfl : es = us := tur_back hf hin hTur (by rw [hTur.len]; exact hTur2)
  have hs4 := hb4.size
  have hB4 : Below w.heap.size w w4 := hB3.trans (hb4.mono (by omega))
  have q4 := row_below q3 hb4 q3.lt
  have rd4 := row_below rd hb4 rd.lt
  have rD4 := row_below rD3 hb4 rD3.lt
  clear hdu2 e00 e01 ed0 ed1 hW3 q3 rd rD3 hb3
  obtain ⟨rb, hb5, hs5⟩ := one_order w4 24 (.int .i64 n) (.slice (some ⟨g2, 0, none⟩) es.length es.length) rfl
  obtain ⟨W5, hW5⟩ : ∃ W5, w4.alloc (.cells #[.int .i64 n, .slice (some ⟨g2, 0, none⟩) es.length es.length] 24) = W5 := ⟨_, rfl⟩
  rw [hW5] at rb hb5 hs5
  have h5a : w4.heap.size + 1 ≤ W5.heap.size := by omega
  clear hs5
  have hB5 : Below w.heap.size w W5 := hB4.trans (hb5.mono (by omega))
  have q5 := row_below q4 hb5 q4.lt
  have rd5 := row_below rd4 hb5 rd4.lt
  have rD5 := row_below rD4 hb5 rD4.lt
  have rE5 := row_below rE hb5 rE.lt
  have e00 := q5.cell (i := 0) rfl
  have e01 := q5.cell (i := 1) rfl
  have hco := Covers_ok n a cap es n₀ hf W5 (hT.below hB5 (by omega)) (hw.below (hB5.mono hn₀)) hg (by omega) Hc.out
  obtain ⟨L, hLe⟩ : ∃ L, coverL es es.length = L := ⟨_, rfl⟩
  rw [hLe] at hco
  go_wp2_with fail
  refine hco.mono ?_
  rintro e w6 ⟨av, cv, rfl, hb6, hownL⟩
  have hs6 := hb6.size
  have hB6 : Below w.heap.size w w6 := hB5.trans (hb6.mono (by omega))
  have q6 := row_below q5 hb6 q5.lt
  have rd6 := row_below rd5 hb6 rd5.lt
  have rD6 := row_below rD5 hb6 rD5.lt
  have rE6 := row_below rE5 hb6 rE5.lt
  have rb6 := row_below rb hb6 rb.lt
  have f00 := rd6.cell (i := 0) rfl
  have f01 := rd6.cell (i := 1) rfl
  have hco2 := Covers_ok n (some ⟨g, 0, none⟩) es.length ds w6.heap.size hTur.fit w6 (hT.below hB6 (by omega)) (rD6.words rD6.lt) (by omega) (Nat.le_refl _) hcd
  obtain ⟨M, hMe⟩ : ∃ M, coverL ds ds.length = M := ⟨_, rfl⟩
  have hml : M.length = L.length := by rw [← hMe, ← hLe]; exact swap_len hTur
  rw [hMe, hTur.len] at hco2
  clear hco e00 e01 hW5
  go_wp2_with fail
  refine hco2.mono ?_
  rintro e w7 ⟨av2, cv2, rfl, hb7, hownM⟩
  have hs7 := hb7.size
  have hB7 : Below w.heap.size w w7 := hB6.trans (hb7.mono (by omega))
  have q7 := row_below q6 hb7 q6.lt
  have rE7 := row_below rE6 hb7 rE6.lt
  have rb7 := row_below rb6 hb7 rb6.lt
  have hownL7 := ownsRow_below hownL hb7
  have h00 := q7.cell (i := 0) rfl
  have h01 := q7.cell (i := 1) rfl
  have j00 := rb7.cell (i := 0) rfl
  have j01 := rb7.cell (i := 1) rfl
  have hor := Orders_any n n (some ⟨g2, 0, none⟩) a es.length cap es es w7.heap.size (by omega) w7 (rE7.words rE7.lt) ((hw.below (hB7.mono hn₀)).mono (by omega)) (Nat.le_refl _)
  have hand : ((n == n) && sameB es es) = true := by simp [sameB]
  rw [hand] at hor
  have hLM : ((L.length : Int) != (M.length : Int)) = false := by rw [bne_eq_false_iff_eq, hml]
  have HL := hide hLe
  have HM := hide hMe
  have HML := hide hml
  clear hLe hMe hml hco2 f00 f01 hand hcd
  go_wp2_with fail
  refine hor.mono ?_
  rintro e w8 ⟨rfl, hb8⟩
  have hB8 : Below w.heap.size w w8 := hB7.trans (hb8.mono (by have := hB7.size; omega))
  have hpL := (ownsRow_pairs (ownsRow_below hownL7 hb8))
  have hpM := (ownsRow_pairs (ownsRow_below hownM hb8))
  have hsz := hB8.size
  have hLn : L.length ≤ 1024 := by
    rw [← HL.out]
    have h1 := coverL_len es es.length
    have h3 : es.length * es.length ≤ 16 * 16 := Nat.mul_le_mul hl16 hl16
    omega
  have hMn : M.length ≤ 1024 := by rw [HML.out]; exact hLn
  clear hor h00 h01 j00 j01 hb2 hb4 hb5 hb6 hb7 hb8 hownL hownM hownL7 q1 q2 q4 q5 q6 q7 rd4 rd5 rd6 rD rD4 rD5 rD6 rE rE5 rE6 rE7 rb rb6 rb7 hB1 hB2 hB3 hB4 hB5 hB6 hB7
  go_wp2
  go_loopw [71] (fun i wr => ∃ k : Nat, k ≤ L.length ∧ i = .int .i64 k ∧ Below w8.heap.size w8 wr) (fun i _ => L.length - (intOf i).toNat)
  case atStart => exact ⟨0, Nat.zero_le _, rfl, Below.refl _ _⟩
  case round =>
    obtain ⟨k, hk, rfl, hbr⟩ := hrel
    by_cases hlt : k < L.length
    · obtain ⟨bp, rfl, hbp, cp1, cp2⟩ := (hpL.below hbr).at hlt
      have hmem : (L[k].2, L[k].1) ∈ M := by
        rw [← HM.out]; exact swap_mem hTur (by rw [HL.out]; exact List.getElem_mem hlt)
      obtain ⟨p1, p2, hp⟩ : ∃ p1 p2, L[k] = (p1, p2) := ⟨L[k].1, L[k].2, rfl⟩
      rw [hp] at hmem cp1 cp2
      have HME := hide (foundB_all hmem)
      clear hp hmem
      have hrs := hbr.size
      go_wp2
      obtain ⟨W9, hW9⟩ : ∃ W9, wr.alloc (.cells #[.int .i64 (p1 : Nat), .int .i64 (p2 : Nat)] 45) = W9 := ⟨_, rfl⟩
      have r9 : Row W9 wr.heap.size 45 [.int .i64 (p1 : Nat), .int .i64 (p2 : Nat)] := by rw [← hW9]; exact Row.new wr _ [.int .i64 (p1 : Nat), .int .i64 (p2 : Nat)]
      have hb9 : Below w8.heap.size w8 W9 := by rw [← hW9]; exact hbr.alloc hrs _
      rw [hW9]
      clear hW9
      go_loopw [12, 77] (fun f j wq => ∃ j' : Nat, j' ≤ M.length ∧ j = .int .i64 j' ∧ f = .bool (foundB M j' p1 p2) ∧ Below W9.heap.size W9 wq) (fun _ j _ => M.length - (intOf j).toNat)
      case atStart => exact ⟨0, Nat.zero_le _, rfl, by rw [foundB_zero], Below.refl _ _⟩
      case round =>
        obtain ⟨j, hj, rfl, rfl, hbq⟩ := hrel
        have hb10 : Below w8.heap.size w8 _ := hb9.trans (hbq.mono hb9.size)
        have r10 := row_below r9 hbq r9.lt
        have s0 := r10.cell (i := 0) rfl
        have s1 := r10.cell (i := 1) rfl
        have hqs := hbq.size
        have hlt10 := r10.lt
        by_cases hlj : j < M.length
        · obtain ⟨bq, rfl, hbq2, cq1, cq2⟩ := (hpM.below hb10).at hlj
          have Hs := hide (foundB_succ hlj p1 p2)
          obtain ⟨q1, q2, hq⟩ : ∃ q1 q2, M[j] = (q1, q2) := ⟨M[j].1, M[j].2, rfl⟩
          rw [hq] at cq1 cq2
          have Hq := hide hq
          clear hq
          by_cases t1 : p1 = q2
          · have d1 : ((p1 : Int) == (q2 : Int)) = true := by rw [beq_iff_eq]; omega
            by_cases t2 : p2 = q1
            · have d2 : ((p2 : Int) == (q1 : Int)) = true := by rw [beq_iff_eq]; omega
              have Ht := hide (And.intro t1 t2)
              clear t1 t2
              go_wp2
              exact ⟨⟨j + 1, by omega, by go_num, by rw [Hs.out, Hq.out]; simp [Ht.out.1, Ht.out.2], (hbq.alloc hqs _)⟩, by simp [intOf]; omega⟩
            · have d2 : ((p2 : Int) == (q1 : Int)) = false := by rw [beq_eq_false_iff_ne]; omega
              have Ht := hide t2
              clear t1 t2
              go_wp2
              exact ⟨⟨j + 1, by omega, by go_num, by rw [Hs.out, Hq.out]; simp [Ht.out], (hbq.alloc hqs _)⟩, by simp [intOf]; omega⟩
          · have d1 : ((p1 : Int) == (q2 : Int)) = false := by rw [beq_eq_false_iff_ne]; omega
            have Ht := hide t1
            clear t1
            go_wp2
            exact ⟨⟨j + 1, by omega, by go_num, by rw [Hs.out, Hq.out]; simp [Ht.out], (hbq.alloc hqs _)⟩, by simp [intOf]; omega⟩
        · obtain rfl : j = M.length := by omega
          rw [HME.out]
          go_wp2
          exact ⟨⟨k + 1, by omega, by go_num, hb10⟩, by simp [intOf]; omega⟩
    · go_wp2
      go_ret
      exact ⟨rfl, hB8.trans (hbr.mono hsz)⟩

/-- **OrderDual answers true, for every order, and writes nothing that was there** -/
theorem dual_any (n : Int) (a : Option Addr) (cap : Nat) (us : List Nat) (n₀ : Nat) (hf : Fit us) (w : World) (hT : TabAt w) (hw : IsWords n₀ w a us) (hg : 0 < n₀) (hn₀ : n₀ ≤ w.heap.size) :
    Calls Tryd.prog 8 #[.agg #[.int .i64 n, .slice a us.length cap]] w fun e w' => e = .returned (.bool true) ∧ Below w.heap.size w w' := by
  by_cases hc : codeOf n us = 0
  · exact dual_ok n a cap us n₀ hf w hT hw hg hn₀ hc
  · exact dual_bad n a cap us n₀ hf w hT hw hg hn₀ hc
end Go.Proofs.YthhjhfjildmbhaaDoor
