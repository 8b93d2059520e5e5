/- The walk of the law FixedTells: it answers true, and writes nothing that was there. -/
import Derived.Test.YtfmpppdcabcbnaaDoorFixAll
import Derived.Test.YtfmpppdcabcbnaaDoorInts
import Derived.Test.YtfmpppdcabcbnaaDoorTableOk
namespace Go.Proofs.YtfmpppdcabcbnaaDoor
open Go.RowKit Go.Shelf

set_option maxRecDepth 100000 in
set_option maxHeartbeats 2000000 in
theorem ftells_err (n : Int) (a : Option Addr) (cap : Nat) (us : List Nat) (ag : Option Addr) (cg : Nat) (zs : List Int) (n₀ : Nat) (hf : Fit us) (h63 : zs.length ≤ 9223372036854775807) (w : World) (hT : TabAt w) (hw : IsWords n₀ w a us) (hz : ZInts n₀ w ag zs) (hg : 0 < n₀) (hn₀ : n₀ ≤ w.heap.size) (hc : fixCode n us zs ≠ 0) :
    Calls Tryd.prog 3 #[.agg #[.int .i64 n, .slice a us.length cap], .slice ag zs.length cg] w fun e w' => e = .returned (.bool true) ∧ Below w.heap.size w w' := by
  have hTW : ∀ {W}, Below w.heap.size w W → TabAt W := fun hW => hT.below hW (by omega)
  have hwW : ∀ {W}, Below w.heap.size w W → IsWords n₀ W a us := fun hW => hw.below (hW.mono hn₀)
  have hzW : ∀ {W}, Below w.heap.size w W → ZInts n₀ W ag zs := fun hW => hz.below (hW.mono hn₀)
  have hnW : ∀ {W}, Below w.heap.size w W → n₀ ≤ W.heap.size := fun hW => by have := hW.size; omega
  obtain ⟨r0, hb0, hs0⟩ := one_row w 24 (.int .i64 n) (.slice a us.length cap) rfl
  have s1 := FCheck_any n a cap us ag cg zs n₀ hf h63 _ (hTW hb0) (hwW hb0) (hzW hb0) hg (hnW hb0)
  have s2 : ∀ W, Below w.heap.size w W → _ := fun W hW => FAll_err n a cap us ag cg zs n₀ hf h63 W (hTW hW) (hwW hW) (hzW hW) hg (hnW hW) hc
  have s3 : ∀ W, Below w.heap.size w W → _ := fun W hW => OrderCheck_any n a cap us n₀ hf W (hwW hW) (hnW hW)
  unfold fixErr at s2
  have lt0 := r0.lt
  have e1 : (fixCode n us zs == fixCode n us zs) = true := by simp
  have e2 : (fixCode n us zs != 0) = true := by rw [bne_iff_ne]; exact hc
  by_cases h0 : codeOf n us = 0
  · have en := (code_zero h0).2.2.1.symm
    have hl16 : us.length ≤ 16 := by have := code_zero h0; omega
    subst en
    have s4 : ∀ W, Below w.heap.size w W → _ := fun W hW => RefFix_any a cap us ag cg zs n₀ hf hl16 h63 W (hwW hW) (hzW hW) (hnW hW)
    rw [h0] at s3
    rw [← fixCode_map (zs := zs) h0] at s4
    clear hc h0
    generalize fixCode us.length us zs = c at *
    go_enter Tryd.func3, Tryd.ntmps3
    go_wp2_with fail
    refine s1.mono ?_
    rintro e w1 ⟨rfl, hb1⟩
    have q0 := row_below r0 hb1 lt0
    have lq0 := q0.lt
    have j0 := q0.cell (i := 0) rfl
    have j1 := q0.cell (i := 1) rfl
    have hB1 : Below w.heap.size w w1 := hb0.trans (hb1.mono (by omega))
    go_wp2_with fail
    refine (s2 w1 hB1).mono ?_
    rintro e w2 ⟨rfl, hb2⟩
    clear j0 j1
    have q1 := row_below q0 hb2 lq0
    have lq1 := q1.lt
    have j0 := q1.cell (i := 0) rfl
    have j1 := q1.cell (i := 1) rfl
    have hB2 : Below w.heap.size w w2 := hB1.trans (hb2.mono hB1.size)
    go_wp2_with fail
    refine (s3 w2 hB2).mono ?_
    rintro e w3 ⟨rfl, hb3⟩
    clear j0 j1
    have q2 := row_below q1 hb3 lq1
    have j0 := q2.cell (i := 0) rfl
    have j1 := q2.cell (i := 1) rfl
    have hB3 : Below w.heap.size w w3 := hB2.trans (hb3.mono hB2.size)
    go_wp2_with fail
    refine (s4 w3 hB3).mono ?_
    rintro e w4 ⟨rfl, hb4⟩
    have hB4 : Below w.heap.size w w4 := hB3.trans (hb4.mono hB3.size)
    go_wp2_with fail
    go_ret
    exact ⟨rfl, hB4⟩
  · rw [fixCode_bad h0] at *
    have e3 : (codeOf n us == 0) = false := by rw [beq_eq_false_iff_ne]; exact h0
    clear hc h0
    generalize codeOf n us = c at *
    go_enter Tryd.func3, Tryd.ntmps3
    go_wp2_with fail
    refine s1.mono ?_
    rintro e w1 ⟨rfl, hb1⟩
    have q0 := row_below r0 hb1 lt0
    have lq0 := q0.lt
    have j0 := q0.cell (i := 0) rfl
    have j1 := q0.cell (i := 1) rfl
    have hB1 : Below w.heap.size w w1 := hb0.trans (hb1.mono (by omega))
    go_wp2_with fail
    refine (s2 w1 hB1).mono ?_
    rintro e w2 ⟨rfl, hb2⟩
    clear j0 j1
    have q1 := row_below q0 hb2 lq0
    have lq1 := q1.lt
    have j0 := q1.cell (i := 0) rfl
    have j1 := q1.cell (i := 1) rfl
    have hB2 : Below w.heap.size w w2 := hB1.trans (hb2.mono hB1.size)
    go_wp2_with fail
    refine (s3 w2 hB2).mono ?_
    rintro e w3 ⟨rfl, hb3⟩
    have hB3 : Below w.heap.size w w3 := hB2.trans (hb3.mono hB2.size)
    go_wp2_with fail
    go_ret
    exact ⟨rfl, hB3⟩

set_option maxRecDepth 100000 in
set_option maxHeartbeats 2000000 in
theorem ftells_ok (a : Option Addr) (cap : Nat) (us : List Nat) (ag : Option Addr) (cg : Nat) (zs : List Int) (n₀ : Nat) (hf : Fit us) (w : World) (hT : TabAt w) (hw : IsWords n₀ w a us) (hz : ZInts n₀ w ag zs) (hg : 0 < n₀) (hn₀ : n₀ ≤ w.heap.size) (h0 : codeOf us.length us = 0) (hm : mapCode us zs = 0) :
    Calls Tryd.prog 3 #[.agg #[.int .i64 us.length, .slice a us.length cap], .slice ag zs.length cg] w fun e w' => e = .returned (.bool true) ∧ Below w.heap.size w w' := by
  have hTW : ∀ {W}, Below w.heap.size w W → TabAt W := fun hW => hT.below hW (by omega)
  have hwW : ∀ {W}, Below w.heap.size w W → IsWords n₀ W a us := fun hW => hw.below (hW.mono hn₀)
  have hzW : ∀ {W}, Below w.heap.size w W → ZInts n₀ W ag zs := fun hW => hz.below (hW.mono hn₀)
  have hnW : ∀ {W}, Below w.heap.size w W → n₀ ≤ W.heap.size := fun hW => by have := hW.size; omega
  have hl16 : us.length ≤ 16 := by have := code_zero h0; omega
  obtain ⟨hI, _⟩ := mapCode_zero hm
  have hlz : zs.length = us.length := (intoB_true.1 hI).1
  have h63 : zs.length ≤ 9223372036854775807 := by omega
  have hlm := (into_map hI).len
  obtain ⟨r0, hb0, hs0⟩ := one_row w 24 (.int .i64 us.length) (.slice a us.length cap) rfl
  have s1 := FCheck_any us.length a cap us ag cg zs n₀ hf h63 _ (hTW hb0) (hwW hb0) (hzW hb0) hg (hnW hb0)
  have s2 : ∀ W, Below w.heap.size w W → _ := fun W hW => FAll_ok a cap us ag cg zs n₀ hf W (hTW hW) (hwW hW) (hzW hW) hg (hnW hW) h0 hm
  have s3 : ∀ W, Below w.heap.size w W → _ := fun W hW => OrderCheck_any us.length a cap us n₀ hf W (hwW hW) (hnW hW)
  have s4 : ∀ W, Below w.heap.size w W → _ := fun W hW => RefFix_any a cap us ag cg zs n₀ hf hl16 h63 W (hwW hW) (hzW hW) (hnW hW)
  have s5 : ∀ W, Below w.heap.size w W → _ := fun W hW => RefFAll_any ag cg (mapN zs) n₀ (by omega) W (mapN_ints (intoB_true.1 hI).2 (hzW hW)) (hnW hW)
  rw [fixCode_map h0, hm, hlz] at s1
  rw [hlm] at s5
  rw [h0] at s3
  rw [hm, hlz] at s4
  rw [hlz]
  have lt0 := r0.lt
  have hSl : (stayTo (mapN zs) us.length).length ≤ 16 := Nat.le_trans (stayTo_len _ _) hl16
  clear hI hm h0 hlm
  generalize stayTo (mapN zs) us.length = S at *
  go_enter Tryd.func3, Tryd.ntmps3
  go_wp2_with fail
  refine s1.mono ?_
  rintro e w1 ⟨rfl, hb1⟩
  have q0 := row_below r0 hb1 lt0
  have lq0 := q0.lt
  have j0 := q0.cell (i := 0) rfl
  have j1 := q0.cell (i := 1) rfl
  have hB1 : Below w.heap.size w w1 := hb0.trans (hb1.mono (by omega))
  go_wp2_with fail
  refine (s2 w1 hB1).mono ?_
  rintro e w2 ⟨av, cv, rfl, hb2, o2⟩
  clear j0 j1
  have q1 := row_below q0 hb2 lq0
  have lq1 := q1.lt
  have j0 := q1.cell (i := 0) rfl
  have j1 := q1.cell (i := 1) rfl
  have hB2 : Below w.heap.size w w2 := hB1.trans (hb2.mono hB1.size)
  go_wp2_with fail
  refine (s3 w2 hB2).mono ?_
  rintro e w3 ⟨rfl, hb3⟩
  clear j0 j1
  have q2 := row_below q1 hb3 lq1
  have j0 := q2.cell (i := 0) rfl
  have j1 := q2.cell (i := 1) rfl
  have hB3 : Below w.heap.size w w3 := hB2.trans (hb3.mono hB2.size)
  go_wp2_with fail
  refine (s4 w3 hB3).mono ?_
  rintro e w4 ⟨rfl, hb4⟩
  have hB4 : Below w.heap.size w w4 := hB3.trans (hb4.mono hB3.size)
  go_wp2_with fail
  refine (s5 w4 hB4).mono ?_
  rintro e w5 ⟨av2, cv2, rfl, hb5, o5⟩
  have hB5 : Below w.heap.size w w5 := hB4.trans (hb5.mono hB4.size)
  have o25 := ownsRow_below (ownsRow_below (ownsRow_below o2 hb3) hb4) hb5
  have ht := TimesSame_any av av2 cv cv2 S S w5.heap.size rfl (by omega) w5 (ownsRow_ints o25) (ownsRow_ints o5)
  have hself : sameIB S S = true := by unfold sameIB; simp
  rw [hself] at ht
  go_wp2_with fail
  refine ht.mono ?_
  rintro e w6 ⟨rfl, hb6⟩
  go_wp2_with fail
  go_ret
  exact ⟨rfl, hB5.trans (hb6.mono hB5.size)⟩

/-- **FixedTells answers true, for every order and any numbers, and writes nothing that was there** -/
theorem ftells_any (n : Int) (a : Option Addr) (cap : Nat) (us : List Nat) (ag : Option Addr) (cg : Nat) (zs : List Int) (n₀ : Nat) (hf : Fit us) (h63 : zs.length ≤ 9223372036854775807) (w : World) (hT : TabAt w) (hw : IsWords n₀ w a us) (hz : ZInts n₀ w ag zs) (hg : 0 < n₀) (hn₀ : n₀ ≤ w.heap.size) :
    Calls Tryd.prog 3 #[.agg #[.int .i64 n, .slice a us.length cap], .slice ag zs.length cg] w fun e w' => e = .returned (.bool true) ∧ Below w.heap.size w w' := by
  by_cases hc : fixCode n us zs = 0
  · by_cases h0 : codeOf n us = 0
    · have en := (code_zero h0).2.2.1.symm
      subst en
      rw [fixCode_map h0] at hc
      exact ftells_ok a cap us ag cg zs n₀ hf w hT hw hz hg hn₀ h0 hc
    · rw [fixCode_bad h0] at hc; exact absurd hc h0
  · exact ftells_err n a cap us ag cg zs n₀ hf h63 w hT hw hz hg hn₀ hc
end Go.Proofs.YtfmpppdcabcbnaaDoor
