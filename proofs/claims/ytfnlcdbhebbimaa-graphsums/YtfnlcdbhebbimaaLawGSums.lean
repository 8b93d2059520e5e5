/- The walk of the law GraphSums: it answers true, and writes nothing that was there. -/
import Derived.Test.YtfnlcdbhebbimaaGraSum
import Derived.Lib.QuietBelow
import Derived.BigQuiet
import Derived.Deep.RegionHeld3
namespace Go.Proofs.Ytfnlcdbhebbimaa
open Go.RowKit Go.Shelf

theorem node_row (w : World) (p0 p1 p2 p3 p4 : Value) {W : World} (h : w.alloc (.cells #[p0, p1, p2, p3, p4] 34) = W) :
    Row W w.heap.size 34 [p0, p1, p2, p3, p4] ∧ Below w.heap.size w W ∧ W.heap.size = w.heap.size + 1 := by
  subst h
  exact ⟨Row.new w 34 [p0, p1, p2, p3, p4], (Below.refl _ _).alloc (Nat.le_refl _) _, by simp⟩
theorem sum_row (w : World) (p0 p1 p2 : Value) {W : World} (h : w.alloc (.cells #[p0, p1, p2] 37) = W) :
    Row W w.heap.size 37 [p0, p1, p2] ∧ Below w.heap.size w W ∧ W.heap.size = w.heap.size + 1 := by
  subst h
  exact ⟨Row.new w 37 [p0, p1, p2], (Below.refl _ _).alloc (Nat.le_refl _) _, by simp⟩
structure GSt (B C : Nat) (k d : Int) (o x y : Value) (sk sd : Int) (v : Value) (V : World) : Prop where
  r0 : Row V B 34 [.int .i64 k, .int .i64 d, o, x, y]
  r1 : Row V C 37 [.int .i64 sk, .int .i64 sd, v]
theorem GSt.all {B C : Nat} {k d : Int} {o x y : Value} {sk sd : Int} {v : Value} {V : World} (h : GSt B C k d o x y sk sd v V) :
    V.cell? ⟨B, 0, none⟩ = some (.int .i64 k) ∧ V.cell? ⟨B, 1, none⟩ = some (.int .i64 d) ∧ V.cell? ⟨B, 2, none⟩ = some o ∧ V.cell? ⟨B, 3, none⟩ = some x ∧ V.cell? ⟨B, 4, none⟩ = some y ∧ V.cell? ⟨C, 0, none⟩ = some (.int .i64 sk) ∧ V.cell? ⟨C, 1, none⟩ = some (.int .i64 sd) ∧ V.cell? ⟨C, 2, none⟩ = some v ∧ GSt B C k d o x y sk sd v V :=
  ⟨h.r0.cell (i := 0) rfl, h.r0.cell (i := 1) rfl, h.r0.cell (i := 2) rfl, h.r0.cell (i := 3) rfl, h.r0.cell (i := 4) rfl, h.r1.cell (i := 0) rfl, h.r1.cell (i := 1) rfl, h.r1.cell (i := 2) rfl, h⟩
theorem GSt.keep {B C : Nat} {k d : Int} {o x y : Value} {sk sd : Int} {v : Value} {A V : World} (hb : Below A.heap.size A V) (h : GSt B C k d o x y sk sd v A) : GSt B C k d o x y sk sd v V :=
  ⟨row_below h.r0 hb h.r0.lt, row_below h.r1 hb h.r1.lt⟩
theorem GSt.drew {B C : Nat} {k d : Int} {o x y : Value} {sk sd : Int} {v : Value} {V : World} (h : GSt B C k d o x y sk sd v V) : GSt B C k d o x y sk sd v V.drew := ⟨h.r0, h.r1⟩
theorem sumN_len (k d : Int) : (sumN k d).z.length ≤ 17592186044416 := by
  unfold sumN
  by_cases h4 : k = 4
  · rw [if_pos h4]; simp
  · rw [if_neg h4]
    by_cases h5 : k = 5
    · rw [if_pos h5]; simp
    · rw [if_neg h5]
      by_cases h6 : k = 6
      · rw [if_pos h6]; simp
      · rw [if_neg h6]; simp

set_option maxRecDepth 100000 in
set_option maxHeartbeats 4000000 in
theorem gsums_bad (k d : Int) (o x y : Value) (hm : mayN k d = false) (w : World) :
    Calls Try.prog 4 #[.agg #[.int .i64 k, .int .i64 d, o, x, y]] w fun e w' => e = .returned (.bool true) ∧ Below w.heap.size w w' := by
  obtain ⟨r0, hb0, hs0⟩ := node_row w (.int .i64 k) (.int .i64 d) o x y rfl
  obtain ⟨W0, hW0⟩ : ∃ V, w.alloc (.cells #[.int .i64 k, .int .i64 d, o, x, y] 34) = V := ⟨_, rfl⟩
  rw [hW0] at r0 hb0 hs0
  have lt0 := r0.lt
  have b0 := r0.cell (i := 0) rfl
  have b1 := r0.cell (i := 1) rfl
  have b2 := r0.cell (i := 2) rfl
  have b3 := r0.cell (i := 3) rfl
  have b4 := r0.cell (i := 4) rfl
  have s1 := gsum_bad k d o x y hm W0
  have s2 := fun W => rmayn_any k d o x y W
  have s4 := fun W => rssame_any 0 0 none 0 [] 0 0 none 0 [] W.heap.size (by simp) W (.inl rfl) (.inl rfl) (Nat.le_refl _)
  rw [show sameM ⟨0, 0, []⟩ ⟨0, 0, []⟩ = true from rfl] at s4
  rw [hm] at s2
  simp only [List.length_nil] at s4
  clear hm
  go_enter Try.func4, Try.ntmps4
  go_wp2_with fail
  with_reducible refine s1.mono ?_
  rintro e w1 ⟨rfl, hb1⟩
  clear b0 b1 b2 b3 b4 s1 hW0
  have q0 := row_below r0 hb1 lt0
  have hB1 : Below w.heap.size w w1 := hb0.trans (hb1.mono hb0.size)
  have l0 := q0.lt
  have b0 := q0.cell (i := 0) rfl
  have b1 := q0.cell (i := 1) rfl
  have b2 := q0.cell (i := 2) rfl
  have b3 := q0.cell (i := 3) rfl
  have b4 := q0.cell (i := 4) rfl
  go_wp2_with fail
  obtain ⟨q1, hb2, hs2⟩ := sum_row w1 (.int .i64 0) (.int .i64 0) (.slice none 0 0) rfl
  obtain ⟨W2, hW2⟩ : ∃ V, w1.alloc (.cells #[.int .i64 0, .int .i64 0, .slice none 0 0] 37) = V := ⟨_, rfl⟩
  rw [hW2] at q1 hb2 hs2
  rw [hW2]
  clear b0 b1 b2 b3 b4
  have q0 := row_below q0 hb2 l0
  have hB2 : Below w.heap.size w W2 := hB1.trans (hb2.mono hB1.size)
  have l1 := q1.lt
  have l0 := q0.lt
  with_reducible refine (s2 _).mono ?_
  rintro e w3 ⟨rfl, hb3⟩
  clear s2 hW2
  have q0 := row_below q0 hb3 l0
  have q1 := row_below q1 hb3 l1
  have l1 := q1.lt
  have l0 := q0.lt
  have hB3 : Below w.heap.size w w3 := hB2.trans (hb3.mono hB2.size)
  have b0 := q0.cell (i := 0) rfl
  have b1 := q0.cell (i := 1) rfl
  have b2 := q0.cell (i := 2) rfl
  have b3 := q0.cell (i := 3) rfl
  have b4 := q0.cell (i := 4) rfl
  have m0 := q1.cell (i := 0) rfl
  have m1 := q1.cell (i := 1) rfl
  have m2 := q1.cell (i := 2) rfl
  go_wp2_with fail
  with_reducible refine (s4 _).mono ?_
  rintro e w4 ⟨rfl, hb4⟩
  go_wp2_with fail
  go_ret
  exact ⟨rfl, hB3.trans (hb4.mono hB3.size)⟩
set_option maxRecDepth 100000 in
set_option maxHeartbeats 4000000 in
theorem gsums_good (k d : Int) (o x y : Value) (hm : mayN k d = true) (w : World) :
    Calls Try.prog 4 #[.agg #[.int .i64 k, .int .i64 d, o, x, y]] w fun e w' => e = .returned (.bool true) ∧ Below w.heap.size w w' := by
  obtain ⟨r0, hb0, hs0⟩ := node_row w (.int .i64 k) (.int .i64 d) o x y rfl
  obtain ⟨W0, hW0⟩ : ∃ V, w.alloc (.cells #[.int .i64 k, .int .i64 d, o, x, y] 34) = V := ⟨_, rfl⟩
  rw [hW0] at r0 hb0 hs0
  have lt0 := r0.lt
  have b0 := r0.cell (i := 0) rfl
  have b1 := r0.cell (i := 1) rfl
  have b2 := r0.cell (i := 2) rfl
  have b3 := r0.cell (i := 3) rfl
  have b4 := r0.cell (i := 4) rfl
  have s1 := gsum_any k d o x y hm W0
  have s2 := fun W => rmayn_any k d o x y W
  have s3 := fun W => rsumn_any k d o x y hm W
  have hl := sumN_len k d
  have hsm : sameM (sumN k d) (sumN k d) = true := sameM_true.2 rfl
  have s4 := fun a cap b cp W n h1 h2 h3 => rssame_any (sumN k d).k (sumN k d).d a cap (sumN k d).z (sumN k d).k (sumN k d).d b cp (sumN k d).z n hl W h1 h2 h3
  have e0 : (Sm.mk (sumN k d).k (sumN k d).d (sumN k d).z) = sumN k d := rfl
  rw [e0, hsm] at s4
  rw [hm] at s2
  generalize sumN k d = S at *
  rcases S with ⟨sk, sd, sz⟩
  dsimp only at s1 s3 s4 hl
  clear hm
  go_enter Try.func4, Try.ntmps4
  go_wp2_with fail
  with_reducible refine s1.mono ?_
  rintro e w1 ⟨⟨av, cv, rfl, hz⟩, hb1⟩
  clear b0 b1 b2 b3 b4 s1 hW0
  have q0 := row_below r0 hb1 lt0
  have hB1 : Below w.heap.size w w1 := hb0.trans (hb1.mono hb0.size)
  have l0 := q0.lt
  have b0 := q0.cell (i := 0) rfl
  have b1 := q0.cell (i := 1) rfl
  have b2 := q0.cell (i := 2) rfl
  have b3 := q0.cell (i := 3) rfl
  have b4 := q0.cell (i := 4) rfl
  go_wp2_with fail
  obtain ⟨q1, hb2, hs2⟩ := sum_row w1 (.int .i64 sk) (.int .i64 sd) (.slice av sz.length cv) rfl
  obtain ⟨W2, hW2⟩ : ∃ V, w1.alloc (.cells #[.int .i64 sk, .int .i64 sd, .slice av sz.length cv] 37) = V := ⟨_, rfl⟩
  rw [hW2] at q1 hb2 hs2
  rw [hW2]
  clear b0 b1 b2 b3 b4
  have q0 := row_below q0 hb2 l0
  have hB2 : Below w.heap.size w W2 := hB1.trans (hb2.mono hB1.size)
  have l1 := q1.lt
  have l0 := q0.lt
  have hz := (hz.below hb2).mono hb2.size
  with_reducible refine (s2 _).mono ?_
  rintro e w3 ⟨rfl, hb3⟩
  clear s2 hW2
  have q0 := row_below q0 hb3 l0
  have q1 := row_below q1 hb3 l1
  have l1 := q1.lt
  have l0 := q0.lt
  have hB3 : Below w.heap.size w w3 := hB2.trans (hb3.mono hB2.size)
  have hz := (hz.below hb3).mono hb3.size
  have b0 := q0.cell (i := 0) rfl
  have b1 := q0.cell (i := 1) rfl
  have b2 := q0.cell (i := 2) rfl
  have b3 := q0.cell (i := 3) rfl
  have b4 := q0.cell (i := 4) rfl
  have m0 := q1.cell (i := 0) rfl
  have m1 := q1.cell (i := 1) rfl
  have m2 := q1.cell (i := 2) rfl
  have s3' := s3 w3.drew
  have hst : GSt w.heap.size w1.heap.size k d o x y sk sd (.slice av sz.length cv) w3 := ⟨q0, q1⟩
  have hzd : ZInts w3.drew.heap.size w3.drew av sz := hz
  clear s3 b0 b1 b2 b3 b4 m0 m1 m2
  go_wp2_with fail
  go_region_held3 (fun V => V.cell? ⟨w.heap.size, 0, none⟩ = some (.int .i64 k) ∧ V.cell? ⟨w.heap.size, 1, none⟩ = some (.int .i64 d) ∧ V.cell? ⟨w.heap.size, 2, none⟩ = some o ∧ V.cell? ⟨w.heap.size, 3, none⟩ = some x ∧ V.cell? ⟨w.heap.size, 4, none⟩ = some y ∧ V.cell? ⟨w1.heap.size, 0, none⟩ = some (.int .i64 sk) ∧ V.cell? ⟨w1.heap.size, 1, none⟩ = some (.int .i64 sd) ∧ V.cell? ⟨w1.heap.size, 2, none⟩ = some (.slice av sz.length cv) ∧ GSt w.heap.size w1.heap.size k d o x y sk sd (.slice av sz.length cv) V) ((go_split_ands; first | exact GSt.all hst | exact GSt.all hst.drew | exact GSt.all (by assumption) | exact GSt.all (GSt.keep hx1 (by assumption)) | exact GSt.all (GSt.keep hx2 (by assumption)) | fail))
    (first
      | (go_at_call 11; with_reducible refine s3'.mono ?_; rintro e X1 ⟨⟨a2, c2, rfl, hz2⟩, hx1⟩)
      | (go_at_call 10; with_reducible refine (s4 _ _ _ _ X1 X1.heap.size ((hzd.below hx1).mono hx1.size) hz2 (Nat.le_refl _)).mono ?_; rintro e Y1 ⟨rfl, hx2⟩))
  go_split_ands
  have hb : Below w3.heap.size w3 Y1 := (Below.refl _ w3).drew.trans (hx1.trans (hx2.mono hx1.size))
  clear hst hzd
  go_wp2_with fail
  go_ret
  exact ⟨rfl, hB3.trans (hb.mono hB3.size)⟩
/-- **GraphSums answers true, for every node, and writes nothing that was there** -/
theorem gsums_any (k d : Int) (o x y : Value) (w : World) :
    Calls Try.prog 4 #[.agg #[.int .i64 k, .int .i64 d, o, x, y]] w fun e w' => e = .returned (.bool true) ∧ Below w.heap.size w w' := by
  cases hm : mayN k d with
  | true => exact gsums_good k d o x y hm w
  | false => exact gsums_bad k d o x y hm w
end Go.Proofs.Ytfnlcdbhebbimaa
