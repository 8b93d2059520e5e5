/- The walk of the law TimesTells: it answers true, and writes nothing that was there. -/
import Derived.Test.YtgoipkjledmnjaaTimJoin
namespace Go.Proofs.Ytgoipkjledmnjaa
open Go.RowKit Go.Shelf

set_option maxRecDepth 100000 in
set_option maxHeartbeats 4000000 in
/-- **TimesTells answers true, for any two lists of numbers, and writes nothing that was there** -/
theorem ttells_any (a : Option Addr) (ca : Nat) (zs : List Int) (b : Option Addr) (cb : Nat) (ys : List Int) (n₀ : Nat) (h63 : zs.length ≤ 9223372036854775807) (h64 : ys.length ≤ 9223372036854775807) (w : World) (hz : ZInts n₀ w a zs) (hy : ZInts n₀ w b ys) (hn₀ : n₀ ≤ w.heap.size) :
    Calls Try.prog 3 #[.slice a zs.length ca, .slice b ys.length cb] w fun e w' => e = .returned (.bool true) ∧ Below w.heap.size w w' := by
  have hzW : ∀ {W}, Below w.heap.size w W → ZInts n₀ W a zs := fun hW => hz.below (hW.mono hn₀)
  have hyW : ∀ {W}, Below w.heap.size w W → ZInts n₀ W b ys := fun hW => hy.below (hW.mono hn₀)
  have hnW : ∀ {W}, Below w.heap.size w W → n₀ ≤ W.heap.size := fun hW => by have := hW.size; omega
  have s1 := Join_any a ca zs b cb ys n₀ h63 h64 w hz hy hn₀
  have s2 : ∀ W, Below w.heap.size w W → _ := fun W hW => Meet_any a ca zs b cb ys n₀ h63 h64 W (hzW hW) (hyW hW) (hnW hW)
  have s3 : ∀ W, Below w.heap.size w W → _ := fun W hW => rtpair_any a ca zs b cb ys n₀ h63 h64 W (hzW hW) (hyW hW)
  have s4 : ∀ W, Below w.heap.size w W → _ := fun W hW => tcheck_any a ca zs n₀ h63 W (hzW hW)
  have s5 : ∀ W, Below w.heap.size w W → _ := fun W hW => rtcheck_any a ca zs n₀ h63 W (hzW hW)
  have s6 : ∀ W, Below w.heap.size w W → _ := fun W hW => tleq_any a ca zs b cb ys n₀ h63 h64 W (hzW hW) (hyW hW) (hnW hW)
  have s7 : ∀ W, Below w.heap.size w W → _ := fun W hW => rtleq_any a ca zs b cb ys n₀ h63 h64 W (hzW hW) (hyW hW) (hnW hW)
  have s8 : ∀ W, Below w.heap.size w W → _ := fun W hW => tless_any a ca zs b cb ys n₀ h63 h64 W (hzW hW) (hyW hW) (hnW hW)
  have s9 : ∀ W, Below w.heap.size w W → _ := fun W hW => rtless_any a ca zs b cb ys n₀ h63 h64 W (hzW hW) (hyW hW) (hnW hW)
  have t10 : codeP zs ys = 0 → ∀ W, Below w.heap.size w W → _ := fun hc W hW => rtjoin_any true a ca zs b cb ys n₀ (codeP_zero hc).2.2 (codeT_zero (codeP_zero hc).1).2.1 W (hzW hW) (hyW hW) (hnW hW)
  have f10 : codeP zs ys = 0 → ∀ W, Below w.heap.size w W → _ := fun hc W hW => rtjoin_any false a ca zs b cb ys n₀ (codeP_zero hc).2.2 (codeT_zero (codeP_zero hc).1).2.1 W (hzW hW) (hyW hW) (hnW hW)
  have l4 : codeP zs ys = 0 → zs.length ≤ 4 := fun hc => (codeT_zero (codeP_zero hc).1).2.1
  unfold joinErr at s1 s2
  have e1 : (codeT zs != codeT zs) = false := by simp
  have e2 : (leqT zs ys != leqT zs ys) = false := by simp
  have e3 : (lessT zs ys != lessT zs ys) = false := by simp
  have e4 : (codeP zs ys != codeP zs ys) = false := by simp
  have hjl := joinT_len true zs ys
  have hml := joinT_len false zs ys
  generalize joinT true zs ys = J at *
  generalize joinT false zs ys = M at *
  generalize leqT zs ys = q at *
  generalize lessT zs ys = q2 at *
  generalize codeT zs = ct at *
  generalize codeP zs ys = c at *
  go_enter Try.func3, Try.ntmps3
  go_wp2_with fail
  with_reducible refine s1.mono ?_
  rintro e w1 ⟨hb1, hh1⟩
  have s2' := s2 w1 hb1
  clear s1 s2
  by_cases h0 : c = 0
  · rcases hh1 with ⟨hx, _⟩ | ⟨_, B1, rfl, hge1, r1⟩
    · exact absurd h0 hx
    have l4 := l4 h0
    have t11 := t10 h0
    have f11 := f10 h0
    clear t10 f10
    subst h0
    have HJ := hide hjl
    have HM := hide hml
    clear hjl hml e4
    have lr1 := r1.lt
    go_wp2_with fail
    with_reducible refine s2'.mono ?_
    rintro e w2 ⟨hb2, hh2⟩
    clear s2'
    rcases hh2 with ⟨hx, _⟩ | ⟨_, B2, rfl, hge2, r2⟩
    · exact absurd rfl hx
    have hB2 := hb1.trans (hb2.mono hb1.size)
    have q1 := row_below r1 hb2 lr1
    have lq1 := q1.lt
    have lr2 := r2.lt
    have u3 := s3 w2 hB2
    have u4 := s4 w2 hB2
    have u5 := s5 w2 hB2
    have u6 := s6 w2 hB2
    clear s3 s4 s5 s6 r1 hb1 hb2
    go_wp2_with fail
    with_reducible refine u3.mono ?_
    rintro e w3 ⟨rfl, hww⟩
    rw [hww]
    clear hww w3 u3
    go_wp2_with fail
    with_reducible refine u4.mono ?_
    rintro e w3 ⟨rfl, hww⟩
    rw [hww]
    clear hww w3 u4
    go_wp2_with fail
    with_reducible refine u5.mono ?_
    rintro e w3 ⟨rfl, hww⟩
    rw [hww]
    clear hww w3 u5
    go_wp2_with fail
    with_reducible refine u6.mono ?_
    rintro e w3 ⟨rfl, hb3⟩
    clear u6
    have hB3 := hB2.trans (hb3.mono hB2.size)
    have q1' := row_below q1 hb3 lq1
    have q2' := row_below r2 hb3 lr2
    have lq1' := q1'.lt
    have lq2' := q2'.lt
    have u7 := s7 w3 hB3
    clear s7 q1 r2
    go_wp2_with fail
    with_reducible refine u7.mono ?_
    rintro e w4 ⟨rfl, hb4⟩
    clear u7
    have hB4 := hB3.trans (hb4.mono hB3.size)
    have q3 := row_below q1' hb4 lq1'
    have q4 := row_below q2' hb4 lq2'
    have lq3 := q3.lt
    have lq4 := q4.lt
    have u8 := s8 w4 hB4
    clear s8 q1' q2'
    go_wp2_with fail
    with_reducible refine u8.mono ?_
    rintro e w5 ⟨rfl, hb5⟩
    clear u8
    have hB5 := hB4.trans (hb5.mono hB4.size)
    have q5 := row_below q3 hb5 lq3
    have q6 := row_below q4 hb5 lq4
    have lq5 := q5.lt
    have lq6 := q6.lt
    have u9 := s9 w5 hB5
    clear s9 q3 q4
    go_wp2_with fail
    with_reducible refine u9.mono ?_
    rintro e w6 ⟨rfl, hb6⟩
    clear u9
    have hB6 := hB5.trans (hb6.mono hB5.size)
    have q7 := row_below q5 hb6 lq5
    have q8 := row_below q6 hb6 lq6
    have lq7 := q7.lt
    have lq8 := q8.lt
    have u10 := t11 w6 hB6
    clear q5 q6 t11
    go_wp2_with fail
    with_reducible refine u10.mono ?_
    rintro e w7 ⟨av, cv, rfl, hb7, own7⟩
    clear u10
    have hB7 := hB6.trans (hb7.mono hB6.size)
    have q9 := row_below q7 hb7 lq7
    have q10 := row_below q8 hb7 lq8
    have lq9 := q9.lt
    have lq10 := q10.lt
    have u11 := rtsame_any (some ⟨B1, 0, none⟩) zs.length J av cv J w7.heap.size (by rw [HJ.out]; omega) w7 (q9.z lq9) (ownsRow_z own7) (Nat.le_refl _)
    rw [sameB_true.2 rfl, HJ.out] at u11
    clear q7 q8 own7
    go_wp2_with fail
    with_reducible refine u11.mono ?_
    rintro e w8 ⟨rfl, hb8⟩
    clear u11
    have hB8 := hB7.trans (hb8.mono hB7.size)
    have q11 := row_below q10 hb8 lq10
    have lq11 := q11.lt
    have u12 := f11 w8 hB8
    clear q9 q10 f11
    go_wp2_with fail
    with_reducible refine u12.mono ?_
    rintro e w9 ⟨av9, cv9, rfl, hb9, own9⟩
    clear u12
    have hB9 := hB8.trans (hb9.mono hB8.size)
    have q12 := row_below q11 hb9 lq11
    have lq12 := q12.lt
    have u13 := rtsame_any (some ⟨B2, 0, none⟩) zs.length M av9 cv9 M w9.heap.size (by rw [HM.out]; omega) w9 (q12.z lq12) (ownsRow_z own9) (Nat.le_refl _)
    rw [sameB_true.2 rfl, HM.out] at u13
    go_wp2_with fail
    with_reducible refine u13.mono ?_
    rintro e w10 ⟨rfl, hb10⟩
    go_wp2_with fail
    go_ret
    exact ⟨rfl, hB9.trans (hb10.mono hB9.size)⟩
  · have hh1 := (hh1.resolve_right fun h => h0 h.1).2
    subst hh1
    have e5 : (c != 0) = true := by rw [bne_iff_ne]; exact h0
    have u2 := s2'.mono (R' := fun e w' => e = Ending.returned (.tuple #[.slice none 0 0, .int .i64 c]) ∧ Below w1.heap.size w1 w') (fun e w' h => ⟨(h.2.resolve_right fun h' => h0 h'.1).2, h.1⟩)
    clear h0 s2' t10 f10 l4 hjl hml
    go_wp2_with fail
    with_reducible refine u2.mono ?_
    rintro e w2 ⟨rfl, hb2⟩
    have hB2 := hb1.trans (hb2.mono hb1.size)
    have u3 := s3 w2 hB2
    have u4 := s4 w2 hB2
    have u5 := s5 w2 hB2
    have u6 := s6 w2 hB2
    clear s3 s4 s5 s6 hb1 hb2 u2
    go_wp2_with fail
    with_reducible refine u3.mono ?_
    rintro e w3 ⟨rfl, hww⟩
    rw [hww]
    clear hww w3 u3
    go_wp2_with fail
    with_reducible refine u4.mono ?_
    rintro e w3 ⟨rfl, hww⟩
    rw [hww]
    clear hww w3 u4
    go_wp2_with fail
    with_reducible refine u5.mono ?_
    rintro e w3 ⟨rfl, hww⟩
    rw [hww]
    clear hww w3 u5
    go_wp2_with fail
    with_reducible refine u6.mono ?_
    rintro e w3 ⟨rfl, hb3⟩
    clear u6
    have hB3 := hB2.trans (hb3.mono hB2.size)
    have u7 := s7 w3 hB3
    clear s7
    go_wp2_with fail
    with_reducible refine u7.mono ?_
    rintro e w4 ⟨rfl, hb4⟩
    clear u7
    have hB4 := hB3.trans (hb4.mono hB3.size)
    have u8 := s8 w4 hB4
    clear s8
    go_wp2_with fail
    with_reducible refine u8.mono ?_
    rintro e w5 ⟨rfl, hb5⟩
    clear u8
    have hB5 := hB4.trans (hb5.mono hB4.size)
    have u9 := s9 w5 hB5
    clear s9
    go_wp2_with fail
    with_reducible refine u9.mono ?_
    rintro e w6 ⟨rfl, hb6⟩
    clear u9
    go_wp2_with fail
    go_ret
    exact ⟨rfl, hB5.trans (hb6.mono hB5.size)⟩
end Go.Proofs.Ytgoipkjledmnjaa
