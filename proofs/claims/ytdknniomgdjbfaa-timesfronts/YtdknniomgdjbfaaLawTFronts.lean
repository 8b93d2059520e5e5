/- The walk of the law TimesFronts: it answers true, and writes nothing that was there. -/
import Derived.Test.YtdknniomgdjbfaaTimLeast
namespace Go.Proofs.Ytdknniomgdjbfaa
open Go.RowKit Go.Shelf

set_option maxRecDepth 100000 in
set_option maxHeartbeats 4000000 in
/-- **TimesFronts answers true, for any lists of numbers, and writes nothing that was there** -/
theorem tfronts_any (a : Option Addr) (cap : Nat) (L : List Sl) (b : Option Addr) (cb : Nat) (ys : List Int) (n₀ : Nat) (h63 : L.length ≤ 9223372036854775807) (h64 : ys.length ≤ 9223372036854775807) (w : World) (hw : ZLists n₀ w a L) (hy : ZInts n₀ w b ys) (hn₀ : n₀ ≤ w.heap.size) :
    Calls Try.prog 3 #[.slice a L.length cap, .slice b ys.length cb] w fun e w' => e = .returned (.bool true) ∧ Below w.heap.size w w' := by
  have hwW : ∀ {W}, Below w.heap.size w W → ZLists n₀ W a L := fun hW => hw.below (hW.mono hn₀)
  have hyW : ∀ {W}, Below w.heap.size w W → ZInts n₀ W b ys := fun hW => hy.below (hW.mono hn₀)
  have hnW : ∀ {W}, Below w.heap.size w W → n₀ ≤ W.heap.size := fun hW => by have := hW.size; omega
  have s1 := Front_any a cap L n₀ h63 w hw hn₀
  have s2 : ∀ W, Below w.heap.size w W → _ := fun W hW => rtlist_any a cap L n₀ h63 W (hwW hW)
  have s3 : ∀ W, Below w.heap.size w W → _ := fun W hW => topen_any a cap L b cb ys n₀ h63 h64 W (hwW hW) (hyW hW) (hnW hW)
  have s4 : ∀ W, Below w.heap.size w W → _ := fun W hW => rtopen_any a cap L b cb ys n₀ h63 h64 W (hwW hW) (hyW hW) (hnW hW)
  have s5 : codeL (zl L) = 0 → ∀ W, Below w.heap.size w W → _ := fun hc W hW => rtfront_any a cap L n₀ hc W (hwW hW) (hnW hW)
  have e2 : (openB (zl L) ys != openB (zl L) ys) = false := by simp
  have e4 : (codeL (zl L) != codeL (zl L)) = false := by simp
  have HL := hide (fun hc => (codeL_zero (ls := zl L) hc).1)
  unfold joinErr at s1
  generalize openB (zl L) ys = q at *
  generalize codeL (zl L) = c at *
  go_enter Try.func3, Try.ntmps3
  go_wp2_with fail
  with_reducible refine s1.mono ?_
  rintro e w1 ⟨hb1, hh1⟩
  have t2 := s2 w1 hb1
  have t3 := s3 w1 hb1
  clear s1 s2 s3
  have hs1 := hb1.size
  by_cases h0 : c = 0
  · rcases hh1 with ⟨hx, _⟩ | ⟨_, av, cv, S, rfl, hO1, hF1, hI1⟩
    · exact absurd h0 hx
    have t5 := s5 h0
    have h64L := HL.out h0
    subst h0
    clear s5 HL e4
    go_wp2_with fail
    with_reducible refine t2.mono ?_
    rintro e w2 ⟨rfl, hww⟩
    rw [hww]
    clear hww t2
    go_wp2_with fail
    with_reducible refine t3.mono ?_
    rintro e w3 ⟨rfl, hb3⟩
    clear t3
    have hB3 := hb1.trans (hb3.mono hs1)
    have t4 := s4 w3 hB3
    clear s4
    go_wp2_with fail
    with_reducible refine t4.mono ?_
    rintro e w4 ⟨rfl, hb4⟩
    clear t4
    have hB4 := hB3.trans (hb4.mono hB3.size)
    have t6 := t5 w4 hB4
    clear t5
    go_wp2_with fail
    with_reducible refine t6.mono ?_
    rintro e w5 ⟨av5, cv5, S5, rfl, hb5, hO5, hS5, hI5⟩
    clear t6
    have hB5 := hB4.trans (hb5.mono hB4.size)
    have hs3 := hb3.size
    have hs4 := hb4.size
    have hs5 := hb5.size
    have hB15 : Below w1.heap.size w1 w5 := (hb3.trans (hb4.mono hs3)).trans (hb5.mono (by omega))
    have hz1 : ZLists w5.heap.size w5 av S := ⟨(hO1.below hB15).mono hB15.size, (hF1.inner.below hB15).mono hB15.size⟩
    have hz5 : ZLists w5.heap.size w5 av5 S5 := ⟨hO5, fun i hi => by
      obtain ⟨j, hj, e⟩ := mem_nth (hS5 _ (nth_mem hi))
      rw [← e]
      exact ⟨((hw.inner j hj).1.below (hB5.mono hn₀)).mono (hnW hB5), (hw.inner j hj).2⟩⟩
    have heq : zl S = zl S5 := hI1.unique hI5
    have hlS : S.length ≤ 9223372036854775807 := by
      have hn : (zl S).length ≤ (zl L).length := front_len hI1
      rw [zl_len, zl_len] at hn
      rw [zl_len] at h64L
      omega
    have t7 := Lists_any av cv S av5 cv5 S5 w5.heap.size hlS w5 hz1 hz5 (Nat.le_refl _)
    rw [sameL_true.2 heq] at t7
    clear heq hz1 hz5 hI1 hI5
    go_wp2_with fail
    with_reducible refine t7.mono ?_
    rintro e w6 ⟨rfl, hb6⟩
    go_wp2_with fail
    go_ret
    exact ⟨rfl, hB5.trans (hb6.mono hB5.size)⟩
  · have hh1 := (hh1.resolve_right fun h => h0 h.1).2
    subst hh1
    have e5 : (c != 0) = true := by rw [bne_iff_ne]; exact h0
    clear h0 s5
    go_wp2_with fail
    with_reducible refine t2.mono ?_
    rintro e w2 ⟨rfl, hww⟩
    rw [hww]
    clear hww t2
    go_wp2_with fail
    with_reducible refine t3.mono ?_
    rintro e w3 ⟨rfl, hb3⟩
    clear t3
    have hB3 := hb1.trans (hb3.mono hs1)
    have t4 := s4 w3 hB3
    clear s4
    go_wp2_with fail
    with_reducible refine t4.mono ?_
    rintro e w4 ⟨rfl, hb4⟩
    go_wp2_with fail
    go_ret
    exact ⟨rfl, hB3.trans (hb4.mono hB3.size)⟩
end Go.Proofs.Ytdknniomgdjbfaa
