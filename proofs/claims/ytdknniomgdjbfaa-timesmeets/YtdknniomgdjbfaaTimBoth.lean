/- The contract of package times' Both. -/
import Derived.Test.YtdknniomgdjbfaaTimLeast
import Derived.Test.YtdknniomgdjbfaaTimBefore
import Derived.Test.YtdknniomgdjbfaaTimConcat
namespace Go.Proofs.Ytdknniomgdjbfaa
open Go.RowKit Go.Shelf

theorem pair_code {ls ms : List (List Int)} (h : codeLL ls ms = 0) {u t : List Int} (hu : u ∈ ls) (ht : t ∈ ms) : codeP u t = 0 := by
  obtain ⟨h1, h2, h3⟩ := codeLL_zero h
  obtain ⟨_, c1, l1⟩ := codeL_zero h1
  obtain ⟨_, c2, l2⟩ := codeL_zero h2
  refine codeP_ok (c1 u hu) (c2 t ht) ?_
  unfold apartB at h3
  rw [decide_eq_false_iff_not] at h3
  rw [l1 u hu, l2 t ht]
  apply Classical.byContradiction
  intro hne
  exact h3 ⟨List.length_pos_of_mem hu, List.length_pos_of_mem ht, hne⟩
theorem both_code {ls ms : List (List Int)} (h : codeLL ls ms = 0) (hl : ls.length + ms.length ≤ 64) : codeL (ls ++ ms) = 0 := by
  obtain ⟨h1, h2, _⟩ := codeLL_zero h
  obtain ⟨_, c1, l1⟩ := codeL_zero h1
  obtain ⟨_, c2, l2⟩ := codeL_zero h2
  refine codeL_mk (by rw [List.length_append]; exact hl) (fun t ht => ?_) ?_
  · rcases List.mem_append.1 ht with h' | h'
    · exact c1 t h'
    · exact c2 t h'
  · cases ls with
    | nil => rw [List.nil_append]; exact fun t ht => l2 t ht
    | cons a l =>
      refine head_len (n := a.length) fun u hu => ?_
      rcases List.mem_append.1 hu with h' | h'
      · exact l1 u h'
      · exact (codeP_zero (pair_code h (List.mem_cons_self) h')).2.2.symm
theorem nth_append_lt {L M : List Sl} {i : Nat} (h : i < L.length) : nth (L ++ M) i = nth L i := by
  unfold nth; rw [List.getD_eq_getElem?_getD, List.getD_eq_getElem?_getD, List.getElem?_append_left h]
theorem nth_append_ge {L M : List Sl} {i : Nat} (h : L.length ≤ i) : nth (L ++ M) i = nth M (i - L.length) := by
  unfold nth; rw [List.getD_eq_getElem?_getD, List.getD_eq_getElem?_getD, List.getElem?_append_right h]
theorem inner_append {n₀ : Nat} {W : World} {L M : List Sl} (hL : Inner n₀ W L) (hM : Inner n₀ W M) : Inner n₀ W (L ++ M) := fun i hi => by
  by_cases h : i < L.length
  · rw [nth_append_lt h]; exact hL i h
  · rw [nth_append_ge (by omega)]; exact hM _ (by rw [List.length_append] at hi; omega)

set_option maxRecDepth 100000 in
set_option maxHeartbeats 4000000 in
theorem Both_any (a : Option Addr) (ca : Nat) (L : List Sl) (b : Option Addr) (cb : Nat) (M : List Sl) (n₀ : Nat) (h63 : L.length ≤ 9223372036854775807) (h64 : M.length ≤ 9223372036854775807) (hna : a = none → ca = 0) (hnb : b = none → cb = 0) (w : World) (hL : ZLists n₀ w a L) (hM : ZLists n₀ w b M) (hn₀ : n₀ ≤ w.heap.size) :
    Calls Try.prog 16 #[.slice a L.length ca, .slice b M.length cb] w fun e w' => Below w.heap.size w w' ∧ ((codeLL (zl L) (zl M) ≠ 0 ∧ e = joinErr (codeLL (zl L) (zl M))) ∨ (codeLL (zl L) (zl M) = 0 ∧ 64 < L.length + M.length ∧ e = joinErr 1) ∨ (codeLL (zl L) (zl M) = 0 ∧ L.length + M.length ≤ 64 ∧ ∃ av cv S, e = .returned (.tuple #[.slice av S.length cv, .int .i64 0]) ∧ Outer w'.heap.size w' av S ∧ InF w.heap.size w' S ∧ IsFront (zl L ++ zl M) (zl S))) := by
  have s1 := clists_any a ca L b cb M n₀ h63 h64 w hL hM hn₀
  unfold joinErr
  by_cases hc : codeLL (zl L) (zl M) = 0
  · have HC := hide hc
    rw [hc] at s1 ⊢
    have hl1 := (codeL_zero (codeLL_zero hc).1).1
    have hl2 := (codeL_zero (codeLL_zero hc).2.1).1
    rw [zl_len] at hl1 hl2
    clear hc
    by_cases h : 64 < L.length + M.length
    · have d1 : decide ((64 : Int) < (L.length : Int) + (M.length : Int)) = true := decide_eq_true (by omega)
      go_enter Try.func16, Try.ntmps16
      go_wp2_with fail
      with_reducible refine s1.mono ?_
      rintro e w1 ⟨rfl, hb1⟩
      go_wp2_with fail
      go_ret2
      exact ⟨hb1, .inr (.inl ⟨trivial, h, rfl⟩)⟩
    · have d1 : decide ((64 : Int) < (L.length : Int) + (M.length : Int)) = false := decide_eq_false (by omega)
      have s2 : ∀ W, Below w.heap.size w W → _ := fun W hW => concat_any a ca L b cb M n₀ (by omega) W (hL.outer.below (hW.mono hn₀)) (hM.outer.below (hW.mono hn₀)) hna hnb (by have := hW.size; omega)
      have HCB := hide (show codeL (zl (L ++ M)) = 0 from by rw [zl_append]; exact both_code HC.out (by rw [zl_len, zl_len]; omega))
      have hIn : ∀ W, Below w.heap.size w W → Inner W.heap.size W (L ++ M) := fun W hW => (inner_append (hL.inner.below (hW.mono hn₀)) (hM.inner.below (hW.mono hn₀))).mono (by have := hW.size; omega)
      go_enter Try.func16, Try.ntmps16
      go_wp2_with fail
      with_reducible refine s1.mono ?_
      rintro e w1 ⟨rfl, hb1⟩
      have s3 := s2 w1 hb1
      clear s1 s2
      go_wp2_with fail
      with_reducible refine s3.mono ?_
      rintro e w2 ⟨av, cv, rfl, hb2, hO2⟩
      have hB2 := hb1.trans (hb2.mono hb1.size)
      have s4 := least_any av cv (L ++ M) w2.heap.size HCB.out w2 ⟨hO2, hIn w2 hB2⟩ (Nat.le_refl _)
      rw [List.length_append] at s4
      clear s3
      go_wp2_with fail
      with_reducible refine s4.mono ?_
      rintro e w3 ⟨av3, cv3, S, rfl, hb3, hO3, hF3, hI3⟩
      go_wp2_with fail
      go_ret2
      exact ⟨hB2.trans (hb3.mono hB2.size), .inr (.inr ⟨trivial, by omega, av3, cv3, S, rfl, hO3, hF3.base hB2.size, by rw [← zl_append]; exact hI3⟩)⟩
  · have HC := hide hc
    have e1 : (codeLL (zl L) (zl M) != 0) = true := by rw [bne_iff_ne]; exact hc
    clear hc
    generalize codeLL (zl L) (zl M) = c at *
    go_enter Try.func16, Try.ntmps16
    go_wp2_with fail
    with_reducible refine s1.mono ?_
    rintro e w1 ⟨rfl, hb1⟩
    go_wp2_with fail
    go_ret2
    exact ⟨hb1, .inl ⟨HC.out, rfl⟩⟩
end Go.Proofs.Ytdknniomgdjbfaa
