/- The walk of the law TimesOrders: it answers true, and writes nothing that was there. -/
import Derived.Test.YtdknniomgdjbfaaTimLeast
import Derived.Test.YtdknniomgdjbfaaTimBefore
import Derived.Test.YtdknniomgdjbfaaTimLists
namespace Go.Proofs.Ytdknniomgdjbfaa
open Go.RowKit Go.Shelf

theorem leqZ_anti {a b : List Int} (hl : a.length = b.length) (h1 : LeqZ a b) (h2 : LeqZ b a) : a = b :=
  zd_ext hl fun i hi => by have := h1 i hi; have := h2 i (by omega); omega
/-- all of two lists have as many numbers -/
theorem two_len {ls ms : List (List Int)} (h : codeLL ls ms = 0) {u t : List Int} (hu : u ∈ ls) (ht : t ∈ ms) : codeP u t = 0 := by
  obtain ⟨h1, h2, h3⟩ := codeLL_zero h
  obtain ⟨_, c1, l1⟩ := codeL_zero h1
  obtain ⟨_, c2, l2⟩ := codeL_zero h2
  refine codeP_ok (c1 u hu) (c2 t ht) ?_
  unfold apartB at h3
  rw [decide_eq_false_iff_not] at h3
  rw [l1 u hu, l2 t ht]
  apply Classical.byContradiction
  intro hne
  exact h3 ⟨List.length_pos_of_mem hu, List.length_pos_of_mem ht, hne⟩
theorem front_two {ls ms F G : List (List Int)} (h : codeLL ls ms = 0) (hF : IsFront ls F) (hG : IsFront ms G) : codeLL F G = 0 := by
  obtain ⟨h1, h2, _⟩ := codeLL_zero h
  have f1 := front_code h1 hF
  have f2 := front_code h2 hG
  refine codeLL_ok f1 f2 ?_
  unfold apartB
  rw [decide_eq_false_iff_not]
  rintro ⟨hp, hq, hne⟩
  cases F with
  | nil => simp at hp
  | cons u F' =>
    cases G with
    | nil => simp at hq
    | cons t G' => exact hne (codeP_zero (two_len h (hF.sub u (by simp)) (hG.sub t (by simp)))).2.2
theorem before_front {ls ms F G : List (List Int)} (h : codeLL ls ms = 0) (hF : IsFront ls F) (hG : IsFront ms G) : beforeB F G = beforeB ls ms := by
  obtain ⟨h1, h2, _⟩ := codeLL_zero h
  obtain ⟨_, c2, l2⟩ := codeL_zero h2
  rw [Bool.eq_iff_iff, beforeB_true, beforeB_true]
  constructor
  · intro hall t ht
    obtain ⟨g, hg, hle⟩ := front_cov (fun u hu => l2 u hu) hG t ht
    have h3 := hall g hg
    obtain ⟨u, hu, h4⟩ := openB_true.1 h3
    refine openB_true.2 ⟨u, hF.sub u hu, leqT_true.2 ⟨two_len h (hF.sub u hu) ht, leqZ_trans ?_ (leqT_true.1 h4).2 hle⟩⟩
    exact (codeP_zero (leqT_true.1 h4).1).2.2
  · intro hall t ht
    rw [front_open h1 hF]
    exact hall t (hG.sub t ht)
theorem both_same {ls ms F G : List (List Int)} (h : codeLL ls ms = 0) (hF : IsFront ls F) (hG : IsFront ms G) : (beforeB ls ms && beforeB ms ls) = decide (F = G) := by
  have h' := codeLL_zero_comm h
  rw [← before_front h hF hG, ← before_front h' hG hF]
  rw [Bool.eq_iff_iff, Bool.and_eq_true, decide_eq_true_iff, beforeB_true, beforeB_true]
  have key : ∀ {A B a b : List (List Int)}, codeLL a b = 0 → IsFront a A → IsFront b B → (∀ t ∈ B, openB A t = true) → (∀ t ∈ A, openB B t = true) → ∀ t ∈ B, t ∈ A := fun {A B a b} hab hA hB h1 h2 t ht => by
    obtain ⟨u, hu, hle⟩ := openB_true.1 (h1 t ht)
    obtain ⟨v, hv, hle2⟩ := openB_true.1 (h2 u hu)
    obtain ⟨p1, q1⟩ := leqT_true.1 hle
    obtain ⟨p2, q2⟩ := leqT_true.1 hle2
    have e1 := (codeP_zero p1).2.2
    have e2 := (codeP_zero p2).2.2
    have e := ((hB.mem t).1 ht).2 v (hB.sub v hv) (leqZ_trans e2 q2 q1)
    subst e
    rw [leqZ_anti (e2) q2 q1]; exact hu
  constructor
  · rintro ⟨h1, h2⟩
    exact sorted_unique hF.sorted hG.sorted fun t => ⟨key h' hG hF h2 h1 t, key h hF hG h1 h2 t⟩
  · intro e
    subst e
    have hall : ∀ t ∈ F, openB F t = true := fun t ht => openB_true.2 ⟨t, ht, leqT_true.2 ⟨code_pair (front_code (codeLL_zero h).1 hF) ht ht, leqZ_refl _⟩⟩
    exact ⟨hall, hall⟩

set_option maxRecDepth 100000 in
set_option maxHeartbeats 8000000 in
/-- **TimesOrders answers true, for any two lists of lists of numbers, and writes nothing that was there** -/
theorem torders_any (a : Option Addr) (ca : Nat) (L : List Sl) (b : Option Addr) (cb : Nat) (M : List Sl) (n₀ : Nat) (h63 : L.length ≤ 9223372036854775807) (h64 : M.length ≤ 9223372036854775807) (w : World) (hL : ZLists n₀ w a L) (hM : ZLists n₀ w b M) (hn₀ : n₀ ≤ w.heap.size) :
    Calls Try.prog 6 #[.slice a L.length ca, .slice b M.length cb] w fun e w' => e = .returned (.bool true) ∧ Below w.heap.size w w' := by
  have hLW : ∀ {W}, Below w.heap.size w W → ZLists n₀ W a L := fun hW => hL.below (hW.mono hn₀)
  have hMW : ∀ {W}, Below w.heap.size w W → ZLists n₀ W b M := fun hW => hM.below (hW.mono hn₀)
  have hnW : ∀ {W}, Below w.heap.size w W → n₀ ≤ W.heap.size := fun hW => by have := hW.size; omega
  have s1 := Before_any a ca L b cb M n₀ h63 h64 w hL hM hn₀
  have s2 : ∀ W, Below w.heap.size w W → _ := fun W hW => Before_any b cb M a ca L n₀ h64 h63 W (hMW hW) (hLW hW) (hnW hW)
  have s3 : ∀ W, Below w.heap.size w W → _ := fun W hW => Front_any a ca L n₀ h63 W (hLW hW) (hnW hW)
  have s4 : ∀ W, Below w.heap.size w W → _ := fun W hW => Front_any b cb M n₀ h64 W (hMW hW) (hnW hW)
  unfold befErr at s1 s2
  unfold joinErr at s3 s4
  by_cases hc : codeLL (zl L) (zl M) = 0
  · have HC := hide (show codeLL (zl L) (zl M) = 0 ∧ codeLL (zl M) (zl L) = 0 from ⟨hc, codeLL_zero_comm hc⟩)
    obtain ⟨q1, q2, _⟩ := codeLL_zero hc
    rw [hc] at s1
    rw [HC.out.2] at s2
    rw [q1] at s3
    rw [q2] at s4
    clear hc q1 q2
    go_enter Try.func6, Try.ntmps6
    go_wp2_with fail
    with_reducible refine s1.mono ?_
    rintro e w1 ⟨hb1, hh1⟩
    obtain ⟨_, rfl⟩ := hh1.resolve_left fun h => h.1 rfl
    have t2 := s2 w1 hb1
    clear s1 s2 hh1
    go_wp2_with fail
    with_reducible refine t2.mono ?_
    rintro e w2 ⟨hb2, hh2⟩
    obtain ⟨_, rfl⟩ := hh2.resolve_left fun h => h.1 rfl
    have hB2 := hb1.trans (hb2.mono hb1.size)
    have t3 := s3 w2 hB2
    clear s3 t2 hh2 hb2
    go_wp2_with fail
    with_reducible refine t3.mono ?_
    rintro e w3 ⟨hb3, hh3⟩
    obtain ⟨_, av, cv, S, rfl, hO3, hF3, hI3⟩ := hh3.resolve_left fun h => h.1 rfl
    have hB3 := hB2.trans (hb3.mono hB2.size)
    have t4 := s4 w3 hB3
    clear s4 t3 hh3 hb3
    go_wp2_with fail
    with_reducible refine t4.mono ?_
    rintro e w4 ⟨hb4, hh4⟩
    obtain ⟨_, av4, cv4, S4, rfl, hO4, hF4, hI4⟩ := hh4.resolve_left fun h => h.1 rfl
    have hB4 := hB3.trans (hb4.mono hB3.size)
    have hs4 := hb4.size
    have hZ3 : ZLists w3.heap.size w3 av S := ⟨hO3, hF3.inner⟩
    have hZ34 : ZLists w4.heap.size w4 av S := (hZ3.below hb4).mono hs4
    have hZ4 : ZLists w4.heap.size w4 av4 S4 := ⟨hO4, hF4.inner⟩
    have hlS : S.length ≤ 64 := by have := (codeL_zero (front_code (codeLL_zero HC.out.1).1 hI3)).1; rw [zl_len] at this; exact this
    have hlS4 : S4.length ≤ 64 := by have := (codeL_zero (front_code (codeLL_zero HC.out.1).2.1 hI4)).1; rw [zl_len] at this; exact this
    have t5 := Before_any av cv S av4 cv4 S4 w4.heap.size (by omega) (by omega) w4 hZ34 hZ4 (Nat.le_refl _)
    unfold befErr at t5
    rw [front_two HC.out.1 hI3 hI4, before_front HC.out.1 hI3 hI4] at t5
    have HS := hide (both_same HC.out.1 hI3 hI4)
    clear t4 hh4
    go_wp2_with fail
    with_reducible refine t5.mono ?_
    rintro e w5 ⟨hb5, hh5⟩
    obtain ⟨_, rfl⟩ := hh5.resolve_left fun h => h.1 rfl
    have hB5 := hB4.trans (hb5.mono hB4.size)
    have hs5 := hb5.size
    have t6 := Lists_any av cv S av4 cv4 S4 w5.heap.size (by omega) w5 ((hZ34.below hb5).mono hs5) ((hZ4.below hb5).mono hs5) (Nat.le_refl _)
    have e6 : sameL S S4 = (beforeB (zl L) (zl M) && beforeB (zl M) (zl L)) := HS.out.symm
    rw [e6] at t6
    clear e6 HS t5 hh5 hI3 hI4
    generalize beforeB (zl L) (zl M) = r1 at *
    generalize beforeB (zl M) (zl L) = r2 at *
    cases r1 <;> cases r2
    all_goals
      go_wp2_with fail
      with_reducible refine t6.mono ?_
      rintro e w6 ⟨rfl, hb6⟩
      go_wp2_with fail
      go_ret
      exact ⟨rfl, hB5.trans (hb6.mono hB5.size)⟩
  · have hc2 : codeLL (zl M) (zl L) ≠ 0 := fun h => hc (codeLL_zero_comm h)
    have e1 : (codeLL (zl L) (zl M) != 0) = true := by rw [bne_iff_ne]; exact hc
    have e2 : (codeLL (zl L) (zl M) == 0) = false := by rw [beq_eq_false_iff_ne]; exact hc
    have e3 : (codeLL (zl M) (zl L) == 0) = false := by rw [beq_eq_false_iff_ne]; exact hc2
    have HC := hide (show codeLL (zl L) (zl M) ≠ 0 ∧ codeLL (zl M) (zl L) ≠ 0 from ⟨hc, hc2⟩)
    have u3 : ∀ W, Below w.heap.size w W → Calls Try.prog 9 #[.slice a L.length ca] W fun e w' => ∃ av n cv z, e = .returned (.tuple #[.slice av n cv, .int .i64 z]) ∧ Below W.heap.size W w' := fun W hW => (s3 W hW).mono fun e w' h => by
      rcases h.2 with ⟨_, h2⟩ | ⟨_, av, cv, S, h2, _⟩
      · exact ⟨none, 0, 0, _, h2, h.1⟩
      · exact ⟨av, _, cv, _, h2, h.1⟩
    have u4 : ∀ W, Below w.heap.size w W → Calls Try.prog 9 #[.slice b M.length cb] W fun e w' => ∃ av n cv z, e = .returned (.tuple #[.slice av n cv, .int .i64 z]) ∧ Below W.heap.size W w' := fun W hW => (s4 W hW).mono fun e w' h => by
      rcases h.2 with ⟨_, h2⟩ | ⟨_, av, cv, S, h2, _⟩
      · exact ⟨none, 0, 0, _, h2, h.1⟩
      · exact ⟨av, _, cv, _, h2, h.1⟩
    clear hc hc2 s3 s4
    generalize codeLL (zl L) (zl M) = c at *
    generalize codeLL (zl M) (zl L) = d at *
    go_enter Try.func6, Try.ntmps6
    go_wp2_with fail
    with_reducible refine s1.mono ?_
    rintro e w1 ⟨hb1, hh1⟩
    obtain ⟨_, rfl⟩ := hh1.resolve_right fun h => HC.out.1 h.1
    have t2 := s2 w1 hb1
    clear s1 s2 hh1
    go_wp2_with fail
    with_reducible refine t2.mono ?_
    rintro e w2 ⟨hb2, hh2⟩
    obtain ⟨_, rfl⟩ := hh2.resolve_right fun h => HC.out.2 h.1
    have hB2 := hb1.trans (hb2.mono hb1.size)
    have t3 := u3 w2 hB2
    clear u3 t2 hh2 hb2
    go_wp2_with fail
    with_reducible refine t3.mono ?_
    rintro e w3 ⟨av, n3, cv, z3, rfl, hb3⟩
    have hB3 := hB2.trans (hb3.mono hB2.size)
    have t4 := u4 w3 hB3
    clear u4 t3 hb3
    go_wp2_with fail
    with_reducible refine t4.mono ?_
    rintro e w4 ⟨av4, n4, cv4, z4, rfl, hb4⟩
    go_wp2_with fail
    go_ret
    exact ⟨rfl, hB3.trans (hb4.mono hB3.size)⟩
end Go.Proofs.Ytdknniomgdjbfaa
