/- The contracts of package summary's makes, Check and brings; and of the document's SummaryCheck, SummaryOut, SummaryPlace. -/
import Derived.Test.YtbnjbnjgfjpegaaSumPlain
import Derived.Test.YtbnjbnjgfjpegaaTimTwo
namespace Go.Proofs.Ytbnjbnjgfjpegaa
open Go.RowKit Go.Shelf

/-- a summary in a block of its own -/
theorem sum_row (w : World) (p0 p1 p2 : Value) {W : World} (h : (w.alloc (.cells #[p0, p1, p2] 32)) = W) :
    Row W w.heap.size 32 [p0, p1, p2] ∧ Below w.heap.size w W ∧ W.heap.size = w.heap.size + 1 := by
  subst h
  exact ⟨Row.new w 32 [p0, p1, p2], (Below.refl _ _).alloc (Nat.le_refl _) _, by simp⟩
theorem sout_any (x : Int) (w : World) :
    Calls Try.prog 29 #[.int .i64 x] w fun e w' => e = .returned (.bool (outC x)) ∧ w' = w := by
  by_cases h1 : x < 0
  · have HO := hide (outC_true.2 (.inl h1))
    have hd : decide (x < 0) = true := by simp [h1]
    clear h1
    go_enter Try.func29, Try.ntmps29
    go_wp2
    go_ret
    exact ⟨ret_bool HO.out.symm, rfl⟩
  · have hd : decide (x < 0) = false := by simp; omega
    by_cases h2 : 1048576 < x
    · have HO := hide (outC_true.2 (.inr h2))
      have hd2 : decide (1048576 < x) = true := by simp [h2]
      clear h1 h2
      go_enter Try.func29, Try.ntmps29
      go_wp2
      go_ret
      exact ⟨ret_bool HO.out.symm, rfl⟩
    · have HO := hide (show outC x = false from outC_false.2 ⟨by omega, by omega⟩)
      have hd2 : decide (1048576 < x) = false := by simp; omega
      clear h1 h2
      go_enter Try.func29, Try.ntmps29
      go_wp2
      go_ret
      exact ⟨ret_bool HO.out.symm, rfl⟩

theorem sidx_any (a : Option Addr) (cap : Nat) (zs : List Int) (n₀ : Nat) (h63 : zs.length ≤ 9223372036854775807) (w : World) (hw : ZInts n₀ w a zs) :
    Calls Try.prog 37 #[.slice a zs.length cap, .func (.func 29) #[] #[]] w fun e w' => ∃ r : Int, e = .returned (.int .i64 r) ∧ w' = w ∧ decide (0 ≤ r) = !coordB zs := by
  go_enter Try.func37, Try.ntmps37
  go_wp2
  go_loop [8] (fun i => ∃ k : Nat, k ≤ zs.length ∧ i = .int .i64 k ∧ ∀ j, j < k → outC (zd zs j) = false) (fun i => zs.length - (intOf i).toNat)
  case atStart => exact ⟨0, Nat.zero_le _, rfl, fun j hj => by omega⟩
  case round =>
    obtain ⟨k, hk, rfl, hsofar⟩ := hrel
    by_cases hlt : k < zs.length
    · obtain ⟨b, off, rfl, hb, hc⟩ := hw.at hlt
      have hck := hc k hlt
      have ho := sout_any (zd zs k)
      clear hc
      cases hu : outC (zd zs k) with
      | true =>
        have HF := hide (coordB_false.2 (show ¬ Coords zs from fun h => by rw [h k hlt] at hu; cases hu))
        rw [hu] at ho
        clear hu
        go_wp2_with (go_at_call 29; refine (ho _).mono ?_; rintro e w' ⟨rfl, rfl⟩)
        go_ret
        exact ⟨_, rfl, rfl, by rw [HF.out]; simp⟩
      | false =>
        have HU := hide hu
        rw [hu] at ho
        clear hu
        go_wp2_with (go_at_call 29; refine (ho _).mono ?_; rintro e w' ⟨rfl, rfl⟩)
        go_round
        case rel => exact ⟨k + 1, by omega, by go_num, fun j hj => by
          by_cases e : j = k
          · rw [e]; exact HU.out
          · exact hsofar j (by omega)⟩
        case measure => simp [intOf]; omega
    · have HF := hide (coordB_true.2 (show Coords zs from fun i hi => hsofar i (by omega)))
      go_wp2
      go_ret
      exact ⟨_, rfl, rfl, by rw [HF.out]; rfl⟩

theorem scon_any (a : Option Addr) (cap : Nat) (zs : List Int) (n₀ : Nat) (h63 : zs.length ≤ 9223372036854775807) (w : World) (hw : ZInts n₀ w a zs) :
    Calls Try.prog 30 #[.slice a zs.length cap, .func (.func 29) #[] #[]] w fun e w' => e = .returned (.bool (!coordB zs)) ∧ w' = w := by
  have h1 := sidx_any a cap zs n₀ h63 w hw
  generalize coordB zs = c at *
  go_enter Try.func30, Try.ntmps30
  go_wp2_with fail
  with_reducible refine h1.mono ?_
  rintro e w' ⟨r, rfl, rfl, hr⟩
  have HR := hide hr
  clear hr
  go_wp2_with fail
  go_ret
  exact ⟨ret_bool HR.out, rfl⟩


set_option maxRecDepth 100000 in
theorem smakes_any (k d : Int) (a : Option Addr) (cap : Nat) (zs : List Int) (hk : 1 ≤ k ∧ k ≤ 4) (h47 : zs.length ≤ 17592186044416) (w : World) :
    Calls Try.prog 18 #[.agg #[.int .i64 k, .int .i64 d, .slice a zs.length cap]] w fun e w' => e = .returned (.int .i64 (k + (zs.length : Int))) ∧ Below w.heap.size w w' := by
  obtain ⟨r0, hb0, hs0⟩ := sum_row w (.int .i64 k) (.int .i64 d) (.slice a zs.length cap) rfl
  have c0 := r0.cell (i := 0) rfl
  have c1 := r0.cell (i := 1) rfl
  have c2 := r0.cell (i := 2) rfl
  have HB := hide hb0
  clear hb0 r0
  obtain ⟨h1, h2⟩ := hk
  go_enter Try.func18, Try.ntmps18
  go_wp2_with fail
  go_ret
  exact ⟨rfl, HB.out⟩

set_option maxRecDepth 100000 in
theorem rsout_any (k d : Int) (a : Option Addr) (cap : Nat) (zs : List Int) (hk : 1 ≤ k ∧ k ≤ 4) (h47 : zs.length ≤ 17592186044416) (w : World) :
    Calls Try.prog 13 #[.agg #[.int .i64 k, .int .i64 d, .slice a zs.length cap]] w fun e w' => e = .returned (.int .i64 (k + (zs.length : Int))) ∧ Below w.heap.size w w' := by
  obtain ⟨r0, hb0, hs0⟩ := sum_row w (.int .i64 k) (.int .i64 d) (.slice a zs.length cap) rfl
  have c0 := r0.cell (i := 0) rfl
  have c1 := r0.cell (i := 1) rfl
  have c2 := r0.cell (i := 2) rfl
  have HB := hide hb0
  clear hb0 r0
  obtain ⟨h1, h2⟩ := hk
  go_enter Try.func13, Try.ntmps13
  go_wp2_with fail
  go_ret
  exact ⟨rfl, HB.out⟩

set_option maxRecDepth 100000 in
set_option maxHeartbeats 1000000 in
theorem scheck_any (k d : Int) (a : Option Addr) (cap : Nat) (zs : List Int) (n : Int) (n₀ : Nat) (h47 : zs.length ≤ 17592186044416) (w : World) (hz : ZInts n₀ w a zs) (hn₀ : n₀ ≤ w.heap.size) :
    Calls Try.prog 17 #[.agg #[.int .i64 k, .int .i64 d, .slice a zs.length cap], .int .i64 n] w fun e w' => e = .returned (.int .i64 (codeS ⟨k, d, zs⟩ n)) ∧ Below w.heap.size w w' := by
  obtain ⟨r0, hb0, hs0⟩ := sum_row w (.int .i64 k) (.int .i64 d) (.slice a zs.length cap) rfl
  have c0 := r0.cell (i := 0) rfl
  have c1 := r0.cell (i := 1) rfl
  have c2 := r0.cell (i := 2) rfl
  have lt0 := r0.lt
  have Hb := hide hb0
  have HS := hide hs0
  have hzW : ∀ {W}, Below w.heap.size w W → ZInts n₀ W a zs := fun hW => hz.below (hW.mono hn₀)
  clear hb0 hs0
  by_cases h1 : n < 1
  · have HC := hide (codeS_large (s := ⟨k, d, zs⟩) (n := n) (.inl h1))
    have e1 : decide (n < 1) = true := decide_eq_true h1
    clear h1
    go_enter Try.func17, Try.ntmps17
    go_wp2_with fail
    go_ret
    exact ⟨ret_int HC.out.symm, Hb.out⟩
  · skip
    by_cases h2 : 4 < n
    · have HC := hide (codeS_large (s := ⟨k, d, zs⟩) (n := n) (.inr (.inl h2)))
      have e1 : decide (n < 1) = false := decide_eq_false h1
      have e2 : decide (4 < n) = true := decide_eq_true h2
      clear h1 h2
      go_enter Try.func17, Try.ntmps17
      go_wp2_with fail
      go_ret
      exact ⟨ret_int HC.out.symm, Hb.out⟩
    · skip
      by_cases h3 : k < 1
      · have HC := hide (codeS_large (s := ⟨k, d, zs⟩) (n := n) (.inr (.inr (.inl h3))))
        have e1 : decide (n < 1) = false := decide_eq_false h1
        have e2 : decide (4 < n) = false := decide_eq_false h2
        have e3 : decide (k < 1) = true := decide_eq_true h3
        clear h1 h2 h3
        go_enter Try.func17, Try.ntmps17
        go_wp2_with fail
        go_ret
        exact ⟨ret_int HC.out.symm, Hb.out⟩
      · skip
        by_cases h4 : n < k
        · have HC := hide (codeS_large (s := ⟨k, d, zs⟩) (n := n) (.inr (.inr (.inr (.inl h4)))))
          have e1 : decide (n < 1) = false := decide_eq_false h1
          have e2 : decide (4 < n) = false := decide_eq_false h2
          have e3 : decide (k < 1) = false := decide_eq_false h3
          have e4 : decide (n < k) = true := decide_eq_true h4
          clear h1 h2 h3 h4
          go_enter Try.func17, Try.ntmps17
          go_wp2_with fail
          go_ret
          exact ⟨ret_int HC.out.symm, Hb.out⟩
        · skip
          have e1 : decide (n < 1) = false := decide_eq_false h1
          have e2 : decide (4 < n) = false := decide_eq_false h2
          have e3 : decide (k < 1) = false := decide_eq_false h3
          have e4 : decide (n < k) = false := decide_eq_false h4
          have hm := smakes_any k d a cap zs (by omega) h47 (w.alloc (.cells #[.int .i64 k, .int .i64 d, .slice a zs.length cap] 32))
          by_cases h5 : 4 < k + (zs.length : Int)
          · have HC := hide (codeS_large (s := ⟨k, d, zs⟩) (n := n) (.inr (.inr (.inr (.inr h5)))))
            have e5 : decide (4 < k + (zs.length : Int)) = true := decide_eq_true h5
            clear h1 h2 h3 h4 h5
            go_enter Try.func17, Try.ntmps17
            go_wp2_with fail
            with_reducible refine hm.mono ?_
            rintro e w1 ⟨rfl, hb1⟩
            go_wp2_with fail
            go_ret
            exact ⟨ret_int HC.out.symm, Hb.out.trans (hb1.mono Hb.out.size)⟩
          · have HN := hide (show ¬ badS ⟨k, d, zs⟩ n by unfold badS; dsimp only; omega)
            have e5 : decide (4 < k + (zs.length : Int)) = false := decide_eq_false h5
            have hl : zs.length ≤ 9223372036854775807 := by omega
            clear h1 h2 h3 h4 h5
            have ho := sout_any d
            cases hd : outC d with
            | true =>
              have HC := hide (codeS_add HN.out hd)
              rw [hd] at ho
              clear hd
              go_enter Try.func17, Try.ntmps17
              go_wp2_with fail
              with_reducible refine hm.mono ?_
              rintro e w1 ⟨rfl, hb1⟩
              have q0 := row_below r0 hb1 lt0
              have d1 := q0.cell (i := 1) rfl
              clear hm
              go_wp2_with (refine (ho _).mono ?_; rintro e w' ⟨rfl, rfl⟩)
              go_ret
              exact ⟨ret_int HC.out.symm, Hb.out.trans (hb1.mono Hb.out.size)⟩
            | false =>
              have HD := hide hd
              rw [hd] at ho
              clear hd
              have hcs : ∀ W, Below w.heap.size w W → _ := fun W hW => scon_any a cap zs n₀ hl W (hzW hW)
              cases hc : coordB zs with
              | true =>
                have HC := hide (codeS_ok HN.out HD.out hc)
                rw [hc] at hcs
                clear hc
                go_enter Try.func17, Try.ntmps17
                go_wp2_with fail
                with_reducible refine hm.mono ?_
                rintro e w1 ⟨rfl, hb1⟩
                have q0 := row_below r0 hb1 lt0
                have d1 := q0.cell (i := 1) rfl
                have d2 := q0.cell (i := 2) rfl
                have hcs1 := hcs w1 (Hb.out.trans (hb1.mono Hb.out.size))
                clear hm hcs
                go_wp2_with (first | (go_at_call 29; refine (ho _).mono ?_; rintro e w' ⟨rfl, rfl⟩) | (go_at_call 30; refine hcs1.mono ?_; rintro e w' ⟨rfl, rfl⟩))
                go_ret
                exact ⟨ret_int HC.out.symm, Hb.out.trans (hb1.mono Hb.out.size)⟩
              | false =>
                have HC := hide (codeS_push HN.out hc)
                rw [hc] at hcs
                clear hc
                go_enter Try.func17, Try.ntmps17
                go_wp2_with fail
                with_reducible refine hm.mono ?_
                rintro e w1 ⟨rfl, hb1⟩
                have q0 := row_below r0 hb1 lt0
                have d1 := q0.cell (i := 1) rfl
                have d2 := q0.cell (i := 2) rfl
                have hcs1 := hcs w1 (Hb.out.trans (hb1.mono Hb.out.size))
                clear hm hcs
                go_wp2_with (first | (go_at_call 29; refine (ho _).mono ?_; rintro e w' ⟨rfl, rfl⟩) | (go_at_call 30; refine hcs1.mono ?_; rintro e w' ⟨rfl, rfl⟩))
                go_ret
                exact ⟨ret_int HC.out.symm, Hb.out.trans (hb1.mono Hb.out.size)⟩

set_option maxRecDepth 100000 in
set_option maxHeartbeats 1000000 in
theorem sbrings_any (k d : Int) (a : Option Addr) (cap : Nat) (zs : List Int) (i : Nat) (n₀ : Nat) (hk : 1 ≤ k ∧ k ≤ 4) (hi : (i : Int) < k + (zs.length : Int)) (hl : zs.length ≤ 4) (w : World) (hz : ZInts n₀ w a zs) (hn₀ : n₀ ≤ w.heap.size) :
    Calls Try.prog 19 #[.agg #[.int .i64 k, .int .i64 d, .slice a zs.length cap], .int .i64 i] w fun e w' => e = .returned (.int .i64 ((Sm.mk k d zs).at i)) ∧ Below w.heap.size w w' := by
  obtain ⟨r0, hb0, hs0⟩ := sum_row w (.int .i64 k) (.int .i64 d) (.slice a zs.length cap) rfl
  have c0 := r0.cell (i := 0) rfl
  have c1 := r0.cell (i := 1) rfl
  have c2 := r0.cell (i := 2) rfl
  have Hb := hide hb0
  obtain ⟨k1, k4⟩ := hk
  have hz1 := hz.below (hb0.mono hn₀)
  clear hb0 hs0 r0
  by_cases h1 : k ≤ (i : Int)
  · have HC := hide (Sm.at_put (s := ⟨k, d, zs⟩) h1)
    have e1 : decide (k ≤ (i : Int)) = true := decide_eq_true h1
    dsimp only at HC
    obtain ⟨j, hj⟩ : ∃ j, j = i - k.toNat := ⟨_, rfl⟩
    rw [← hj] at HC
    have he : (i : Int) - k = (j : Int) := by omega
    obtain ⟨b, off, rfl, hb, hcc⟩ := hz1.at (i := j) (by omega)
    have hck := hcc j (by omega)
    have hjl : j < zs.length := by omega
    clear hcc h1 hj
    go_enter Try.func19, Try.ntmps19
    go_wp2_with fail
    go_ret
    exact ⟨ret_int HC.out.symm, Hb.out⟩
  · have e1 : decide (k ≤ (i : Int)) = false := decide_eq_false h1
    by_cases h2 : (i : Int) + 1 = k
    · have HC := hide (Sm.at_add (s := ⟨k, d, zs⟩) h2)
      have e2 : ((i : Int) == k - 1) = true := by rw [beq_iff_eq]; omega
      clear h1 h2
      go_enter Try.func19, Try.ntmps19
      go_wp2_with fail
      go_ret
      exact ⟨ret_int HC.out.symm, Hb.out⟩
    · have HC := hide (Sm.at_keep (s := ⟨k, d, zs⟩) (i := i) (show (i : Int) + 1 < k by omega))
      have e2 : ((i : Int) == k - 1) = false := by rw [beq_eq_false_iff_ne]; omega
      clear h1 h2
      go_enter Try.func19, Try.ntmps19
      go_wp2_with fail
      go_ret
      exact ⟨ret_int HC.out.symm, Hb.out⟩

set_option maxRecDepth 100000 in
set_option maxHeartbeats 1000000 in
theorem rsplace_any (k d : Int) (a : Option Addr) (cap : Nat) (zs : List Int) (i : Nat) (n₀ : Nat) (hk : 1 ≤ k ∧ k ≤ 4) (hi : (i : Int) < k + (zs.length : Int)) (hl : zs.length ≤ 4) (w : World) (hz : ZInts n₀ w a zs) (hn₀ : n₀ ≤ w.heap.size) :
    Calls Try.prog 28 #[.agg #[.int .i64 k, .int .i64 d, .slice a zs.length cap], .int .i64 i] w fun e w' => e = .returned (.int .i64 ((Sm.mk k d zs).at i)) ∧ Below w.heap.size w w' := by
  obtain ⟨r0, hb0, hs0⟩ := sum_row w (.int .i64 k) (.int .i64 d) (.slice a zs.length cap) rfl
  have c0 := r0.cell (i := 0) rfl
  have c1 := r0.cell (i := 1) rfl
  have c2 := r0.cell (i := 2) rfl
  have Hb := hide hb0
  obtain ⟨k1, k4⟩ := hk
  have hz1 := hz.below (hb0.mono hn₀)
  clear hb0 hs0 r0
  by_cases h1 : k ≤ (i : Int)
  · have HC := hide (Sm.at_put (s := ⟨k, d, zs⟩) h1)
    have e1 : decide (k ≤ (i : Int)) = true := decide_eq_true h1
    dsimp only at HC
    obtain ⟨j, hj⟩ : ∃ j, j = i - k.toNat := ⟨_, rfl⟩
    rw [← hj] at HC
    have he : (i : Int) - k = (j : Int) := by omega
    obtain ⟨b, off, rfl, hb, hcc⟩ := hz1.at (i := j) (by omega)
    have hck := hcc j (by omega)
    have hjl : j < zs.length := by omega
    clear hcc h1 hj
    go_enter Try.func28, Try.ntmps28
    go_wp2_with fail
    go_ret
    exact ⟨ret_int HC.out.symm, Hb.out⟩
  · have e1 : decide (k ≤ (i : Int)) = false := decide_eq_false h1
    by_cases h2 : (i : Int) + 1 = k
    · have HC := hide (Sm.at_add (s := ⟨k, d, zs⟩) h2)
      have e2 : ((i : Int) == k - 1) = true := by rw [beq_iff_eq]; omega
      clear h1 h2
      go_enter Try.func28, Try.ntmps28
      go_wp2_with fail
      go_ret
      exact ⟨ret_int HC.out.symm, Hb.out⟩
    · have HC := hide (Sm.at_keep (s := ⟨k, d, zs⟩) (i := i) (show (i : Int) + 1 < k by omega))
      have e2 : ((i : Int) == k - 1) = false := by rw [beq_eq_false_iff_ne]; omega
      clear h1 h2
      go_enter Try.func28, Try.ntmps28
      go_wp2_with fail
      go_ret
      exact ⟨ret_int HC.out.symm, Hb.out⟩

set_option maxRecDepth 100000 in
set_option maxHeartbeats 1000000 in
theorem rscheck_any (k d : Int) (a : Option Addr) (cap : Nat) (zs : List Int) (n : Int) (n₀ : Nat) (h47 : zs.length ≤ 17592186044416) (w : World) (hz : ZInts n₀ w a zs) (hn₀ : n₀ ≤ w.heap.size) :
    Calls Try.prog 12 #[.agg #[.int .i64 k, .int .i64 d, .slice a zs.length cap], .int .i64 n] w fun e w' => e = .returned (.int .i64 (codeS ⟨k, d, zs⟩ n)) ∧ Below w.heap.size w w' := by
  obtain ⟨r0, hb0, hs0⟩ := sum_row w (.int .i64 k) (.int .i64 d) (.slice a zs.length cap) rfl
  have c0 := r0.cell (i := 0) rfl
  have c1 := r0.cell (i := 1) rfl
  have c2 := r0.cell (i := 2) rfl
  have Hb := hide hb0
  have hz1 := hz.below (hb0.mono hn₀)
  clear hb0 hs0 r0
  by_cases h1 : n < 1
  · have HC := hide (codeS_large (s := ⟨k, d, zs⟩) (n := n) (.inl h1))
    have e1 : decide (n < 1) = true := decide_eq_true h1
    clear hz1
    go_enter Try.func12, Try.ntmps12
    go_wp2_with fail
    go_ret
    exact ⟨ret_int HC.out.symm, Hb.out⟩
  · skip
    by_cases h2 : 4 < n
    · have HC := hide (codeS_large (s := ⟨k, d, zs⟩) (n := n) (.inr (.inl h2)))
      have e1 : decide (n < 1) = false := decide_eq_false h1
      have e2 : decide (4 < n) = true := decide_eq_true h2
      clear hz1
      go_enter Try.func12, Try.ntmps12
      go_wp2_with fail
      go_ret
      exact ⟨ret_int HC.out.symm, Hb.out⟩
    · skip
      by_cases h3 : k < 1
      · have HC := hide (codeS_large (s := ⟨k, d, zs⟩) (n := n) (.inr (.inr (.inl h3))))
        have e1 : decide (n < 1) = false := decide_eq_false h1
        have e2 : decide (4 < n) = false := decide_eq_false h2
        have e3 : decide (k < 1) = true := decide_eq_true h3
        clear hz1
        go_enter Try.func12, Try.ntmps12
        go_wp2_with fail
        go_ret
        exact ⟨ret_int HC.out.symm, Hb.out⟩
      · skip
        by_cases h4 : n < k
        · have HC := hide (codeS_large (s := ⟨k, d, zs⟩) (n := n) (.inr (.inr (.inr (.inl h4)))))
          have e1 : decide (n < 1) = false := decide_eq_false h1
          have e2 : decide (4 < n) = false := decide_eq_false h2
          have e3 : decide (k < 1) = false := decide_eq_false h3
          have e4 : decide (n < k) = true := decide_eq_true h4
          clear hz1
          go_enter Try.func12, Try.ntmps12
          go_wp2_with fail
          go_ret
          exact ⟨ret_int HC.out.symm, Hb.out⟩
        · skip
          by_cases h5 : (4 : Int) < (zs.length : Int)
          · have HC := hide (codeS_large (s := ⟨k, d, zs⟩) (n := n) (.inr (.inr (.inr (.inr (by dsimp only; omega))))))
            have e1 : decide (n < 1) = false := decide_eq_false h1
            have e2 : decide (4 < n) = false := decide_eq_false h2
            have e3 : decide (k < 1) = false := decide_eq_false h3
            have e4 : decide (n < k) = false := decide_eq_false h4
            have e5 : decide ((4 : Int) < (zs.length : Int)) = true := decide_eq_true h5
            clear hz1
            go_enter Try.func12, Try.ntmps12
            go_wp2_with fail
            go_ret
            exact ⟨ret_int HC.out.symm, Hb.out⟩
          · skip
            by_cases h6 : 4 < k + (zs.length : Int)
            · have HC := hide (codeS_large (s := ⟨k, d, zs⟩) (n := n) (.inr (.inr (.inr (.inr h6)))))
              have e1 : decide (n < 1) = false := decide_eq_false h1
              have e2 : decide (4 < n) = false := decide_eq_false h2
              have e3 : decide (k < 1) = false := decide_eq_false h3
              have e4 : decide (n < k) = false := decide_eq_false h4
              have e5 : decide ((4 : Int) < (zs.length : Int)) = false := decide_eq_false h5
              have e6 : decide (4 < k + (zs.length : Int)) = true := decide_eq_true h6
              clear hz1
              go_enter Try.func12, Try.ntmps12
              go_wp2_with fail
              go_ret
              exact ⟨ret_int HC.out.symm, Hb.out⟩
            · skip
              have HN := hide (show ¬ badS ⟨k, d, zs⟩ n by unfold badS; dsimp only; omega)
              have e1 : decide (n < 1) = false := decide_eq_false h1
              have e2 : decide (4 < n) = false := decide_eq_false h2
              have e3 : decide (k < 1) = false := decide_eq_false h3
              have e4 : decide (n < k) = false := decide_eq_false h4
              have e5 : decide ((4 : Int) < (zs.length : Int)) = false := decide_eq_false h5
              have e6 : decide (4 < k + (zs.length : Int)) = false := decide_eq_false h6
              by_cases h7 : d < 0
              · have HC := hide (codeS_add (s := ⟨k, d, zs⟩) HN.out (outC_true.2 (.inl h7)))
                have e7 : decide (d < 0) = true := decide_eq_true h7
                clear h7
                go_enter Try.func12, Try.ntmps12
                go_wp2_with fail
                go_ret
                exact ⟨ret_int HC.out.symm, Hb.out⟩
              · have e7 : decide (d < 0) = false := decide_eq_false h7
                by_cases h8 : 1048576 < d
                · have HC := hide (codeS_add (s := ⟨k, d, zs⟩) HN.out (outC_true.2 (.inr h8)))
                  have e8 : decide (1048576 < d) = true := decide_eq_true h8
                  clear h7 h8
                  go_enter Try.func12, Try.ntmps12
                  go_wp2_with fail
                  go_ret
                  exact ⟨ret_int HC.out.symm, Hb.out⟩
                · have HD := hide (show outC d = false from outC_false.2 (by omega))
                  have e8 : decide (1048576 < d) = false := decide_eq_false h8
                  clear h7 h8
                  go_enter Try.func12, Try.ntmps12
                  go_wp2_with fail
                  go_loop [50] (fun i => ∃ j : Nat, j ≤ zs.length ∧ i = .int .i64 j ∧ ∀ m, m < j → outC (zd zs m) = false) (fun i => zs.length - (intOf i).toNat)
                  case atStart => exact ⟨0, Nat.zero_le _, rfl, fun j hj => by omega⟩
                  case round =>
                    obtain ⟨j, hj, rfl, hsofar⟩ := hrel
                    by_cases hlt : j < zs.length
                    · obtain ⟨b, off, rfl, hb, hc⟩ := hz1.at hlt
                      have hck := hc j hlt
                      clear hc
                      by_cases g1 : zd zs j < 0
                      · have HF := hide (codeS_push (s := ⟨k, d, zs⟩) HN.out (coordB_false.2 (show ¬ Coords zs from fun h => by have := outC_false.1 (h j hlt); omega)))
                        have f1 : decide (zd zs j < 0) = true := decide_eq_true g1
                        clear g1
                        go_wp2
                        go_ret
                        exact ⟨ret_int HF.out.symm, Hb.out⟩
                      · have f1 : decide (zd zs j < 0) = false := decide_eq_false g1
                        by_cases g2 : 1048576 < zd zs j
                        · have HF := hide (codeS_push (s := ⟨k, d, zs⟩) HN.out (coordB_false.2 (show ¬ Coords zs from fun h => by have := outC_false.1 (h j hlt); omega)))
                          have f2 : decide (1048576 < zd zs j) = true := decide_eq_true g2
                          clear g1 g2
                          go_wp2
                          go_ret
                          exact ⟨ret_int HF.out.symm, Hb.out⟩
                        · have HU := hide (outC_false.2 (show 0 ≤ zd zs j ∧ zd zs j ≤ 1048576 by omega))
                          have f2 : decide (1048576 < zd zs j) = false := decide_eq_false g2
                          clear g1 g2
                          go_wp2
                          go_round
                          case rel => exact ⟨j + 1, by omega, by go_num, fun m hm => by
                            by_cases e : m = j
                            · rw [e]; exact HU.out
                            · exact hsofar m (by omega)⟩
                          case measure => simp [intOf]; omega
                    · have HF := hide (codeS_ok (s := ⟨k, d, zs⟩) HN.out HD.out (coordB_true.2 (show Coords zs from fun i hi => hsofar i (by omega))))
                      go_wp2
                      go_ret
                      exact ⟨ret_int HF.out.symm, Hb.out⟩
end Go.Proofs.Ytbnjbnjgfjpegaa
