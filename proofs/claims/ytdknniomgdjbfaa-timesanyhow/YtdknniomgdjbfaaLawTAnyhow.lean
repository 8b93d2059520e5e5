/- The walk of the law TimesAnyhow: it answers true, and writes nothing that was there. -/
import Derived.Test.YtdknniomgdjbfaaTimLeast
import Derived.Test.YtdknniomgdjbfaaTimMore
import Derived.Test.YtdknniomgdjbfaaTimLists
namespace Go.Proofs.Ytdknniomgdjbfaa
open Go.RowKit Go.Shelf

/-- the place that comes to stand at i -/
def turnI (n k i : Nat) : Nat := (k % n + n - i) % n
def turnTo (L : List Sl) (k m : Nat) : List Sl := (List.range m).map fun i => nth L (turnI L.length k i)
theorem turnTo_len (L : List Sl) (k m : Nat) : (turnTo L k m).length = m := by unfold turnTo; simp
theorem turnTo_succ (L : List Sl) (k m : Nat) : turnTo L k (m + 1) = turnTo L k m ++ [nth L (turnI L.length k m)] := by
  unfold turnTo; rw [List.range_succ, List.map_append]; rfl
theorem turnI_lt {n k i : Nat} (hn : 0 < n) : turnI n k i < n := Nat.mod_lt _ hn
theorem turn_back {n k j : Nat} (hj : j < n) : ∃ i, i < n ∧ turnI n k i = j := by
  have ht := Nat.mod_lt k (by omega : 0 < n)
  unfold turnI
  generalize k % n = t at *
  by_cases h : j ≤ t
  · refine ⟨t - j, by omega, ?_⟩
    have e : t + n - (t - j) = j + n := by omega
    rw [e, Nat.add_mod_right, Nat.mod_eq_of_lt hj]
  · refine ⟨t + n - j, by omega, ?_⟩
    have e : t + n - (t + n - j) = j := by omega
    rw [e, Nat.mod_eq_of_lt hj]
theorem turn_mem {L : List Sl} {k : Nat} (t : List Int) : t ∈ zl (turnTo L k L.length) ↔ t ∈ zl L := by
  by_cases h0 : L.length = 0
  · have : L = [] := List.length_eq_zero_iff.1 h0
    subst this
    simp [turnTo, zl]
  · constructor
    · intro h
      unfold zl turnTo at h
      rw [List.map_map, List.mem_map] at h
      obtain ⟨i, _, e⟩ := h
      exact mem_zl.2 ⟨_, turnI_lt (by omega), e⟩
    · intro h
      obtain ⟨j, hj, e⟩ := mem_zl.1 h
      obtain ⟨i, hi, e2⟩ := turn_back (k := k) hj
      unfold zl turnTo
      rw [List.map_map, List.mem_map]
      exact ⟨i, List.mem_range.2 hi, by show (nth L (turnI L.length k i)).zs = t; rw [e2, e]⟩
theorem turn_code {L : List Sl} {k : Nat} (h : codeL (zl L) = 0) : codeL (zl (turnTo L k L.length)) = 0 := by
  obtain ⟨h1, h2, h3⟩ := codeL_zero h
  exact codeL_mk (by rw [zl_len, turnTo_len]; rw [zl_len] at h1; exact h1) (fun t ht => h2 t ((turn_mem t).1 ht)) (head_len (n := ((zl L).headD []).length) fun u hu => h3 u ((turn_mem u).1 hu))
theorem nth_turn {L : List Sl} {k m i : Nat} (h : i < m) : nth (turnTo L k m) i = nth L (turnI L.length k i) := by
  conv => lhs; unfold nth turnTo
  rw [List.getD_eq_getElem?_getD, List.getElem?_map, List.getElem?_range h]; rfl
theorem front_nonempty {ls F : List (List Int)} (hc : codeL ls = 0) (hF : IsFront ls F) (h : 0 < ls.length) : 0 < F.length := by
  obtain ⟨_, _, h3⟩ := codeL_zero hc
  obtain ⟨g, hg, _⟩ := front_cov (fun u hu => h3 u hu) hF ls[0] (List.getElem_mem h)
  exact List.length_pos_of_mem hg

set_option maxRecDepth 100000 in
set_option maxHeartbeats 8000000 in
/-- **TimesAnyhow answers true, for any list of lists of numbers and any byte, and writes nothing that was there** -/
theorem tanyhow_any (a : Option Addr) (cap : Nat) (L : List Sl) (kk : Nat) (hkk : kk < 256) (n₀ : Nat) (h63 : L.length ≤ 9223372036854775807) (w : World) (hw : ZLists n₀ w a L) (hn₀ : n₀ ≤ w.heap.size) :
    Calls Try.prog 8 #[.slice a L.length cap, .int .u8 kk] w fun e w' => e = .returned (.bool true) ∧ Below w.heap.size w w' := by
  obtain ⟨i0, hi, hz0, hz1, hz2⟩ := info_parts info_zs
  have hwW : ∀ {W}, Below w.heap.size w W → ZLists n₀ W a L := fun hW => hw.below (hW.mono hn₀)
  have hnW : ∀ {W}, Below w.heap.size w W → n₀ ≤ W.heap.size := fun hW => by have := hW.size; omega
  have s1 := Front_any a cap L n₀ h63 w hw hn₀
  unfold joinErr at s1
  by_cases hc : codeL (zl L) = 0
  · have HC := hide hc
    rw [hc] at s1
    clear hc
    have h64 := (codeL_zero HC.out).1
    rw [zl_len] at h64
    by_cases h0 : 0 < L.length
    · go_enter Try.func8, Try.ntmps8
      go_wp2_with fail
      with_reducible refine s1.mono ?_
      rintro e w1 ⟨hb1, hh1⟩
      obtain ⟨_, av, cv, S, rfl, hO1, hF1, hI1⟩ := hh1.resolve_left fun h => h.1 rfl
      have hs1 := hb1.size
      have hSl : 0 < S.length := by have := front_nonempty HC.out hI1 (by rw [zl_len]; exact h0); rw [zl_len] at this; exact this
      have hS64 : S.length ≤ 64 := by have := (codeL_zero (front_code HC.out hI1)).1; rw [zl_len] at this; exact this
      have HI := hide hI1
      have e1 : ((L.length : Int) == 0) = false := by rw [beq_eq_false_iff_ne]; omega
      have e2 : ((S.length : Int) == 0) = false := by rw [beq_eq_false_iff_ne]; omega
      have hmod : ((kk : Int) % (L.length : Int)) = ((kk % L.length : Nat) : Int) := by simp
      have hml := Nat.mod_lt kk h0
      have hr1 : (kk : Int).tmod (L.length : Int) = ((kk % L.length : Nat) : Int) := by rw [Int.tmod_eq_emod_of_nonneg (by omega)]; exact hmod
      have hn0 : ¬ (L.length : Int) = 0 := by omega
      have hrm : ∀ (t : TypeId) (x : Nat) (w : World), Sem.run Try.prog (binOp BinOp.rem t (.int .i64 (x : Int)) (.int .i64 (L.length : Int))) w = .ok (.int .i64 ((x % L.length : Nat) : Int)) w := fun t x w => by
        have e3 : (x : Int).tmod (L.length : Int) = ((x % L.length : Nat) : Int) := by rw [Int.tmod_eq_emod_of_nonneg (by omega)]; simp
        rw [binOp_rem]
        unfold Op.intDiv
        rw [if_neg (by simpa using hn0)]
        dsimp only
        rw [e3]
        rfl
      obtain ⟨t0, ht0⟩ : ∃ t0, kk % L.length = t0 := ⟨_, rfl⟩
      have hmod2 : (kk : Int) % (L.length : Int) = (t0 : Int) := by rw [hmod, ht0]
      have HR := hide hrm
      have HT0 := hide ht0
      rw [ht0] at hml
      clear s1 hh1 hI1 hr1 hmod hrm ht0
      go_wp2_with fail
      rw [hmod2]
      go_loopw [7, 9] (fun tu i wr => ∃ (x : Nat) (tv : Option Addr) (tc : Nat), x ≤ L.length ∧ i = .int .i64 x ∧ tu = .slice tv x tc ∧ Below w1.heap.size w1 wr ∧ wr.ownsRow w1.heap.size 23 1 (.slice tv x tc) x (svals (turnTo L kk x))) (fun _ i _ => L.length - (intOf i).toNat)
      case atStart => exact ⟨0, none, 0, Nat.zero_le _, rfl, rfl, Below.refl _ _, World.ownsRow_nil ..⟩
      case round =>
        obtain ⟨x, tv, tc, hx, rfl, rfl, hB, hown⟩ := hrel
        have hsr := hB.size
        have hBw := hb1.trans (hB.mono hs1)
        by_cases hlx : x < L.length
        · have hti := turnI_lt (n := L.length) (k := kk) (i := x) h0
          have hr2 : ((t0 : Int) + (L.length : Int) - (x : Int)) % (L.length : Int) = ((turnI L.length kk x : Nat) : Int) := by
            have e3 : (t0 : Int) + (L.length : Int) - (x : Int) = ((t0 + L.length - x : Nat) : Int) := by omega
            unfold turnI
            rw [e3, HT0.out]
            simp
          obtain ⟨bl, ol, hav, hbl, hcl⟩ := (hwW hBw).outer.at hti
          subst hav
          have cx := hcl _ hti
          have HT := hide (turnTo_succ L kk x)
          clear hcl
          obtain ⟨s, es⟩ : ∃ s, nth L (turnI L.length kk x) = s := ⟨_, rfl⟩
          rw [es] at cx HT
          clear es
          have hti2 : (turnI L.length kk x : Int) < (L.length : Int) := by omega
          generalize turnI L.length kk x = y at *
          obtain ⟨ax, cx', zx⟩ := s
          unfold slv at cx
          dsimp only at cx
          go_wp2_with (at_builtin; refine wpList_append_own _ rfl _ _ 22 rfl w1.heap.size 23 i0 (.slice none 0 0) 1 24 Try.underlying22 hi hz0 hz1 hz2 rfl (by decide) _ _ _ rfl (hown.alloc _) ⟨wr.heap.size, 0, none⟩ 1 1 [.slice ax zx.length cx'] rfl rfl (cell_one_new _ _ _) (fun u hu => by simp at hu; subst hu; rfl) (by unfold maxLen; omega) (by omega) (by simp; omega) ?_; intro v' w4 own4 hgrow _; obtain ⟨g', cap', rfl⟩ := ownsRow_succ own4)
          have hB4 : Below w1.heap.size w1 w4 := (hB.alloc hsr (.cells #[.slice ax zx.length cx'] 23)).grown hgrow (by simp; omega) fun q eq => by
            apply Nat.le_of_not_lt; intro hql
            exact ownBlock_ge hown (b := q) hql eq.symm
          go_wp2_with fail
          go_roundw
          case rel => exact ⟨x + 1, some ⟨g', 0, none⟩, cap', by omega, by go_num, rfl, hB4, by rw [HT.out, svals_snoc]; exact own4⟩
          case measure => simp [intOf]; omega
        · obtain rfl : x = L.length := by omega
          have hO := ownsRow_outer hown
          have hZt : ZLists wr.heap.size wr tv (turnTo L kk L.length) := ⟨hO, fun i hi => by
            rw [turnTo_len] at hi
            rw [nth_turn hi]
            have h1 := (hwW hBw).inner _ (turnI_lt (n := L.length) (k := kk) (i := i) h0)
            exact ⟨h1.1.mono (hnW hBw), h1.2⟩⟩
          have s2 := Front_any tv tc (turnTo L kk L.length) wr.heap.size (by rw [turnTo_len]; omega) wr hZt (Nat.le_refl _)
          unfold joinErr at s2
          rw [turn_code HC.out, turnTo_len] at s2
          clear hO hZt hown
          go_wp2_with fail
          with_reducible refine s2.mono ?_
          rintro e w5 ⟨hb5, hh5⟩
          obtain ⟨_, av5, cv5, S5, rfl, hO5, hF5, hI5⟩ := hh5.resolve_left fun h => h.1 rfl
          have hB5 := hBw.trans (hb5.mono hBw.size)
          have hs5 := hb5.size
          have hB15 : Below w1.heap.size w1 w5 := hB.trans (hb5.mono hsr)
          have heq : zl S = zl S5 := HI.out.unique (hI5.congr fun t => turn_mem t)
          have s3 := Lists_any av cv S av5 cv5 S5 w5.heap.size (by omega) w5 (((⟨hO1, hF1.inner⟩ : ZLists w1.heap.size w1 av S).below hB15).mono hB15.size) ⟨hO5, hF5.inner⟩ (Nat.le_refl _)
          rw [sameL_true.2 heq] at s3
          clear heq hI5 s2 hh5
          go_wp2_with fail
          with_reducible refine s3.mono ?_
          rintro e w6 ⟨rfl, hb6⟩
          go_wp2_with fail
          go_ret
          exact ⟨rfl, hB5.trans (hb6.mono hB5.size)⟩
    · obtain rfl : L = [] := List.length_eq_zero_iff.1 (by omega)
      rw [List.length_nil] at s1 ⊢
      go_enter Try.func8, Try.ntmps8
      go_wp2_with fail
      with_reducible refine s1.mono ?_
      rintro e w1 ⟨hb1, hh1⟩
      obtain ⟨_, av, cv, S, rfl, hO1, hF1, hI1⟩ := hh1.resolve_left fun h => h.1 rfl
      have hS0 : S = [] := by
        cases S with
        | nil => rfl
        | cons s S' => exact absurd (hI1.sub s.zs (by simp [zl])) (by simp [zl])
      subst hS0
      go_wp2_with fail
      go_ret
      exact ⟨rfl, hb1⟩
  · have HC := hide hc
    have e1 : (codeL (zl L) != 0) = true := by rw [bne_iff_ne]; exact hc
    clear hc
    generalize codeL (zl L) = c at *
    go_enter Try.func8, Try.ntmps8
    go_wp2_with fail
    with_reducible refine s1.mono ?_
    rintro e w1 ⟨hb1, hh1⟩
    have hh1 := (hh1.resolve_right fun h => HC.out h.1).2
    subst hh1
    go_wp2_with fail
    go_ret
    exact ⟨rfl, hb1⟩
end Go.Proofs.Ytdknniomgdjbfaa
