/- Package mobius: squares of zeros, of ones, copied ones; sums and products. -/
import Derived.Test.YtekpielpfegclabDoorMobCopy
import Derived.Test.YtekpielpfegclabDoorHas
namespace Go.Proofs.YtekpielpfegclabDoor
open Go.RowKit Go.Shelf

theorem info_i64 : (Tryd.prog.info? 2).map (fun i => (i.zero, i.size, i.bytes)) = some (some (.int .i64 0), 1, 8) := by kernel_rfl
set_option maxRecDepth 100000 in
set_option maxHeartbeats 1000000 in
theorem blank_any (n : Nat) (hn : n ≤ 16) (w : World) :
    Calls Tryd.prog 42 #[.int .i64 n] w fun e w' => e = .returned (sqV n (w.heap.size + 1)) ∧ Below w.heap.size w w' ∧ Row w' (w.heap.size + 1) 2 (bvals (List.replicate (n * n) 0)) := by
  have h2 : n * n ≤ 256 := Nat.mul_le_mul hn hn
  have hz : (n : Int) * (n : Int) = ((n * n : Nat) : Int) := by push_cast; rfl
  have hmk := run_make_row' (P := Tryd.prog) 25 2 (.int .i64 0) 8 Tryd.underlying25 info_i64 rfl .i64 .i64 (n * n) (by omega) (by omega)
  simp only [← hz] at hmk
  have hwz : wrap64 ((n : Int) * (n : Int)) = (n : Int) * (n : Int) := by rw [hz, IntWalk.wrap64_in _ (by omega)]
  clear hz
  unfold sqV
  go_enter Tryd.func42, Tryd.ntmps42
  go_wp2
  have r0 := (Row.new w 48 [.int .i64 n, .slice (some ⟨w.heap.size + 1, 0, none⟩) (n * n) (n * n)]).alloc (.cells (madeCells #[.int .i64 0] (n * n)) 2)
  have r1 := Row.new (w.alloc (.cells #[.int .i64 n, .slice (some ⟨w.heap.size + 1, 0, none⟩) (n * n) (n * n)] 48)) 2 (bvals (List.replicate (n * n) 0))
  rw [← bvals_replicate, World.size_alloc] at r1
  have e0 := r0.cell (i := 0) rfl
  have e1 := r0.cell (i := 1) rfl
  refine bodyPost_ret (v := .agg #[.int .i64 n, .slice (some ⟨w.heap.size + 1, 0, none⟩) (n * n) (n * n)]) (by simp [results, Tryd.results42, go_sem, e0, e1]) rfl ⟨rfl, ?_, r1⟩
  exact ((Below.refl _ _).alloc (Nat.le_refl _) _).alloc (by simp) _

/-- what is laid of a square in a cell of two -/
theorem sq_cells (w : World) (v0 v1 : Value) {W : World} (h : w.alloc (.cells #[v0, v1] 48) = W) : Row W w.heap.size 48 [v0, v1] ∧ Below w.heap.size w W ∧ W.heap.size = w.heap.size + 1 := by
  subst h
  exact ⟨Row.new w _ [v0, v1], (Below.refl _ _).alloc (Nat.le_refl _) _, by simp⟩
theorem grown_below {n p : Nat} {w W : World} (h : w.grownBy W (some p)) (hp : n ≤ p) (hn : n ≤ w.heap.size) : Below n w W := (Below.refl n w).grown h hn fun k e => by cases e; exact hp

set_option maxRecDepth 100000 in
set_option maxHeartbeats 1000000 in
/-- **copied**: the list in a new block -/
theorem copied_any (n : Nat) (hn : n ≤ 16) (a : Option Addr) (cap n₀ : Nat) (l : List B64) (hl : l.length = n * n) (w : World) (hw : ZInts n₀ w a (tiL l)) (hn₀ : n₀ ≤ w.heap.size) :
    Calls Tryd.prog 25 #[.int .i64 n, .slice a (n * n) cap] w fun e w' => ∃ p, e = .returned (sqV n p) ∧ w.heap.size ≤ p ∧ Below w.heap.size w w' ∧ Row w' p 2 (bvals l) := by
  have h2 : n * n ≤ 256 := Nat.mul_le_mul hn hn
  have hb := blank_any n hn
  obtain ⟨i0, hi, hz0, hz1, hz2⟩ := info_parts info_i64
  unfold sqV at hb
  unfold sqV
  obtain ⟨W0, hW0⟩ : ∃ W0, w.alloc (.cells #[.int .i64 0, .slice none 0 0] 48) = W0 := ⟨_, rfl⟩
  obtain ⟨r0, hB0, hs0⟩ := sq_cells w _ _ hW0
  go_enter Tryd.func25, Tryd.ntmps25
  go_wp2_with fail
  refine (hb _).mono ?_
  rintro e w1 ⟨rfl, hb1, hr1⟩
  rw [hs0] at hr1
  obtain ⟨W1, hW1⟩ : ∃ W1, w1.alloc (.cells #[.int .i64 n, .slice (some ⟨w.heap.size + 1 + 1, 0, none⟩) (n * n) (n * n)] 48) = W1 := ⟨_, rfl⟩
  obtain ⟨r1, hB1, hs1⟩ := sq_cells w1 _ _ hW1
  have hs1' := hb1.size
  have lt1 := hr1.lt
  have hbig : w.heap.size + 1 ≤ w1.heap.size := by omega
  have q0 := row_below (row_below r0 hb1 r0.lt) hB1 (by have := r0.lt; omega)
  have p1 : Row W1 (w.heap.size + 1 + 1) 2 (bvals (List.replicate (n * n) 0)) := row_below hr1 hB1 hr1.lt
  have hBW : Below w.heap.size w W1 := (hB0.trans (hb1.mono (by omega))).trans (hB1.mono (by omega))
  have c0 := r1.cell (i := 0) rfl
  have c1 := r1.cell (i := 1) rfl
  clear hb hB0 hr1 hb1 hB1
  go_wp2_with (refine wpList_copy_b rfl _ _ 25 25 rfl 2 Tryd.underlying25 (by rw [hi]; simp [hz1]) _ _ (n * n) _ _ rfl rfl (w.heap.size + 1 + 1) 0 _ _ p1 l hl ?c1 ?c2 ?c3)
  case c1 =>
    intro h0
    have hne : 0 < l.length := by omega
    obtain ⟨b, of2, rfl, hbl, hc⟩ := (hw.below (hBW.mono hn₀)).cellsB hne
    exact ⟨b, of2, rfl, by rw [← hl]; exact hc⟩
  case c2 => simp
  intro w2 hr2 hg2
  have k1 := r1.kept hg2 (by simp; omega)
  have k0 := q0.kept hg2 (by simp; omega)
  have lk0 := k0.lt
  have c0 := k1.cell (i := 0) rfl
  have c1 := k1.cell (i := 1) rfl
  have f0 := k0.frozen 0
  have f1 := k0.frozen 1
  have d0 := k0.cell (i := 0) rfl
  have d1 := k0.cell (i := 1) rfl
  have hB2 := hBW.trans (grown_below hg2 (by omega) hBW.size)
  have hsp : ∀ L : List B64, L.length = n * n → spl L 0 l = l := fun L hL => by unfold spl; simp [hl, hL]
  rw [hsp _ (by simp)] at hr2
  clear hg2 r1 q0 p1 hBW r0 hsp
  go_wp2
  have kk := (k0.set 0 (.int .i64 n)).set 1 (.slice (some ⟨w.heap.size + 1 + 1, 0, none⟩) (n * n) (n * n))
  have e0 := kk.cell (i := 0) rfl
  have e1 := kk.cell (i := 1) rfl
  refine bodyPost_ret (v := .agg #[.int .i64 n, .slice (some ⟨w.heap.size + 1 + 1, 0, none⟩) (n * n) (n * n)]) (by simp [results, Tryd.results25, go_sem, e0, e1]) rfl ⟨_, rfl, by omega, ?_, ?_⟩
  · exact (hB2.setCell (p := ⟨w.heap.size, 0, none⟩) (Nat.le_refl _) _).setCell (p := ⟨w.heap.size, 1, none⟩) (Nat.le_refl _) _
  · exact (hr2.other (by omega) _ _).other (by omega) _ _

set_option maxRecDepth 100000 in
set_option maxHeartbeats 2000000 in
/-- **ones**: 1 where a is b -/
theorem ones_any (n : Nat) (hn : n ≤ 16) (w : World) :
    Calls Tryd.prog 32 #[.int .i64 n] w fun e w' => ∃ p, e = .returned (sqV n p) ∧ w.heap.size ≤ p ∧ Below w.heap.size w w' ∧ Row w' p 2 (bvals (tabL n one)) := by
  have h2 : n * n ≤ 256 := Nat.mul_le_mul hn hn
  have hb := blank_any n hn
  unfold sqV at hb
  unfold sqV
  obtain ⟨W0, hW0⟩ : ∃ W0, w.alloc (.cells #[.int .i64 0, .slice none 0 0] 48) = W0 := ⟨_, rfl⟩
  obtain ⟨r0, hB0, hs0⟩ := sq_cells w _ _ hW0
  go_enter Tryd.func32, Tryd.ntmps32
  go_wp2_with fail
  refine (hb _).mono ?_
  rintro e w1 ⟨rfl, hb1, hr1⟩
  rw [hs0] at hr1
  obtain ⟨W1, hW1⟩ : ∃ W1, w1.alloc (.cells #[.int .i64 n, .slice (some ⟨w.heap.size + 1 + 1, 0, none⟩) (n * n) (n * n)] 48) = W1 := ⟨_, rfl⟩
  obtain ⟨r1, hB1, hs1⟩ := sq_cells w1 _ _ hW1
  have hs1' := hb1.size
  have lt1 := hr1.lt
  have hbig : w.heap.size + 1 ≤ w1.heap.size := by omega
  have q0 := row_below (row_below r0 hb1 r0.lt) hB1 (by have := r0.lt; omega)
  have p1 : Row W1 (w.heap.size + 1 + 1) 2 (bvals (List.replicate (n * n) 0)) := row_below hr1 hB1 hr1.lt
  have hBW : Below w.heap.size w W1 := (hB0.trans (hb1.mono (by omega))).trans (hB1.mono (by omega))
  clear hb hB0 hr1 hb1 hB1 r0
  go_wp2_with fail
  have hpp : w.heap.size < w.heap.size + 1 + 1 := by omega
  generalize w1.heap.size = B at *
  generalize w.heap.size + 1 + 1 = p at *
  clear hW1 hW0
  go_loopw [8] (fun i wr => ∃ (k : Nat) (S : List B64), k ≤ n ∧ i = .int .i64 k ∧ Below w.heap.size w wr ∧ Row wr B 48 [.int .i64 n, .slice (some ⟨p, 0, none⟩) (n * n) (n * n)] ∧ Row wr w.heap.size 48 [.int .i64 0, .slice none 0 0] ∧ Row wr p 2 (bvals S) ∧ S.length = n * n ∧ ∀ a, a < n → ∀ b, b < n → mat n S a b = if a = b ∧ a < k then 1 else 0) (fun i _ => n - (intOf i).toNat)
  case atStart =>
    refine ⟨0, _, Nat.zero_le _, rfl, hBW, r1, q0, p1, by simp, fun a _ b _ => ?_⟩
    rw [if_neg (by omega)]; exact bd_replicate _ _
  case round =>
    obtain ⟨k, S, hk, rfl, hB, rB, rR, rP, hlS, hS⟩ := hrel
    have hrow := row_any n p
    unfold sqV at hrow
    have cB0 := rB.cell (i := 0) rfl
    have cB1 := rB.cell (i := 1) rfl
    have ltB := rB.lt
    have ltR := rR.lt
    have ltP := rP.lt
    clear hBW r1 q0 p1
    by_cases hlt : k < n
    · have hpl := plc_lt hlt hlt
      have HS := hide hS
      clear hS
      go_wp2_with (go_at_call 26; refine (hrow k hn hlt _).mono ?_; rintro e w2 ⟨rfl, hb2⟩; have kB := row_below rB hb2 ltB; have kR := row_below rR hb2 ltR; have kP := row_below rP hb2 ltP; have hc := kP.cell (bvals_at (i := k * n + k) (by omega)); have hf := kP.frozen (k * n + k))
      have hne : p ≠ B := by omega
      have hne2 : p ≠ w.heap.size := by omega
      have hpB : w.heap.size ≤ p := by omega
      have hset := kP.set (k * n + k) (.int .i64 (1 : B64).toInt)
      rw [bvals_set] at hset
      refine ⟨⟨k + 1, S.set (k * n + k) 1, by omega, by go_num, ?_, kB.other (Ne.symm hne) _ _, kR.other (Ne.symm hne2) _ _, hset, by rw [List.length_set, hlS], fun a ha b hb => ?_⟩, by simp [intOf]; omega⟩
      · exact (hB.trans (hb2.mono hB.size)).setCell (p := ⟨p, k * n + k, none⟩) hpB _
      · unfold mat
        rw [bd_set (by omega)]
        by_cases e : k * n + k = a * n + b
        · obtain ⟨e1, e2⟩ := plc_inj hlt hb e
          subst e1; subst e2
          rw [if_pos rfl, if_pos ⟨rfl, by omega⟩]
        · rw [if_neg e]
          have := HS.out a ha b hb
          unfold mat at this
          rw [this]
          by_cases e3 : a = b
          · subst e3
            have : a ≠ k := fun h => e (by subst h; rfl)
            simp only [true_and]
            by_cases e4 : a < k
            · rw [if_pos e4, if_pos (by omega)]
            · rw [if_neg e4, if_neg (by omega)]
          · rw [if_neg (fun h => e3 h.1), if_neg (fun h => e3 h.1)]
    · obtain rfl : k = n := by omega
      have f0 := rR.frozen 0
      have f1 := rR.frozen 1
      have d0 := rR.cell (i := 0) rfl
      have d1 := rR.cell (i := 1) rfl
      have e : S = tabL k one := mat_ext hlS (tabL_len _ _) fun a ha b hb => by
        rw [hS a ha b hb, mat_tabL one a ha b hb]
        by_cases e : a = b
        · rw [if_pos ⟨e, ha⟩, e, one_eq]
        · rw [if_neg (fun h => e h.1), one_ne e]
      subst e
      clear hS hlS hrow
      go_wp2
      have kk := (rR.set 0 (.int .i64 k)).set 1 (.slice (some ⟨p, 0, none⟩) (k * k) (k * k))
      have e0 := kk.cell (i := 0) rfl
      have e1 := kk.cell (i := 1) rfl
      refine bodyPost_ret (v := .agg #[.int .i64 k, .slice (some ⟨p, 0, none⟩) (k * k) (k * k)]) (by simp [results, Tryd.results32, go_sem, e0, e1]) rfl ⟨_, rfl, by omega, ?_, ?_⟩
      · exact (hB.setCell (p := ⟨w.heap.size, 0, none⟩) (Nat.le_refl _) _).setCell (p := ⟨w.heap.size, 1, none⟩) (Nat.le_refl _) _
      · exact (rP.other (by omega) _ _).other (by omega) _ _
end Go.Proofs.YtekpielpfegclabDoor
