/- The walk of the law OrderLeast: it answers true, and writes nothing that was there. -/
import Derived.Test.YtbdigkjahfdmjaaDoorLeastPlain
import Derived.Test.YtbdigkjahfdmjaaDoorRefused
import Derived.Test.YtbdigkjahfdmjaaDoorKeepBelow
import Derived.Test.YtbdigkjahfdmjaaDoorKeepZ
import Derived.Test.YtbdigkjahfdmjaaDoorLatErr
import Derived.BigQuiet
import Derived.Lib.QuietBelow
namespace Go.Proofs.YtbdigkjahfdmjaaDoor
open Go.RowKit Go.Shelf

set_option maxRecDepth 100000 in
set_option maxHeartbeats 1000000 in
theorem least_bad (n : Int) (a : Option Addr) (cap : Nat) (us : List Nat) (a' : Option Addr) (cap' : Nat) (ps : List (Int × Int)) (n₀ : Nat) (hf : Fit us) (w : World) (hT : TabAt w) (hw : IsWords n₀ w a us) (hp : ZPairs n₀ w a' ps) (hg : 0 < n₀) (hn₀ : n₀ ≤ w.heap.size) (h63 : ps.length ≤ 9223372036854775807) (hc : codeOf n us ≠ 0 ∨ 256 < ps.length) :
    Calls Tryd.prog 4 #[.agg #[.int .i64 n, .slice a us.length cap], .slice a' ps.length cap'] w fun e w' => e = .returned (.bool true) ∧ Below w.heap.size w w' := by
  obtain ⟨r0, hb0, hs0⟩ := one_row w 25 (.int .i64 n) (.slice a us.length cap) rfl
  have hof := Of_any n a' cap' ps n₀ _ (hT.below hb0 (by omega)) (hp.below (hb0.mono hn₀)) hg (by omega)
  have c00 := r0.cell (i := 0) rfl
  have hso : ∀ W, Below w.heap.size w W → Calls Tryd.prog 12 #[.agg #[.int .i64 n, .slice a us.length cap]] W fun e w' => e = .returned (.bool (codeOf n us == 0)) ∧ Below W.heap.size W w' := fun W hW => sound_any n a cap us n₀ hf W (hw.below (hW.mono hn₀)) (by have := hW.size; omega)
  have hre : ∀ W, Below w.heap.size w W → Calls Tryd.prog 13 #[.agg #[.int .i64 n, .slice a us.length cap]] W fun e w' => e = .returned (.bool (codeOf n us != 0)) ∧ Below W.heap.size W w' := fun W hW => refused_any n a cap us n₀ hf W (hT.below hW (by omega)) (hw.below (hW.mono hn₀)) hg (by have := hW.size; omega)
  generalize codeOf n us = c at *
  have hlt0 := r0.lt
  by_cases hc0 : c = 0
  · have h256 : 256 < ps.length := by rcases hc with h | h; exact absurd hc0 h; exact h
    have hd : decide ((256 : Int) < (ps.length : Int)) = true := by simp; omega
    subst hc0
    rw [show ((0 : Int) == 0) = true by decide] at hso
    clear hre hc
    go_enter Tryd.func4, Tryd.ntmps4
    go_wp2_with (first
      | (go_at_call 9; refine hof.mono ?_; rintro e w1 ⟨hend, hb1⟩; obtain ⟨m', a2, l2, c2, x2, rfl⟩ := hend.form; clear hend; have hs1 := hb1.size; have q0 := row_below r0 hb1 hlt0; have lt0 := q0.lt; have j0 := q0.cell (i := 0) rfl; have j1 := q0.cell (i := 1) rfl; have hB1 : Below w.heap.size w w1 := hb0.trans (hb1.mono (by omega)); have s1 := hso (w1.alloc (.cells #[.int .i64 m', .slice a2 l2 c2] 25)) (hB1.alloc (by omega) _))
      | (go_at_call 12; refine s1.mono ?_; rintro e w2 ⟨rfl, hb2⟩; clear s1; have hs2 := hb2.size; have p0 := row_below (q0.alloc (.cells #[.int .i64 m', .slice a2 l2 c2] 25)) hb2 (by simp; omega); have j0 := p0.cell (i := 0) rfl; have j1 := p0.cell (i := 1) rfl; have hB2 : Below w.heap.size w w2 := (hB1.alloc (by omega) _).trans (hb2.mono (by simp; omega)); have s2 := hso w2 hB2)
      | (go_at_call 12; refine s2.mono ?_; rintro e w3 ⟨rfl, hb3⟩; clear s2))
    go_ret
    exact ⟨rfl, hB2.trans (hb3.mono (by have := hB2.size; omega))⟩
  · have e1 : (c == 0) = false := by rw [beq_eq_false_iff_ne]; exact hc0
    have e2 : (c != 0) = true := by rw [bne_iff_ne]; exact hc0
    rw [e1] at hso
    rw [e2] at hre
    clear hc e1 e2 hc0
    go_enter Tryd.func4, Tryd.ntmps4
    go_wp2_with (first
      | (go_at_call 9; refine hof.mono ?_; rintro e w1 ⟨hend, hb1⟩; obtain ⟨m', a2, l2, c2, x2, rfl⟩ := hend.form; clear hend; have hs1 := hb1.size; have q0 := row_below r0 hb1 hlt0; have lt0 := q0.lt; have j0 := q0.cell (i := 0) rfl; have j1 := q0.cell (i := 1) rfl; have hB1 : Below w.heap.size w w1 := hb0.trans (hb1.mono (by omega)); have s1 := hso (w1.alloc (.cells #[.int .i64 m', .slice a2 l2 c2] 25)) (hB1.alloc (by omega) _))
      | (go_at_call 12; refine s1.mono ?_; rintro e w2 ⟨rfl, hb2⟩; clear s1; have hs2 := hb2.size; have p0 := row_below (q0.alloc (.cells #[.int .i64 m', .slice a2 l2 c2] 25)) hb2 (by simp; omega); have lp0 := p0.lt; have j0 := p0.cell (i := 0) rfl; have j1 := p0.cell (i := 1) rfl; have hB2 : Below w.heap.size w w2 := (hB1.alloc (by omega) _).trans (hb2.mono (by simp; omega)); have s2 := hso w2 hB2)
      | (go_at_call 12; refine s2.mono ?_; rintro e w3 ⟨rfl, hb3⟩; clear s2; have z0 := row_below p0 hb3 lp0; have j0 := z0.cell (i := 0) rfl; have j1 := z0.cell (i := 1) rfl; have hB3 : Below w.heap.size w w3 := hB2.trans (hb3.mono (by have := hB2.size; omega)); have s3 := hre w3 hB3)
      | (go_at_call 13; refine s3.mono ?_; rintro e w4 ⟨rfl, hb4⟩; clear s3))
    go_ret
    exact ⟨rfl, hB3.trans (hb4.mono (by have := hB3.size; omega))⟩

theorem allIn2 {n : Nat} {x y : Int} : AllIn n [x, y] ↔ (0 ≤ x ∧ x < (n : Int)) ∧ (0 ≤ y ∧ y < (n : Int)) := by
  constructor
  · intro h
    exact ⟨h 0 (by simp), h 1 (by simp)⟩
  · rintro ⟨h1, h2⟩ i hi
    match i, hi with
    | 0, _ => exact h1
    | 1, _ => exact h2
theorem zints2 (W : World) (t : TypeId) (x y : Int) : ZInts (W.heap.size + 1) (W.alloc (.cells #[.int .i64 x, .int .i64 y] t)) (some ⟨W.heap.size, 0, none⟩) [x, y] := by
  have r := Row.new W t [.int .i64 x, .int .i64 y]
  refine .inr ⟨W.heap.size, 0, rfl, by omega, fun i hi => ?_⟩
  match i, hi with
  | 0, _ => exact r.cell (i := 0) rfl
  | 1, _ => exact r.cell (i := 1) rfl

set_option maxRecDepth 100000 in
set_option maxHeartbeats 2000000 in
theorem least_arg (a : Option Addr) (cap : Nat) (us : List Nat) (a' : Option Addr) (cap' : Nat) (ps : List (Int × Int)) (n₀ : Nat) (hf : Fit us) (w : World) (hw : IsWords n₀ w a us) (hp : ZPairs n₀ w a' ps) (hn₀ : n₀ ≤ w.heap.size) (h256 : ps.length ≤ 256) (hc : codeOf us.length us = 0) (hbad : ∃ k, k < ps.length ∧ ¬ PairIn us.length (zp ps k))
    (hof' : ∀ W, Below w.heap.size w W → Calls Tryd.prog 9 #[.int .i64 us.length, .slice a' ps.length cap'] W fun e w' => e = ofErr 2 ∧ Below W.heap.size W w') :
    Calls Tryd.prog 4 #[.agg #[.int .i64 us.length, .slice a us.length cap], .slice a' ps.length cap'] w fun e w' => e = .returned (.bool true) ∧ Below w.heap.size w w' := by
  obtain ⟨_, h16, _, hin, hord⟩ := code_zero hc
  obtain ⟨r0, hb0, hs0⟩ := one_row w 25 (.int .i64 us.length) (.slice a us.length cap) rfl
  have hof := hof' _ hb0
  unfold ofErr at hof
  have c00 := r0.cell (i := 0) rfl
  have hlt0 := r0.lt
  have hso : ∀ W, Below w.heap.size w W → Calls Tryd.prog 12 #[.agg #[.int .i64 us.length, .slice a us.length cap]] W fun e w' => e = .returned (.bool true) ∧ Below W.heap.size W w' := fun W hW => (sound_any us.length a cap us n₀ hf W (hw.below (hW.mono hn₀)) (by have := hW.size; omega)).mono (by rintro e w' ⟨rfl, hb⟩; rw [hc]; exact ⟨rfl, hb⟩)
  have hd : decide ((256 : Int) < (ps.length : Int)) = false := by simp; omega
  clear hof'
  go_enter Tryd.func4, Tryd.ntmps4
  go_wp2_with (first
    | (go_at_call 9; refine hof.mono ?_; rintro e w1 ⟨rfl, hb1⟩; have hs1 := hb1.size; have q0 := row_below r0 hb1 hlt0; have lt0 := q0.lt; have j0 := q0.cell (i := 0) rfl; have j1 := q0.cell (i := 1) rfl; have hB1 : Below w.heap.size w w1 := hb0.trans (hb1.mono (by omega)); have s1 := hso (w1.alloc (.cells #[.int .i64 0, .slice none 0 0] 25)) (hB1.alloc (by omega) _))
    | (go_at_call 12; refine s1.mono ?_; rintro e w2 ⟨rfl, hb2⟩; clear s1; have hs2 := hb2.size; have p0 := row_below (q0.alloc (.cells #[.int .i64 0, .slice none 0 0] 25)) hb2 (by simp; omega); have pO := row_below (Row.new w1 25 [.int .i64 0, .slice none 0 0]) hb2 (by simp); have hB2 : Below w.heap.size w w2 := (hB1.alloc (by omega) _).trans (hb2.mono (by simp; omega))))
  have hw2 : IsWords n₀ w2 a us := hw.below (hB2.mono hn₀)
  have hp2 : ZPairs n₀ w2 a' ps := hp.below (hB2.mono hn₀)
  have hn2 : n₀ ≤ w2.heap.size := by have := hB2.size; omega
  have lp0 := p0.lt
  have lpO := pO.lt
  clear hof q0 lt0 j0 j1 hB1 hs1 hs2 r0 hb0 hs0 c00 hlt0 hb1 hb2 hd
  go_loopw [7, 36] (fun al i wr => ∃ k : Nat, k ≤ ps.length ∧ i = .int .i64 k ∧ al = .bool (allTo us ps k) ∧ (∀ j, j < k → PairIn us.length (zp ps j)) ∧ Below w2.heap.size w2 wr) (fun _ i _ => ps.length - (intOf i).toNat)
  case atStart => exact ⟨0, Nat.zero_le _, rfl, rfl, fun j hj => by omega, Below.refl _ _⟩
  case round =>
    obtain ⟨k, hk, rfl, rfl, hsofar, hbr⟩ := hrel
    have hsr := hbr.size
    have y0 := row_below p0 hbr lp0
    have ly0 := y0.lt
    have c00 := y0.cell (i := 0) rfl
    have c01 := y0.cell (i := 1) rfl
    by_cases hlt : k < ps.length
    · obtain ⟨b, off, rfl, hbb, hca, hcb⟩ := (hp2.below (hbr.mono hn2)).at hlt
      have hbw : b < wr.heap.size := by omega
      have hto : allTo us ps (k + 1) = (allTo us ps k && hasB (wd us (zp ps k).1.toNat) (zp ps k).2.toNat) := rfl
      obtain ⟨A, eA⟩ : ∃ A, (zp ps k).1 = A := ⟨_, rfl⟩
      obtain ⟨C, eC⟩ : ∃ C, (zp ps k).2 = C := ⟨_, rfl⟩
      rw [eA] at hca
      rw [eC] at hcb
      rw [eA, eC] at hto
      have hwi := kwithin_z us.length (some ⟨wr.heap.size + 1, 0, none⟩) 2 [A, C] (wr.heap.size + 1 + 1) (by simp) ((wr.alloc (.cells #[.int .i64 A, .int .i64 C] 33)).alloc (.cells #[.int .i64 A, .int .i64 C] 3)) (by
        have := zints2 (wr.alloc (.cells #[.int .i64 A, .int .i64 C] 33)) 3 A C
        rw [World.size_alloc] at this
        exact this)
      have hbA : Below wr.heap.size wr ((wr.alloc (.cells #[.int .i64 A, .int .i64 C] 33)).alloc (.cells #[.int .i64 A, .int .i64 C] 3)) := ((Below.refl _ _).alloc (Nat.le_refl _) _).alloc (by simp) _
      by_cases hpk : PairIn us.length (zp ps k)
      · have hpk' := hpk
        unfold PairIn at hpk'
        rw [eA, eC] at hpk'
        rw [allInB_true.2 (allIn2.2 ⟨⟨hpk'.1, hpk'.2.1⟩, hpk'.2.2.1, hpk'.2.2.2⟩)] at hwi
        obtain ⟨A', rfl⟩ : ∃ A' : Nat, A = (A' : Int) := ⟨A.toNat, by omega⟩
        obtain ⟨C', rfl⟩ : ∃ C' : Nat, C = (C' : Int) := ⟨C.toNat, by omega⟩
        rw [Int.toNat_natCast, Int.toNat_natCast] at hto
        have hbe := kbelow_any us.length a cap us A' C' n₀ hf (by omega) (by omega) ((wr.alloc (.cells #[.int .i64 (A' : Nat), .int .i64 (C' : Nat)] 33)).alloc (.cells #[.int .i64 (A' : Nat), .int .i64 (C' : Nat)] 3)) ((hw2.below (hbr.mono hn2)).below (hbA.mono (by omega))) (by simp; omega)
        have HP := hide hpk
        clear hpk hpk' eA eC
        cases hb : hasB (wd us A') C' with
        | true =>
          rw [hb] at hbe hto
          have HT := hide hto
          clear hb hto
          go_wp2_with (first
            | (go_at_call 14; refine hwi.mono ?_; rintro e w3 ⟨rfl, hww⟩; rw [hww]; clear hww w3)
            | (go_at_call 15; refine hbe.mono ?_; rintro e w4 ⟨rfl, hb4⟩))
          exact ⟨⟨k + 1, by omega, by go_num, by rw [HT.out]; simp, fun j hj => by
            by_cases e : j = k
            · rw [e]; exact HP.out
            · exact hsofar j (by omega), hbr.trans ((hbA.trans (hb4.mono (by simp; omega))).mono hsr)⟩, by simp [intOf]; omega⟩
        | false =>
          rw [hb] at hbe hto
          have HT := hide hto
          clear hb hto
          go_wp2_with (first
            | (go_at_call 14; refine hwi.mono ?_; rintro e w3 ⟨rfl, hww⟩; rw [hww]; clear hww w3)
            | (go_at_call 15; refine hbe.mono ?_; rintro e w4 ⟨rfl, hb4⟩))
          exact ⟨⟨k + 1, by omega, by go_num, by rw [HT.out]; simp, fun j hj => by
            by_cases e : j = k
            · rw [e]; exact HP.out
            · exact hsofar j (by omega), hbr.trans ((hbA.trans (hb4.mono (by simp; omega))).mono hsr)⟩, by simp [intOf]; omega⟩
      · have hno : allInB us.length [A, C] = false := allInB_false.2 fun h => hpk (by unfold PairIn; rw [eA, eC]; exact ⟨(allIn2.1 h).1.1, (allIn2.1 h).1.2, (allIn2.1 h).2.1, (allIn2.1 h).2.2⟩)
        rw [hno] at hwi
        clear hpk hno eA eC hto
        go_wp2_with (go_at_call 14; refine hwi.mono ?_; rintro e w3 ⟨rfl, hww⟩; rw [hww]; clear hww w3)
        go_ret
        exact ⟨rfl, hB2.trans ((hbr.trans (hbA.mono hsr)).mono hB2.size)⟩
    · exfalso
      obtain ⟨q, hq, hnq⟩ := hbad
      exact hnq (hsofar q (by omega))

set_option maxRecDepth 100000 in
set_option maxHeartbeats 2000000 in
theorem least_cyc (a : Option Addr) (cap : Nat) (us : List Nat) (a' : Option Addr) (cap' : Nat) (ps : List (Int × Int)) (n₀ : Nat) (hf : Fit us) (w : World) (hw : IsWords n₀ w a us) (hp : ZPairs n₀ w a' ps) (hn₀ : n₀ ≤ w.heap.size) (h256 : ps.length ≤ 256) (hc : codeOf us.length us = 0) (hall : allTo us ps ps.length = false) (hpi : ∀ k, k < ps.length → PairIn us.length (zp ps k))
    (hof' : ∀ W, Below w.heap.size w W → Calls Tryd.prog 9 #[.int .i64 us.length, .slice a' ps.length cap'] W fun e w' => e = ofErr 4 ∧ Below W.heap.size W w') :
    Calls Tryd.prog 4 #[.agg #[.int .i64 us.length, .slice a us.length cap], .slice a' ps.length cap'] w fun e w' => e = .returned (.bool true) ∧ Below w.heap.size w w' := by
  obtain ⟨_, h16, _, hin, hord⟩ := code_zero hc
  obtain ⟨r0, hb0, hs0⟩ := one_row w 25 (.int .i64 us.length) (.slice a us.length cap) rfl
  have hof := hof' _ hb0
  unfold ofErr at hof
  have c00 := r0.cell (i := 0) rfl
  have hlt0 := r0.lt
  have hso : ∀ W, Below w.heap.size w W → Calls Tryd.prog 12 #[.agg #[.int .i64 us.length, .slice a us.length cap]] W fun e w' => e = .returned (.bool true) ∧ Below W.heap.size W w' := fun W hW => (sound_any us.length a cap us n₀ hf W (hw.below (hW.mono hn₀)) (by have := hW.size; omega)).mono (by rintro e w' ⟨rfl, hb⟩; rw [hc]; exact ⟨rfl, hb⟩)
  have hd : decide ((256 : Int) < (ps.length : Int)) = false := by simp; omega
  clear hof'
  go_enter Tryd.func4, Tryd.ntmps4
  go_wp2_with (first
    | (go_at_call 9; refine hof.mono ?_; rintro e w1 ⟨rfl, hb1⟩; have hs1 := hb1.size; have q0 := row_below r0 hb1 hlt0; have lt0 := q0.lt; have j0 := q0.cell (i := 0) rfl; have j1 := q0.cell (i := 1) rfl; have hB1 : Below w.heap.size w w1 := hb0.trans (hb1.mono (by omega)); have s1 := hso (w1.alloc (.cells #[.int .i64 0, .slice none 0 0] 25)) (hB1.alloc (by omega) _))
    | (go_at_call 12; refine s1.mono ?_; rintro e w2 ⟨rfl, hb2⟩; clear s1; have hs2 := hb2.size; have p0 := row_below (q0.alloc (.cells #[.int .i64 0, .slice none 0 0] 25)) hb2 (by simp; omega); have pO := row_below (Row.new w1 25 [.int .i64 0, .slice none 0 0]) hb2 (by simp); have hB2 : Below w.heap.size w w2 := (hB1.alloc (by omega) _).trans (hb2.mono (by simp; omega))))
  have hw2 : IsWords n₀ w2 a us := hw.below (hB2.mono hn₀)
  have hp2 : ZPairs n₀ w2 a' ps := hp.below (hB2.mono hn₀)
  have hn2 : n₀ ≤ w2.heap.size := by have := hB2.size; omega
  have lp0 := p0.lt
  have lpO := pO.lt
  clear hof q0 lt0 j0 j1 hB1 hs1 hs2 r0 hb0 hs0 c00 hlt0 hb1 hb2 hd
  go_loopw [7, 36] (fun al i wr => ∃ k : Nat, k ≤ ps.length ∧ i = .int .i64 k ∧ al = .bool (allTo us ps k) ∧ (∀ j, j < k → PairIn us.length (zp ps j)) ∧ Below w2.heap.size w2 wr) (fun _ i _ => ps.length - (intOf i).toNat)
  case atStart => exact ⟨0, Nat.zero_le _, rfl, rfl, fun j hj => by omega, Below.refl _ _⟩
  case round =>
    obtain ⟨k, hk, rfl, rfl, hsofar, hbr⟩ := hrel
    have hsr := hbr.size
    have y0 := row_below p0 hbr lp0
    have ly0 := y0.lt
    have c00 := y0.cell (i := 0) rfl
    have c01 := y0.cell (i := 1) rfl
    by_cases hlt : k < ps.length
    · obtain ⟨b, off, rfl, hbb, hca, hcb⟩ := (hp2.below (hbr.mono hn2)).at hlt
      have hbw : b < wr.heap.size := by omega
      have hto : allTo us ps (k + 1) = (allTo us ps k && hasB (wd us (zp ps k).1.toNat) (zp ps k).2.toNat) := rfl
      obtain ⟨A, eA⟩ : ∃ A, (zp ps k).1 = A := ⟨_, rfl⟩
      obtain ⟨C, eC⟩ : ∃ C, (zp ps k).2 = C := ⟨_, rfl⟩
      rw [eA] at hca
      rw [eC] at hcb
      rw [eA, eC] at hto
      have hwi := kwithin_z us.length (some ⟨wr.heap.size + 1, 0, none⟩) 2 [A, C] (wr.heap.size + 1 + 1) (by simp) ((wr.alloc (.cells #[.int .i64 A, .int .i64 C] 33)).alloc (.cells #[.int .i64 A, .int .i64 C] 3)) (by
        have := zints2 (wr.alloc (.cells #[.int .i64 A, .int .i64 C] 33)) 3 A C
        rw [World.size_alloc] at this
        exact this)
      have hbA : Below wr.heap.size wr ((wr.alloc (.cells #[.int .i64 A, .int .i64 C] 33)).alloc (.cells #[.int .i64 A, .int .i64 C] 3)) := ((Below.refl _ _).alloc (Nat.le_refl _) _).alloc (by simp) _
      by_cases hpk : PairIn us.length (zp ps k)
      · have hpk' := hpk
        unfold PairIn at hpk'
        rw [eA, eC] at hpk'
        rw [allInB_true.2 (allIn2.2 ⟨⟨hpk'.1, hpk'.2.1⟩, hpk'.2.2.1, hpk'.2.2.2⟩)] at hwi
        obtain ⟨A', rfl⟩ : ∃ A' : Nat, A = (A' : Int) := ⟨A.toNat, by omega⟩
        obtain ⟨C', rfl⟩ : ∃ C' : Nat, C = (C' : Int) := ⟨C.toNat, by omega⟩
        rw [Int.toNat_natCast, Int.toNat_natCast] at hto
        have hbe := kbelow_any us.length a cap us A' C' n₀ hf (by omega) (by omega) ((wr.alloc (.cells #[.int .i64 (A' : Nat), .int .i64 (C' : Nat)] 33)).alloc (.cells #[.int .i64 (A' : Nat), .int .i64 (C' : Nat)] 3)) ((hw2.below (hbr.mono hn2)).below (hbA.mono (by omega))) (by simp; omega)
        have HP := hide hpk
        clear hpk hpk' eA eC
        cases hb : hasB (wd us A') C' with
        | true =>
          rw [hb] at hbe hto
          have HT := hide hto
          clear hb hto
          go_wp2_with (first
            | (go_at_call 14; refine hwi.mono ?_; rintro e w3 ⟨rfl, hww⟩; rw [hww]; clear hww w3)
            | (go_at_call 15; refine hbe.mono ?_; rintro e w4 ⟨rfl, hb4⟩))
          exact ⟨⟨k + 1, by omega, by go_num, by rw [HT.out]; simp, fun j hj => by
            by_cases e : j = k
            · rw [e]; exact HP.out
            · exact hsofar j (by omega), hbr.trans ((hbA.trans (hb4.mono (by simp; omega))).mono hsr)⟩, by simp [intOf]; omega⟩
        | false =>
          rw [hb] at hbe hto
          have HT := hide hto
          clear hb hto
          go_wp2_with (first
            | (go_at_call 14; refine hwi.mono ?_; rintro e w3 ⟨rfl, hww⟩; rw [hww]; clear hww w3)
            | (go_at_call 15; refine hbe.mono ?_; rintro e w4 ⟨rfl, hb4⟩))
          exact ⟨⟨k + 1, by omega, by go_num, by rw [HT.out]; simp, fun j hj => by
            by_cases e : j = k
            · rw [e]; exact HP.out
            · exact hsofar j (by omega), hbr.trans ((hbA.trans (hb4.mono (by simp; omega))).mono hsr)⟩, by simp [intOf]; omega⟩
      · exact absurd (hpi k hlt) hpk
    · obtain rfl : k = ps.length := by omega
      rw [hall]
      go_wp2
      go_ret
      exact ⟨rfl, hB2.trans (hbr.mono hB2.size)⟩

set_option maxRecDepth 100000 in
set_option maxHeartbeats 2000000 in
theorem least_ok (a : Option Addr) (cap : Nat) (us : List Nat) (a' : Option Addr) (cap' : Nat) (ps : List (Int × Int)) (n₀ : Nat) (hf : Fit us) (w : World) (hw : IsWords n₀ w a us) (hp : ZPairs n₀ w a' ps) (hn₀ : n₀ ≤ w.heap.size) (h256 : ps.length ≤ 256) (hc : codeOf us.length us = 0) (nx up : List Nat) (hN : NxTo ps us.length ps.length nx) (hul : up.length = us.length) (hfu : Fit up) (hup : ∀ i, i < us.length → ∀ z, hasB (wd up i) z = true ↔ Reach nx i z) (hou : IsOrd up) (hpi : ∀ k, k < ps.length → PairIn us.length (zp ps k))
    (hof' : ∀ W, Below w.heap.size w W → Calls Tryd.prog 9 #[.int .i64 us.length, .slice a' ps.length cap'] W fun e w' => ∃ B, W.heap.size ≤ B ∧ e = .returned (.tuple #[.agg #[.int .i64 us.length, .slice (some ⟨B, 0, none⟩) us.length us.length], .int .i64 0]) ∧ Row w' B 36 (wvals up) ∧ Below W.heap.size W w') :
    Calls Tryd.prog 4 #[.agg #[.int .i64 us.length, .slice a us.length cap], .slice a' ps.length cap'] w fun e w' => e = .returned (.bool true) ∧ Below w.heap.size w w' := by
  obtain ⟨_, h16, _, hin, hord⟩ := code_zero hc
  obtain ⟨r0, hb0, hs0⟩ := one_row w 25 (.int .i64 us.length) (.slice a us.length cap) rfl
  have hof := hof' _ hb0
  have c00 := r0.cell (i := 0) rfl
  have hlt0 := r0.lt
  have hso : ∀ W, Below w.heap.size w W → Calls Tryd.prog 12 #[.agg #[.int .i64 us.length, .slice a us.length cap]] W fun e w' => e = .returned (.bool true) ∧ Below W.heap.size W w' := fun W hW => (sound_any us.length a cap us n₀ hf W (hw.below (hW.mono hn₀)) (by have := hW.size; omega)).mono (by rintro e w' ⟨rfl, hb⟩; rw [hc]; exact ⟨rfl, hb⟩)
  have hd : decide ((256 : Int) < (ps.length : Int)) = false := by simp; omega
  clear hof'
  go_enter Tryd.func4, Tryd.ntmps4
  go_wp2_with (first
    | (go_at_call 9; refine hof.mono ?_; rintro e w1 ⟨B, hBge, rfl, rU, hb1⟩; have hs1 := hb1.size; have q0 := row_below r0 hb1 hlt0; have lt0 := q0.lt; have j0 := q0.cell (i := 0) rfl; have j1 := q0.cell (i := 1) rfl; have hB1 : Below w.heap.size w w1 := hb0.trans (hb1.mono (by omega)); have s1 := hso (w1.alloc (.cells #[.int .i64 us.length, .slice (some ⟨B, 0, none⟩) us.length us.length] 25)) (hB1.alloc (by omega) _))
    | (go_at_call 12; refine s1.mono ?_; rintro e w2 ⟨rfl, hb2⟩; clear s1; have hs2 := hb2.size; have p0 := row_below (q0.alloc (.cells #[.int .i64 us.length, .slice (some ⟨B, 0, none⟩) us.length us.length] 25)) hb2 (by simp; omega); have pO := row_below (Row.new w1 25 [.int .i64 us.length, .slice (some ⟨B, 0, none⟩) us.length us.length]) hb2 (by simp); have hB2 : Below w.heap.size w w2 := (hB1.alloc (by omega) _).trans (hb2.mono (by simp; omega))))
  have hw2 : IsWords n₀ w2 a us := hw.below (hB2.mono hn₀)
  have hp2 : ZPairs n₀ w2 a' ps := hp.below (hB2.mono hn₀)
  have hn2 : n₀ ≤ w2.heap.size := by have := hB2.size; omega
  have rU2 : Row w2 B 36 (wvals up) := row_below (rU.alloc (.cells #[.int .i64 us.length, .slice (some ⟨B, 0, none⟩) us.length us.length] 25)) hb2 (by have := rU.lt; simp; omega)
  have ltB := rU2.lt
  have lp0 := p0.lt
  have lpO := pO.lt
  clear hof q0 lt0 j0 j1 hB1 hs1 hs2 r0 hb0 hs0 c00 hlt0 hb1 hb2 hd
  go_loopw [7, 36] (fun al i wr => ∃ k : Nat, k ≤ ps.length ∧ i = .int .i64 k ∧ al = .bool (allTo us ps k) ∧ (∀ j, j < k → PairIn us.length (zp ps j)) ∧ Below w2.heap.size w2 wr) (fun _ i _ => ps.length - (intOf i).toNat)
  case atStart => exact ⟨0, Nat.zero_le _, rfl, rfl, fun j hj => by omega, Below.refl _ _⟩
  case round =>
    obtain ⟨k, hk, rfl, rfl, hsofar, hbr⟩ := hrel
    have hsr := hbr.size
    have y0 := row_below p0 hbr lp0
    have ly0 := y0.lt
    have c00 := y0.cell (i := 0) rfl
    have c01 := y0.cell (i := 1) rfl
    by_cases hlt : k < ps.length
    · obtain ⟨b, off, rfl, hbb, hca, hcb⟩ := (hp2.below (hbr.mono hn2)).at hlt
      have hbw : b < wr.heap.size := by omega
      have hto : allTo us ps (k + 1) = (allTo us ps k && hasB (wd us (zp ps k).1.toNat) (zp ps k).2.toNat) := rfl
      obtain ⟨A, eA⟩ : ∃ A, (zp ps k).1 = A := ⟨_, rfl⟩
      obtain ⟨C, eC⟩ : ∃ C, (zp ps k).2 = C := ⟨_, rfl⟩
      rw [eA] at hca
      rw [eC] at hcb
      rw [eA, eC] at hto
      have hwi := kwithin_z us.length (some ⟨wr.heap.size + 1, 0, none⟩) 2 [A, C] (wr.heap.size + 1 + 1) (by simp) ((wr.alloc (.cells #[.int .i64 A, .int .i64 C] 33)).alloc (.cells #[.int .i64 A, .int .i64 C] 3)) (by
        have := zints2 (wr.alloc (.cells #[.int .i64 A, .int .i64 C] 33)) 3 A C
        rw [World.size_alloc] at this
        exact this)
      have hbA : Below wr.heap.size wr ((wr.alloc (.cells #[.int .i64 A, .int .i64 C] 33)).alloc (.cells #[.int .i64 A, .int .i64 C] 3)) := ((Below.refl _ _).alloc (Nat.le_refl _) _).alloc (by simp) _
      by_cases hpk : PairIn us.length (zp ps k)
      · have hpk' := hpk
        unfold PairIn at hpk'
        rw [eA, eC] at hpk'
        rw [allInB_true.2 (allIn2.2 ⟨⟨hpk'.1, hpk'.2.1⟩, hpk'.2.2.1, hpk'.2.2.2⟩)] at hwi
        obtain ⟨A', rfl⟩ : ∃ A' : Nat, A = (A' : Int) := ⟨A.toNat, by omega⟩
        obtain ⟨C', rfl⟩ : ∃ C' : Nat, C = (C' : Int) := ⟨C.toNat, by omega⟩
        rw [Int.toNat_natCast, Int.toNat_natCast] at hto
        have hbe := kbelow_any us.length a cap us A' C' n₀ hf (by omega) (by omega) ((wr.alloc (.cells #[.int .i64 (A' : Nat), .int .i64 (C' : Nat)] 33)).alloc (.cells #[.int .i64 (A' : Nat), .int .i64 (C' : Nat)] 3)) ((hw2.below (hbr.mono hn2)).below (hbA.mono (by omega))) (by simp; omega)
        have HP := hide hpk
        clear hpk hpk' eA eC
        cases hb : hasB (wd us A') C' with
        | true =>
          rw [hb] at hbe hto
          have HT := hide hto
          clear hb hto
          go_wp2_with (first
            | (go_at_call 14; refine hwi.mono ?_; rintro e w3 ⟨rfl, hww⟩; rw [hww]; clear hww w3)
            | (go_at_call 15; refine hbe.mono ?_; rintro e w4 ⟨rfl, hb4⟩))
          exact ⟨⟨k + 1, by omega, by go_num, by rw [HT.out]; simp, fun j hj => by
            by_cases e : j = k
            · rw [e]; exact HP.out
            · exact hsofar j (by omega), hbr.trans ((hbA.trans (hb4.mono (by simp; omega))).mono hsr)⟩, by simp [intOf]; omega⟩
        | false =>
          rw [hb] at hbe hto
          have HT := hide hto
          clear hb hto
          go_wp2_with (first
            | (go_at_call 14; refine hwi.mono ?_; rintro e w3 ⟨rfl, hww⟩; rw [hww]; clear hww w3)
            | (go_at_call 15; refine hbe.mono ?_; rintro e w4 ⟨rfl, hb4⟩))
          exact ⟨⟨k + 1, by omega, by go_num, by rw [HT.out]; simp, fun j hj => by
            by_cases e : j = k
            · rw [e]; exact HP.out
            · exact hsofar j (by omega), hbr.trans ((hbA.trans (hb4.mono (by simp; omega))).mono hsr)⟩, by simp [intOf]; omega⟩
      · exact absurd (hpi k hlt) hpk
    · obtain rfl : k = ps.length := by omega
      have yO := row_below pO hbr lpO
      have yU := row_below rU2 hbr ltB
      have o0 := yO.cell (i := 0) rfl
      have o1 := yO.cell (i := 1) rfl
      have lyO := yO.lt
      have lyU := yU.lt
      have hinU := up_inside hN hpi hul hup
      have hsoU := sound_any us.length (some ⟨B, 0, none⟩) us.length up wr.heap.size hfu wr (yU.words lyU) (Nat.le_refl _)
      rw [code_of (by omega) hul hinU hou, hul, show ((0 : Int) == 0) = true by decide] at hsoU
      have hnn : ((us.length : Int) != (us.length : Int)) = false := by simp
      go_wp2_with (go_at_call 12; refine hsoU.mono ?_; rintro e w3 ⟨rfl, hb3⟩; have x0 := row_below y0 hb3 ly0; have xO := row_below yO hb3 lyO; have d00 := x0.cell (i := 0) rfl; have e0 := xO.cell (i := 0) rfl)
      have hB3 : Below w2.heap.size w2 w3 := hbr.trans (hb3.mono hsr)
      have xU := row_below yU hb3 lyU
      have x0 := row_below y0 hb3 ly0
      have xO := row_below yO hb3 lyO
      have lx0 := x0.lt
      have lxO := xO.lt
      have lxU := xU.lt
      have hw3 : IsWords n₀ w3 a us := hw2.below (hB3.mono hn2)
      have hp3 : ZPairs n₀ w3 a' ps := hp2.below (hB3.mono hn2)
      have hn3 : n₀ ≤ w3.heap.size := by have := hB3.size; omega
      clear hsoU o0 o1 yO yU lyO lyU y0 ly0 c00 c01 d00 e0 hsofar
      go_loopw [79] (fun i wr => ∃ k : Nat, k ≤ ps.length ∧ i = .int .i64 k ∧ Below w3.heap.size w3 wr) (fun i _ => ps.length - (intOf i).toNat)
      case atStart => exact ⟨0, Nat.zero_le _, rfl, Below.refl _ _⟩
      case round =>
        clear hbr hsr hb3
        obtain ⟨k, hk, rfl, hbr⟩ := hrel
        have hsr := hbr.size
        have yO := row_below xO hbr lxO
        have lyO := yO.lt
        have o0 := yO.cell (i := 0) rfl
        have o1 := yO.cell (i := 1) rfl
        by_cases hlt : k < ps.length
        · obtain ⟨b, off, rfl, hbb, hca, hcb⟩ := (hp3.below (hbr.mono hn3)).at hlt
          have hbw : b < wr.heap.size := by omega
          have hpk := hpi k hlt
          unfold PairIn at hpk
          obtain ⟨A, eA⟩ : ∃ A : Nat, (zp ps k).1 = (A : Int) := ⟨(zp ps k).1.toNat, by omega⟩
          obtain ⟨C, eC⟩ : ∃ C : Nat, (zp ps k).2 = (C : Int) := ⟨(zp ps k).2.toNat, by omega⟩
          rw [eA] at hca
          rw [eC] at hcb
          have hst : hasB (wd up A) C = true := (hup A (by omega) C).2 (.step A C C ((hN.has A C).2 ⟨k, hlt, hlt, eA, eC⟩) (.here C))
          have hbA : Below wr.heap.size wr (wr.alloc (.cells #[.int .i64 (A : Nat), .int .i64 (C : Nat)] 33)) := (Below.refl _ _).alloc (Nat.le_refl _) _
          have yU := row_below xU (hbr.trans (hbA.mono hsr)) lxU
          have hbe := kbelow_any us.length (some ⟨B, 0, none⟩) us.length up A C wr.heap.size hfu (by omega) (by omega) (wr.alloc (.cells #[.int .i64 (A : Nat), .int .i64 (C : Nat)] 33)) (yU.words (by omega)) (by simp)
          rw [hst, hul] at hbe
          clear hst eA eC hpk
          go_wp2_with (go_at_call 15; refine hbe.mono ?_; rintro e w4 ⟨rfl, hb4⟩)
          exact ⟨⟨k + 1, by omega, by go_num, hbr.trans ((hbA.trans (hb4.mono (by simp))).mono hsr)⟩, by simp [intOf]; omega⟩
        · go_wp2
          obtain ⟨w4, hw4⟩ : ∃ w4, w4 = wr := ⟨_, rfl⟩
          subst hw4
          have xU4 := row_below xU hbr lxU
          have x04 := row_below x0 hbr lx0
          have xO4 := row_below xO hbr lxO
          have hw4 : IsWords n₀ w4 a us := hw3.below (hbr.mono hn3)
          have hB4 : Below w.heap.size w w4 := hB2.trans ((hB3.trans (hbr.mono hB3.size)).mono hB2.size)
          have l1 := xU4.lt
          have l2 := x04.lt
          have l3 := xO4.lt
          have hn4 : n₀ ≤ w4.heap.size := by omega
          have HA : ∀ i, i < us.length → allTo us ps ps.length = true → orW (wd up i) (wd us i) = wd us i := fun i hi h => orW_sub fun j hj => (reach_le hord hN (fun q hq => ⟨hpi q hq, allTo_iff.1 h q hq⟩) hi ((hup i hi j).1 hj)).1
          clear yO lyO o0 o1 hbr
          go_loopw [12] (fun i wr => ∃ t : Nat, t ≤ us.length ∧ i = .int .i64 t ∧ Below w4.heap.size w4 wr) (fun i _ => us.length - (intOf i).toNat)
          case atStart => exact ⟨0, Nat.zero_le _, rfl, Below.refl _ _⟩
          case round =>
            obtain ⟨t, ht, rfl, hbt⟩ := hrel
            have yO := row_below xO4 hbt l3
            have o0 := yO.cell (i := 0) rfl
            by_cases hlt' : t < us.length
            · have y0 := row_below x04 hbt l2
              have yU := row_below xU4 hbt l1
              have o1 := yO.cell (i := 1) rfl
              have c1 := y0.cell (i := 1) rfl
              obtain ⟨b, off, rfl, hbb, hcc⟩ := (hw4.below (hbt.mono hn4)).at hlt'
              have cU := hcc t hlt'
              have cV := yU.cell (i := t) (wvals_at (by omega))
              have k0 := cell_regrown o1
              have k1 := cell_regrown c1
              have k2 := cell_regrown cU
              have k3 := cell_regrown cV
              have hor := bits_or32 (wd up t) (wd us t) (hfu t) (hf t)
              cases hal : allTo us ps ps.length with
              | false =>
                clear hcc hor HA
                go_wp2
                refine wp_region_quiet_below (by kernel_rfl) (by kernel_rfl) ?_
                repeat (go_big_quiet_step (fail))
                refine wpQuiet_nil ?_
                intro _ hw'
                obtain ⟨⟨dq, osq⟩, hw''⟩ := hw'
                subst hw''
                go_wp2
                go_roundw
                case rel => exact ⟨t + 1, by omega, by go_num, hbt.trans ((below_regrown _ dq osq).mono hbt.size)⟩
                case measure => simp [intOf]; omega
              | true =>
                rw [HA t hlt' hal] at hor
                have hne : (((wd us t : Nat) : Int) != ((wd us t : Nat) : Int)) = false := by simp
                clear hcc HA
                go_wp2
                refine wp_region_quiet_below (by kernel_rfl) (by kernel_rfl) ?_
                repeat (go_big_quiet_step (fail))
                refine wpQuiet_nil ?_
                intro _ hw'
                obtain ⟨⟨dq, osq⟩, hw''⟩ := hw'
                subst hw''
                go_wp2
                go_roundw
                case rel => exact ⟨t + 1, by omega, by go_num, hbt.trans ((below_regrown _ dq osq).mono hbt.size)⟩
                case measure => simp [intOf]; omega
            · go_wp2
              go_ret
              exact ⟨rfl, hB4.trans (hbt.mono hB4.size)⟩

/-- **OrderLeast answers true, for every order and every pairs, and writes nothing that was there** -/
theorem least_any (n : Int) (a : Option Addr) (cap : Nat) (us : List Nat) (a' : Option Addr) (cap' : Nat) (ps : List (Int × Int)) (n₀ : Nat) (hf : Fit us) (h63 : ps.length ≤ 9223372036854775807) (w : World) (hT : TabAt w) (hw : IsWords n₀ w a us) (hp : ZPairs n₀ w a' ps) (hg : 0 < n₀) (hn₀ : n₀ ≤ w.heap.size) :
    Calls Tryd.prog 4 #[.agg #[.int .i64 n, .slice a us.length cap], .slice a' ps.length cap'] w fun e w' => e = .returned (.bool true) ∧ Below w.heap.size w w' := by
  by_cases hc : codeOf n us ≠ 0 ∨ 256 < ps.length
  · exact least_bad n a cap us a' cap' ps n₀ hf w hT hw hp hg hn₀ h63 hc
  · have hc0 : codeOf n us = 0 := Classical.byContradiction fun h => hc (.inl h)
    have h256 : ps.length ≤ 256 := by omega
    obtain ⟨_, h16, hlen, hin, hord⟩ := code_zero hc0
    have en := hlen.symm
    subst en
    have hof : ∀ W, Below w.heap.size w W → Calls Tryd.prog 9 #[.int .i64 us.length, .slice a' ps.length cap'] W fun e w' => OfEnd us.length ps W.heap.size e w' ∧ Below W.heap.size W w' := fun W hW => Of_any us.length a' cap' ps n₀ W (hT.below hW (by omega)) (hp.below (hW.mono hn₀)) hg (by have := hW.size; omega)
    have hnl : ¬ OfLarge us.length ps := by unfold OfLarge; omega
    by_cases hbad : ∃ k, k < ps.length ∧ ¬ PairIn us.length (zp ps k)
    · refine least_arg a cap us a' cap' ps n₀ hf w hw hp hn₀ h256 hc0 hbad fun W hW => (hof W hW).mono ?_
      rintro e w' ⟨⟨h, _⟩ | ⟨_, _, rfl⟩ | ⟨_, h, _⟩, hb⟩
      · exact absurd h hnl
      · exact ⟨rfl, hb⟩
      · obtain ⟨k, hk, hnk⟩ := hbad
        exact absurd (h k hk) (by simpa using hnk)
    · have hpi : ∀ k, k < ps.length → PairIn us.length (zp ps k) := fun k hk => Classical.byContradiction fun h => hbad ⟨k, hk, h⟩
      obtain ⟨nx, hN⟩ := nxTo_ex (ps := ps) (n := us.length) (by omega) hpi
      obtain ⟨up, hul, hfu, hup⟩ := reach_ex (nx := nx) (n := us.length) (by omega) (fun i z hi hr => reach_in hN hpi hi hr)
      cases hou : isOrdB up with
      | true =>
        refine least_ok a cap us a' cap' ps n₀ hf w hw hp hn₀ h256 hc0 nx up hN hul hfu hup (isOrdB_true.1 hou) hpi fun W hW => (hof W hW).mono ?_
        rintro e w' ⟨⟨h, _⟩ | ⟨_, ⟨k, hk, hnk⟩, _⟩ | ⟨_, _, nx', up', hN', hul', _, hup', hcase⟩, hb⟩
        · exact absurd h hnl
        · exact absurd (hpi k hk) (by simpa using hnk)
        · have hN'' : NxTo ps us.length ps.length nx' := by simpa using hN'
          have e1 := NxTo.unique hN'' hN
          subst e1
          have e2 := up_unique (by simpa using hul') hul (by simpa using hup') hup
          subst e2
          rcases hcase with ⟨h, _⟩ | ⟨_, B, hB, rfl, rU⟩
          · rw [hou] at h; cases h
          · exact ⟨B, hB, by simp, rU, hb⟩
      | false =>
        have hall : allTo us ps ps.length = false := by
          cases h : allTo us ps ps.length with
          | false => rfl
          | true => exact absurd (up_ord hord hN (fun q hq => ⟨hpi q hq, allTo_iff.1 h q hq⟩) hul hup) (isOrdB_false.1 hou)
        refine least_cyc a cap us a' cap' ps n₀ hf w hw hp hn₀ h256 hc0 hall hpi fun W hW => (hof W hW).mono ?_
        rintro e w' ⟨⟨h, _⟩ | ⟨_, ⟨k, hk, hnk⟩, _⟩ | ⟨_, _, nx', up', hN', hul', _, hup', hcase⟩, hb⟩
        · exact absurd h hnl
        · exact absurd (hpi k hk) (by simpa using hnk)
        · have hN'' : NxTo ps us.length ps.length nx' := by simpa using hN'
          have e1 := NxTo.unique hN'' hN
          subst e1
          have e2 := up_unique (by simpa using hul') hul (by simpa using hup') hup
          subst e2
          rcases hcase with ⟨_, rfl⟩ | ⟨h, _⟩
          · exact ⟨rfl, hb⟩
          · rw [hou] at h; cases h
end Go.Proofs.YtbdigkjahfdmjaaDoor
