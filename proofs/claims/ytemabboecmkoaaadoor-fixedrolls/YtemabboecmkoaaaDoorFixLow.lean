/- Package fixed's helpers: into, of, below, checkMap; the document's MapInto. -/
import Derived.Test.YtemabboecmkoaaaDoorFixPlain
import Derived.Test.YtemabboecmkoaaaDoorKeepBelow
import Derived.Test.YtemabboecmkoaaaDoorRefLow
import Derived.Lib.QuietBelow
import Derived.BigQuiet
namespace Go.Proofs.YtemabboecmkoaaaDoor
open Go.RowKit Go.Shelf

theorem of_any (a : Option Addr) (cap : Nat) (fs : List Nat) (x n₀ : Nat) (hx : x < fs.length) (w : World) (hw : IsInts n₀ w a fs) :
    Calls Tryd.prog 42 #[.slice a fs.length cap, .int .i64 x] w fun e w' => e = .returned (.int .i64 (wd fs x : Nat)) ∧ w' = w := by
  obtain ⟨b, off, rfl, hb, hc⟩ := hw.at hx
  have hci := hc x hx
  clear hc
  go_enter Tryd.func42, Tryd.ntmps42
  go_wp2
  go_ret
  exact ⟨rfl, rfl⟩

theorem shr_bit {x j : Nat} (hx : x < 4294967296) : (bits BinOp.and IntKind.u32 ((x : Int) / 2 ^ j) 1 == 1) = hasB x j := by
  have e : ((x : Int) / 2 ^ j) = ((x / 2 ^ j : Nat) : Int) := by simp
  have h1 : x / 2 ^ j < 4294967296 := Nat.lt_of_le_of_lt (Nat.div_le_self _ _) hx
  have h2 := bits_and32 (x / 2 ^ j) 1 h1 (by decide)
  rw [e]
  refine (congrArg (· == (1 : Int)) h2).trans ?_
  unfold hasB
  rw [Nat.testBit_eq_decide_div_mod_eq, Bool.eq_iff_iff, beq_iff_eq, decide_eq_true_iff]
  have : (x / 2 ^ j) &&& 1 = x / 2 ^ j % 2 := Nat.and_one_is_mod _
  unfold andW
  rw [this]
  omega

theorem fbelow_any (n : Int) (a : Option Addr) (cap : Nat) (us : List Nat) (i j n₀ : Nat) (hf : Fit us) (hi : i < us.length) (hj : j < 32) (w : World) (hw : IsWords n₀ w a us) (hn : n₀ ≤ w.heap.size) :
    Calls Tryd.prog 41 #[.agg #[.int .i64 n, .slice a us.length cap], .int .i64 i, .int .i64 j] w fun e w' => e = .returned (.bool (hasB (wd us i) j)) ∧ Below w.heap.size w w' := by
  obtain ⟨b, off, rfl, hb, hc⟩ := hw.at hi
  have hci := hc i hi
  have hfi := hf i
  have hbw : b < w.heap.size := by omega
  clear hc
  go_enter Tryd.func41, Tryd.ntmps41
  go_wp2
  go_ret
  exact ⟨ret_bool (shr_bit hfi), (Below.refl _ _).alloc (Nat.le_refl _) _⟩

/-- the same where they are called in whatever order -/
theorem of_re (a : Option Addr) (cap : Nat) (fs : List Nat) (n₀ : Nat) (W : World) (hw : IsInts n₀ W a fs) (hn : n₀ ≤ W.heap.size) (x r : Nat) (hx : x < fs.length) (hr : wd fs x = r) (d : Nat) (os : Array Obj) :
    Calls Tryd.prog 42 #[.slice a fs.length cap, .int .i64 x] (Go.Sort.grow (redrawn W d) os) fun e w'' => e = .returned (.int .i64 (r : Nat)) ∧ ∃ p : Regrown, w'' = Go.Sort.grow (redrawn W p.d) p.os := by
  subst hr
  exact (of_any a cap fs x n₀ hx _ (hw.below ((below_regrown W d os).mono hn))).mono fun _ _ ⟨h1, h2⟩ => ⟨h1, ⟨d, os⟩, h2⟩
theorem fbelow_re (n : Int) (a : Option Addr) (cap : Nat) (us : List Nat) (n₀ : Nat) (hf : Fit us) (hl : us.length ≤ 16) (W : World) (hw : IsWords n₀ W a us) (hn₀ : n₀ ≤ W.heap.size) (x y : Nat) (r : Bool) (hx : x < us.length) (hy : y < us.length) (hr : hasB (wd us x) y = r) (d : Nat) (os : Array Obj) :
    Calls Tryd.prog 41 #[.agg #[.int .i64 n, .slice a us.length cap], .int .i64 x, .int .i64 y] (Go.Sort.grow (redrawn W d) os) fun e w'' => e = .returned (.bool r) ∧ ∃ p : Regrown, w'' = Go.Sort.grow (redrawn W p.d) p.os := by
  subst hr
  exact Calls.regrown_of (fbelow_any n a cap us x y n₀ hf hx (by omega) (Go.Sort.grow (redrawn W d) os) (hw.below ((below_regrown W d os).mono hn₀)) (by have := (below_regrown W d os).size; omega))
theorem rbelow_re (n : Int) (a : Option Addr) (cap : Nat) (us : List Nat) (n₀ : Nat) (hf : Fit us) (hl : us.length ≤ 16) (W : World) (hw : IsWords n₀ W a us) (hn₀ : n₀ ≤ W.heap.size) (x y : Nat) (r : Bool) (hx : x < us.length) (hy : y < us.length) (hr : hasB (wd us x) y = r) (d : Nat) (os : Array Obj) :
    Calls Tryd.prog 37 #[.agg #[.int .i64 n, .slice a us.length cap], .int .i64 x, .int .i64 y] (Go.Sort.grow (redrawn W d) os) fun e w'' => e = .returned (.bool r) ∧ ∃ p : Regrown, w'' = Go.Sort.grow (redrawn W p.d) p.os := by
  subst hr
  exact Calls.regrown_of (Below_any n a cap us x y n₀ hf hx (by omega) (Go.Sort.grow (redrawn W d) os) (hw.below ((below_regrown W d os).mono hn₀)) (by have := (below_regrown W d os).size; omega))

theorem into_any (n m : Nat) (a : Option Addr) (cap : Nat) (zs : List Int) (n₀ : Nat) (h63 : zs.length ≤ 9223372036854775807) (w : World) (hw : ZInts n₀ w a zs) :
    Calls Tryd.prog 40 #[.slice a zs.length cap, .int .i64 n, .int .i64 m] w fun e w' => e = .returned (.bool (intoB n m zs)) ∧ w' = w := by
  by_cases hln : ¬ zs.length = n
  · have HF : Hid (intoB n m zs = false) := hide (by unfold intoB; rw [decide_eq_false hln]; rfl)
    have hd : ((zs.length : Int) != (n : Int)) = true := by rw [bne_iff_ne]; omega
    clear hln
    go_enter Tryd.func40, Tryd.ntmps40
    go_wp2
    go_ret
    exact ⟨ret_bool HF.out.symm, rfl⟩
  have hln := Decidable.not_not.1 hln
  have hd : ((zs.length : Int) != (n : Int)) = false := by rw [bne_eq_false_iff_eq]; omega
  have HI : Hid (intoB n m zs = allInB m zs) := hide (by unfold intoB; rw [decide_eq_true hln]; rfl)
  clear hln
  go_enter Tryd.func40, Tryd.ntmps40
  go_wp2
  clear hd
  go_loop [15] (fun i => ∃ k : Nat, k ≤ zs.length ∧ i = .int .i64 k ∧ ∀ j, j < k → 0 ≤ zd zs j ∧ zd zs j < (m : Int)) (fun i => zs.length - (intOf i).toNat)
  case atStart => exact ⟨0, Nat.zero_le _, rfl, fun j hj => by omega⟩
  case round =>
    obtain ⟨k, hk, rfl, hsofar⟩ := hrel
    by_cases hlt : k < zs.length
    · obtain ⟨b, off, rfl, hb, hc⟩ := hw.at hlt
      have hck := hc k hlt
      clear hc
      by_cases hneg : zd zs k < 0
      · have HF := hide (allInB_false.2 (show ¬ AllIn m zs from fun h => by have := (h k hlt).1; omega))
        have hd : decide (zd zs k < 0) = true := by simp [hneg]
        clear hneg
        go_wp2
        go_ret
        exact ⟨ret_bool (HI.out.trans HF.out).symm, rfl⟩
      · by_cases hge : (m : Int) ≤ zd zs k
        · have HF := hide (allInB_false.2 (show ¬ AllIn m zs from fun h => by have := (h k hlt).2; omega))
          have hd : decide (zd zs k < 0) = false := by simp; omega
          have hd2 : decide ((m : Int) ≤ zd zs k) = true := by simpa using hge
          clear hneg hge
          go_wp2
          go_ret
          exact ⟨ret_bool (HI.out.trans HF.out).symm, rfl⟩
        · have hd : decide (zd zs k < 0) = false := by simp; omega
          have hd2 : decide ((m : Int) ≤ zd zs k) = false := by simpa using hge
          have HK := hide (show 0 ≤ zd zs k ∧ zd zs k < (m : Int) by omega)
          clear hneg hge
          go_wp2
          go_round
          case rel => exact ⟨k + 1, by omega, by go_num, fun j hj => by
            by_cases e : j = k
            · rw [e]; exact HK.out
            · exact hsofar j (by omega)⟩
          case measure => simp [intOf]; omega
    · have HF := hide (allInB_true.2 (show AllIn m zs from fun i hi => hsofar i (by omega)))
      go_wp2
      go_ret
      exact ⟨ret_bool (HI.out.trans HF.out).symm, rfl⟩

theorem MapInto_any (n m : Nat) (a : Option Addr) (cap : Nat) (zs : List Int) (n₀ : Nat) (h63 : zs.length ≤ 9223372036854775807) (w : World) (hw : ZInts n₀ w a zs) :
    Calls Tryd.prog 36 #[.slice a zs.length cap, .int .i64 n, .int .i64 m] w fun e w' => e = .returned (.bool (intoB n m zs)) ∧ w' = w := by
  by_cases hln : ¬ zs.length = n
  · have HF : Hid (intoB n m zs = false) := hide (by unfold intoB; rw [decide_eq_false hln]; rfl)
    have hd : ((zs.length : Int) != (n : Int)) = true := by rw [bne_iff_ne]; omega
    clear hln
    go_enter Tryd.func36, Tryd.ntmps36
    go_wp2
    go_ret
    exact ⟨ret_bool HF.out.symm, rfl⟩
  have hln := Decidable.not_not.1 hln
  have hd : ((zs.length : Int) != (n : Int)) = false := by rw [bne_eq_false_iff_eq]; omega
  have HI : Hid (intoB n m zs = allInB m zs) := hide (by unfold intoB; rw [decide_eq_true hln]; rfl)
  clear hln
  go_enter Tryd.func36, Tryd.ntmps36
  go_wp2
  clear hd
  go_loop [15] (fun i => ∃ k : Nat, k ≤ zs.length ∧ i = .int .i64 k ∧ ∀ j, j < k → 0 ≤ zd zs j ∧ zd zs j < (m : Int)) (fun i => zs.length - (intOf i).toNat)
  case atStart => exact ⟨0, Nat.zero_le _, rfl, fun j hj => by omega⟩
  case round =>
    obtain ⟨k, hk, rfl, hsofar⟩ := hrel
    by_cases hlt : k < zs.length
    · obtain ⟨b, off, rfl, hb, hc⟩ := hw.at hlt
      have hck := hc k hlt
      clear hc
      by_cases hneg : zd zs k < 0
      · have HF := hide (allInB_false.2 (show ¬ AllIn m zs from fun h => by have := (h k hlt).1; omega))
        have hd : decide (zd zs k < 0) = true := by simp [hneg]
        clear hneg
        go_wp2
        go_ret
        exact ⟨ret_bool (HI.out.trans HF.out).symm, rfl⟩
      · by_cases hge : (m : Int) ≤ zd zs k
        · have HF := hide (allInB_false.2 (show ¬ AllIn m zs from fun h => by have := (h k hlt).2; omega))
          have hd : decide (zd zs k < 0) = false := by simp; omega
          have hd2 : decide ((m : Int) ≤ zd zs k) = true := by simpa using hge
          clear hneg hge
          go_wp2
          go_ret
          exact ⟨ret_bool (HI.out.trans HF.out).symm, rfl⟩
        · have hd : decide (zd zs k < 0) = false := by simp; omega
          have hd2 : decide ((m : Int) ≤ zd zs k) = false := by simpa using hge
          have HK := hide (show 0 ≤ zd zs k ∧ zd zs k < (m : Int) by omega)
          clear hneg hge
          go_wp2
          go_round
          case rel => exact ⟨k + 1, by omega, by go_num, fun j hj => by
            by_cases e : j = k
            · rw [e]; exact HK.out
            · exact hsofar j (by omega)⟩
          case measure => simp [intOf]; omega
    · have HF := hide (allInB_true.2 (show AllIn m zs from fun i hi => hsofar i (by omega)))
      go_wp2
      go_ret
      exact ⟨ret_bool (HI.out.trans HF.out).symm, rfl⟩
end Go.Proofs.YtemabboecmkoaaaDoor
