/- The contracts of watershedkeep's within and chained, for whatever numbers. -/
import Derived.Test.YthhjhfjildmbhabDoorKeepLow
import Derived.Lib.QuietBelow
namespace Go.Proofs.YthhjhfjildmbhabDoor
open Go.RowKit Go.Shelf

def zd (zs : List Int) (i : Nat) : Int := zs.getD i 0
/-- a slice over numbers, such as are below 0 among them -/
def ZInts (n₀ : Nat) (W : World) (a : Option Addr) (zs : List Int) : Prop :=
  zs = [] ∨ ∃ b off, a = some ⟨b, off, none⟩ ∧ b < n₀ ∧ ∀ i, i < zs.length → W.cell? ⟨b, off + i, none⟩ = some (.int .i64 (zd zs i))
theorem ZInts.below {n₀ : Nat} {A B : World} {a : Option Addr} {l : List Int} (h : ZInts n₀ A a l) (hb : Below n₀ A B) : ZInts n₀ B a l := by
  rcases h with h | ⟨b, off, h1, h2, h3⟩
  · exact .inl h
  · exact .inr ⟨b, off, h1, h2, fun i hi => (hb.cell (p := ⟨b, off + i, none⟩) h2).trans (h3 i hi)⟩
theorem ZInts.mono {n₀ n₁ : Nat} (hn : n₀ ≤ n₁) {A : World} {a : Option Addr} {l : List Int} (h : ZInts n₀ A a l) : ZInts n₁ A a l := by
  rcases h with h | ⟨b, off, h1, h2, h3⟩
  · exact .inl h
  · exact .inr ⟨b, off, h1, by omega, h3⟩
theorem ZInts.at {n₀ : Nat} {A : World} {a : Option Addr} {l : List Int} (h : ZInts n₀ A a l) {i : Nat} (hi : i < l.length) :
    ∃ b off, a = some ⟨b, off, none⟩ ∧ b < n₀ ∧ ∀ i, i < l.length → A.cell? ⟨b, off + i, none⟩ = some (.int .i64 (zd l i)) := by
  rcases h with h | h
  · subst h; simp at hi
  · exact h
def toZ (l : List Nat) : List Int := l.map fun (x : Nat) => (x : Int)
theorem toZ_len (l : List Nat) : (toZ l).length = l.length := by unfold toZ; simp
theorem zd_toZ {l : List Nat} {i : Nat} (h : i < l.length) : zd (toZ l) i = ((wd l i : Nat) : Int) := by
  unfold zd toZ wd; simp [List.getD_eq_getElem?_getD, List.getElem?_map, List.getElem?_eq_getElem h]
theorem IsInts.z {n₀ : Nat} {W : World} {a : Option Addr} {l : List Nat} (h : IsInts n₀ W a l) : ZInts n₀ W a (toZ l) := by
  rcases h with h | ⟨b, off, h1, h2, h3⟩
  · exact .inl (by subst h; rfl)
  · exact .inr ⟨b, off, h1, h2, fun i hi => by rw [toZ_len] at hi; rw [zd_toZ hi]; exact h3 i hi⟩
/-- all numbers are elements -/
def AllIn (n : Nat) (zs : List Int) : Prop := ∀ i, i < zs.length → 0 ≤ zd zs i ∧ zd zs i < (n : Int)
def decAllIn (n : Nat) (zs : List Int) : Decidable (AllIn n zs) := by unfold AllIn; infer_instance
def allInB (n : Nat) (zs : List Int) : Bool := @decide (AllIn n zs) (decAllIn n zs)
theorem allInB_true {n : Nat} {zs : List Int} : allInB n zs = true ↔ AllIn n zs := by unfold allInB; exact @decide_eq_true_iff _ (decAllIn n zs)
theorem allInB_false {n : Nat} {zs : List Int} : allInB n zs = false ↔ ¬ AllIn n zs := by unfold allInB; exact @decide_eq_false_iff_not _ (decAllIn n zs)
/-- the numbers are a chain -/
def ChainZ (us : List Nat) (zs : List Int) : Prop := AllIn us.length zs ∧ ∀ i, i < zs.length → 0 < i → underB us (zd zs (i - 1)).toNat (zd zs i).toNat = true
def decChainZ (us : List Nat) (zs : List Int) : Decidable (ChainZ us zs) := by
  unfold ChainZ
  have := decAllIn us.length zs
  infer_instance
def chainZB (us : List Nat) (zs : List Int) : Bool := @decide (ChainZ us zs) (decChainZ us zs)
theorem chainZB_true {us : List Nat} {zs : List Int} : chainZB us zs = true ↔ ChainZ us zs := by unfold chainZB; exact @decide_eq_true_iff _ (decChainZ us zs)
theorem chainZB_false {us : List Nat} {zs : List Int} : chainZB us zs = false ↔ ¬ ChainZ us zs := by unfold chainZB; exact @decide_eq_false_iff_not _ (decChainZ us zs)

theorem kwithin_z (n : Nat) (a : Option Addr) (cap : Nat) (zs : List Int) (n₀ : Nat) (h63 : zs.length ≤ 9223372036854775807) (w : World) (hw : ZInts n₀ w a zs) :
    Calls Tryd.prog 11 #[.int .i64 n, .slice a zs.length cap] w fun e w' => e = .returned (.bool (allInB n zs)) ∧ w' = w := by
  go_enter Tryd.func11, Tryd.ntmps11
  go_wp2
  go_loop [9] (fun i => ∃ k : Nat, k ≤ zs.length ∧ i = .int .i64 k ∧ ∀ j, j < k → 0 ≤ zd zs j ∧ zd zs j < (n : Int)) (fun i => zs.length - (intOf i).toNat)
  case atStart => exact ⟨0, Nat.zero_le _, rfl, fun j hj => by omega⟩
  case round =>
    obtain ⟨k, hk, rfl, hsofar⟩ := hrel
    by_cases hlt : k < zs.length
    · obtain ⟨b, off, rfl, hb, hc⟩ := hw.at hlt
      have hck := hc k hlt
      clear hc
      by_cases hneg : zd zs k < 0
      · have HF := hide (allInB_false.2 (show ¬ AllIn n zs from fun h => by have := (h k hlt).1; omega))
        have hd : decide (zd zs k < 0) = true := by simp [hneg]
        clear hneg
        go_wp2
        go_ret
        exact ⟨ret_bool HF.out.symm, rfl⟩
      · by_cases hge : (n : Int) ≤ zd zs k
        · have HF := hide (allInB_false.2 (show ¬ AllIn n zs from fun h => by have := (h k hlt).2; omega))
          have hd : decide (zd zs k < 0) = false := by simp; omega
          have hd2 : decide ((n : Int) ≤ zd zs k) = true := by simp [hge]
          clear hneg hge
          go_wp2
          go_ret
          exact ⟨ret_bool HF.out.symm, rfl⟩
        · have hd : decide (zd zs k < 0) = false := by simp; omega
          have hd2 : decide ((n : Int) ≤ zd zs k) = false := by simp; omega
          have HN := hide (show 0 ≤ zd zs k ∧ zd zs k < (n : Int) by omega)
          clear hneg hge
          go_wp2
          go_round
          case rel => exact ⟨k + 1, by omega, by go_num, fun j hj => by
            by_cases e : j = k
            · subst e; exact HN.out
            · exact hsofar j (by omega)⟩
          case measure => simp [intOf]; omega
    · have HF := hide (allInB_true.2 (show AllIn n zs from fun i hi => hsofar i (by omega)))
      go_wp2
      go_ret
      exact ⟨ret_bool HF.out.symm, rfl⟩

set_option maxRecDepth 100000 in
set_option maxHeartbeats 1000000 in
theorem chained_z (a : Option Addr) (cap : Nat) (us : List Nat) (a' : Option Addr) (cap' : Nat) (zs : List Int) (n₀ : Nat) (hf : Fit us) (hl : us.length ≤ 16) (h63 : zs.length ≤ 9223372036854775807) (w : World) (hw : IsWords n₀ w a us) (hz : ZInts n₀ w a' zs) (hn₀ : n₀ ≤ w.heap.size) :
    Calls Tryd.prog 18 #[.agg #[.int .i64 us.length, .slice a us.length cap], .slice a' zs.length cap'] w fun e w' => e = .returned (.bool (chainZB us zs)) ∧ Below w.heap.size w w' := by
  obtain ⟨r0, hb0, hs0⟩ := one_row w 24 (.int .i64 us.length) (.slice a us.length cap) rfl
  have hwi := kwithin_z us.length a' cap' zs n₀ h63 _ (hz.below (hb0.mono hn₀))
  have c00 := r0.cell (i := 0) rfl
  cases hin : allInB us.length zs with
  | false =>
    rw [hin] at hwi
    have HF := hide (chainZB_false.2 (show ¬ ChainZ us zs from fun h => by rw [allInB_true.2 h.1] at hin; cases hin))
    clear hin
    go_enter Tryd.func18, Tryd.ntmps18
    go_wp2_with (go_at_call 11; refine hwi.mono ?_; rintro e w' ⟨rfl, hww⟩; rw [hww]; clear hww w')
    go_ret
    exact ⟨ret_bool HF.out.symm, hb0⟩
  | true =>
    rw [hin] at hwi
    have hAll := allInB_true.1 hin
    clear hin
    go_enter Tryd.func18, Tryd.ntmps18
    go_wp2_with (go_at_call 11; refine hwi.mono ?_; rintro e w' ⟨rfl, hww⟩; rw [hww]; clear hww w')
    generalize w.alloc (.cells #[.int .i64 us.length, .slice a us.length cap] 24) = w1 at *
    clear hwi c00
    go_loopw [5] (fun i wr => ∃ k : Nat, 1 ≤ k ∧ (k ≤ zs.length ∨ k = 1) ∧ i = .int .i64 k ∧ Below w1.heap.size w1 wr ∧ ∀ j, j < k → j < zs.length → 0 < j → underB us (zd zs (j - 1)).toNat (zd zs j).toNat = true) (fun i _ => zs.length - (intOf i).toNat)
    case atStart => exact ⟨1, Nat.le_refl _, .inr rfl, rfl, Below.refl _ _, fun j hj _ hj0 => by omega⟩
    case round =>
      obtain ⟨k, hk1, hk, rfl, hbr, hsofar⟩ := hrel
      by_cases hlt : k < zs.length
      · obtain ⟨b, off, rfl, hbb, hc⟩ := ((hz.below (hb0.mono hn₀)).below (hbr.mono (by omega))).at hlt
        obtain ⟨k', hkj⟩ : ∃ k', k = k' + 1 := ⟨k - 1, by omega⟩
        have hck := hc k hlt
        have hcj := hc k' (by omega)
        clear hc
        have qr := row_below r0 hbr r0.lt
        have r00 := qr.cell (i := 0) rfl
        have r01 := qr.cell (i := 1) rfl
        have hrs := hbr.size
        obtain ⟨x1, x2⟩ := hAll k hlt
        obtain ⟨y1, y2⟩ := hAll k' (by omega)
        obtain ⟨y, hy⟩ : ∃ y : Nat, zd zs k = (y : Int) := ⟨(zd zs k).toNat, by omega⟩
        obtain ⟨x, hx⟩ : ∃ x : Nat, zd zs k' = (x : Int) := ⟨(zd zs k').toNat, by omega⟩
        rw [hy] at hck x1 x2
        rw [hx] at hcj y1 y2
        have hlk : x < us.length := by omega
        have hly : y < us.length := by omega
        have hkk : k' < zs.length := by omega
        have hwk : IntKind.i64.wrap ((k : Nat) - 1) = ((k' : Nat) : Int) := by rw [IntWalk.i64_in _ (by omega)]; omega
        have HK := hide hkj
        have cU : ∀ d os, Calls Tryd.prog 19 #[.agg #[.int .i64 us.length, .slice a us.length cap], .int .i64 (x : Nat), .int .i64 (y : Nat)] (Go.Sort.grow (redrawn wr d) os) fun e w'' => e = .returned (.bool (underB us x y)) ∧ ∃ p : Regrown, w'' = Go.Sort.grow (redrawn wr p.d) p.os := fun d os => Calls.regrown_of
          (kunder_any us.length a cap us x y n₀ hf hlk (by omega) (Go.Sort.grow (redrawn wr d) os) ((hw.below ((hb0.trans (hbr.mono (by omega))).mono hn₀)).below ((below_regrown wr d os).mono (by omega))) (by have := (below_regrown wr d os).size; omega))
        have k0 := cell_regrown r00
        have k1 := cell_regrown r01
        have k2 := cell_regrown hck
        have k3 := cell_regrown hcj
        have HX := hide hx
        have HY := hide hy
        clear r00 r01 hck hcj hx hy x1 x2 y1 y2 hk1 hk hkj
        cases hu : underB us x y with
        | true =>
          rw [hu] at cU
          have Hu := hide hu
          clear hu
          go_wp2
          refine wp_region_quiet_below (by kernel_rfl) (by kernel_rfl) ?_
          repeat (quiet_step (first | exact cU _ _))
          refine wpQuiet_nil ?_
          intro _ hw'
          obtain ⟨⟨dq, osq⟩, hw''⟩ := hw'
          subst hw''
          go_wp2
          exact ⟨⟨k + 1, by omega, by omega, by go_num, hbr.trans ((below_regrown _ dq osq).mono hrs), fun j hj hjl hj0 => by
            by_cases e : j = k
            · subst e
              rw [show j - 1 = k' by have := HK.out; omega, HX.out, HY.out]
              exact Hu.out
            · exact hsofar j (by omega) hjl hj0⟩, by simp [intOf]; omega⟩
        | false =>
          rw [hu] at cU
          have HF := hide (chainZB_false.2 (show ¬ ChainZ us zs from fun h => by
            have hko := HK.out
            have := h.2 k hlt (by omega)
            rw [show k - 1 = k' by omega, HX.out, HY.out] at this
            rw [show ((x : Int)).toNat = x from rfl, show ((y : Int)).toNat = y from rfl, hu] at this
            cases this))
          clear hu
          go_wp2
          refine wp_region_quiet_below (by kernel_rfl) (by kernel_rfl) ?_
          repeat (quiet_step (first | exact cU _ _))
          refine wpQuiet_nil ?_
          intro _ hw'
          obtain ⟨⟨dq, osq⟩, hw''⟩ := hw'
          subst hw''
          go_wp2
          go_ret
          exact ⟨ret_bool HF.out.symm, (hb0.trans (hbr.mono (by omega))).trans ((below_regrown _ dq osq).mono (by omega))⟩
      · have HF := hide (chainZB_true.2 (show ChainZ us zs from ⟨hAll, fun i hi h0 => hsofar i (by omega) hi h0⟩))
        go_wp2
        go_ret
        exact ⟨ret_bool HF.out.symm, hb0.trans (hbr.mono (by omega))⟩
end Go.Proofs.YthhjhfjildmbhabDoor
