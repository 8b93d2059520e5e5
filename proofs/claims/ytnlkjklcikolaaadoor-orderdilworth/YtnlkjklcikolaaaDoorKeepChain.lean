/- The contracts of watershedkeep's within and chained, for whatever numbers. -/
import Derived.Test.YtnlkjklcikolaaaDoorKeepLow
import Derived.Test.YtnlkjklcikolaaaDoorKeepZ
import Derived.Lib.QuietBelow
namespace Go.Proofs.YtnlkjklcikolaaaDoor
open Go.RowKit Go.Shelf

/-- the numbers are a chain -/
def ChainZ (us : List Nat) (zs : List Int) : Prop := AllIn us.length zs ∧ ∀ i, i < zs.length → 0 < i → underB us (zd zs (i - 1)).toNat (zd zs i).toNat = true
def decChainZ (us : List Nat) (zs : List Int) : Decidable (ChainZ us zs) := by
  unfold ChainZ
  have := decAllIn us.length zs
  infer_instance
def chainZB (us : List Nat) (zs : List Int) : Bool := @decide (ChainZ us zs) (decChainZ us zs)
theorem chainZB_true {us : List Nat} {zs : List Int} : chainZB us zs = true ↔ ChainZ us zs := by unfold chainZB; exact @decide_eq_true_iff _ (decChainZ us zs)
theorem chainZB_false {us : List Nat} {zs : List Int} : chainZB us zs = false ↔ ¬ ChainZ us zs := by unfold chainZB; exact @decide_eq_false_iff_not _ (decChainZ us zs)

set_option maxRecDepth 100000 in
set_option maxHeartbeats 1000000 in
theorem chained_z (a : Option Addr) (cap : Nat) (us : List Nat) (a' : Option Addr) (cap' : Nat) (zs : List Int) (n₀ : Nat) (hf : Fit us) (hl : us.length ≤ 16) (h63 : zs.length ≤ 9223372036854775807) (w : World) (hw : IsWords n₀ w a us) (hz : ZInts n₀ w a' zs) (hn₀ : n₀ ≤ w.heap.size) :
    Calls Tryd.prog 9 #[.agg #[.int .i64 us.length, .slice a us.length cap], .slice a' zs.length cap'] w fun e w' => e = .returned (.bool (chainZB us zs)) ∧ Below w.heap.size w w' := by
  obtain ⟨r0, hb0, hs0⟩ := one_row w 24 (.int .i64 us.length) (.slice a us.length cap) rfl
  have hwi := kwithin_z us.length a' cap' zs n₀ h63 _ (hz.below (hb0.mono hn₀))
  have c00 := r0.cell (i := 0) rfl
  cases hin : allInB us.length zs with
  | false =>
    rw [hin] at hwi
    have HF := hide (chainZB_false.2 (show ¬ ChainZ us zs from fun h => by rw [allInB_true.2 h.1] at hin; cases hin))
    clear hin
    go_enter Tryd.func9, Tryd.ntmps9
    go_wp2_with (go_at_call 8; refine hwi.mono ?_; rintro e w' ⟨rfl, hww⟩; rw [hww]; clear hww w')
    go_ret
    exact ⟨ret_bool HF.out.symm, hb0⟩
  | true =>
    rw [hin] at hwi
    have hAll := allInB_true.1 hin
    clear hin
    go_enter Tryd.func9, Tryd.ntmps9
    go_wp2_with (go_at_call 8; refine hwi.mono ?_; rintro e w' ⟨rfl, hww⟩; rw [hww]; clear hww w')
    generalize w.alloc (.cells #[.int .i64 us.length, .slice a us.length cap] 24) = w1 at *
    clear hwi c00
    go_loopw [5] (fun i wr => ∃ k : Nat, 1 ≤ k ∧ (k ≤ zs.length ∨ k = 1) ∧ i = .int .i64 k ∧ Below w1.heap.size w1 wr ∧ ∀ j, j < k → j < zs.length → 0 < j → underB us (zd zs (j - 1)).toNat (zd zs j).toNat = true) (fun i _ => zs.length - (intOf i).toNat)
    case atStart => exact ⟨1, Nat.le_refl _, .inr rfl, rfl, Below.refl _ _, fun j hj _ hj0 => by omega⟩
    case round =>
      obtain ⟨k, hk1, hk, rfl, hbr, hsofar⟩ := hrel
      by_cases hlt : k < zs.length
      · obtain ⟨b, off, rfl, hbb, hc⟩ := ((hz.below (hb0.mono hn₀)).below (hbr.mono (by omega))).at hlt
        obtain ⟨k', hkj⟩ : ∃ k', k = k' + 1 := ⟨k - 1, by omega⟩
        have hck := hc k hlt
        have hcj := hc k' (by omega)
        clear hc
        have qr := row_below r0 hbr r0.lt
        have r00 := qr.cell (i := 0) rfl
        have r01 := qr.cell (i := 1) rfl
        have hrs := hbr.size
        obtain ⟨x1, x2⟩ := hAll k hlt
        obtain ⟨y1, y2⟩ := hAll k' (by omega)
        obtain ⟨y, hy⟩ : ∃ y : Nat, zd zs k = (y : Int) := ⟨(zd zs k).toNat, by omega⟩
        obtain ⟨x, hx⟩ : ∃ x : Nat, zd zs k' = (x : Int) := ⟨(zd zs k').toNat, by omega⟩
        rw [hy] at hck x1 x2
        rw [hx] at hcj y1 y2
        have hlk : x < us.length := by omega
        have hly : y < us.length := by omega
        have hkk : k' < zs.length := by omega
        have hwk : IntKind.i64.wrap ((k : Nat) - 1) = ((k' : Nat) : Int) := by rw [IntWalk.i64_in _ (by omega)]; omega
        have HK := hide hkj
        have cU : ∀ d os, Calls Tryd.prog 20 #[.agg #[.int .i64 us.length, .slice a us.length cap], .int .i64 (x : Nat), .int .i64 (y : Nat)] (Go.Sort.grow (redrawn wr d) os) fun e w'' => e = .returned (.bool (underB us x y)) ∧ ∃ p : Regrown, w'' = Go.Sort.grow (redrawn wr p.d) p.os := fun d os => Calls.regrown_of
          (kunder_any us.length a cap us x y n₀ hf hlk (by omega) (Go.Sort.grow (redrawn wr d) os) ((hw.below ((hb0.trans (hbr.mono (by omega))).mono hn₀)).below ((below_regrown wr d os).mono (by omega))) (by have := (below_regrown wr d os).size; omega))
        have k0 := cell_regrown r00
        have k1 := cell_regrown r01
        have k2 := cell_regrown hck
        have k3 := cell_regrown hcj
        have HX := hide hx
        have HY := hide hy
        clear r00 r01 hck hcj hx hy x1 x2 y1 y2 hk1 hk hkj
        cases hu : underB us x y with
        | true =>
          rw [hu] at cU
          have Hu := hide hu
          clear hu
          go_wp2
          refine wp_region_quiet_below (by kernel_rfl) (by kernel_rfl) ?_
          repeat (quiet_step (first | exact cU _ _))
          refine wpQuiet_nil ?_
          intro _ hw'
          obtain ⟨⟨dq, osq⟩, hw''⟩ := hw'
          subst hw''
          go_wp2
          exact ⟨⟨k + 1, by omega, by omega, by go_num, hbr.trans ((below_regrown _ dq osq).mono hrs), fun j hj hjl hj0 => by
            by_cases e : j = k
            · subst e
              rw [show j - 1 = k' by have := HK.out; omega, HX.out, HY.out]
              exact Hu.out
            · exact hsofar j (by omega) hjl hj0⟩, by simp [intOf]; omega⟩
        | false =>
          rw [hu] at cU
          have HF := hide (chainZB_false.2 (show ¬ ChainZ us zs from fun h => by
            have hko := HK.out
            have := h.2 k hlt (by omega)
            rw [show k - 1 = k' by omega, HX.out, HY.out] at this
            rw [show ((x : Int)).toNat = x from rfl, show ((y : Int)).toNat = y from rfl, hu] at this
            cases this))
          clear hu
          go_wp2
          refine wp_region_quiet_below (by kernel_rfl) (by kernel_rfl) ?_
          repeat (quiet_step (first | exact cU _ _))
          refine wpQuiet_nil ?_
          intro _ hw'
          obtain ⟨⟨dq, osq⟩, hw''⟩ := hw'
          subst hw''
          go_wp2
          go_ret
          exact ⟨ret_bool HF.out.symm, (hb0.trans (hbr.mono (by omega))).trans ((below_regrown _ dq osq).mono (by omega))⟩
      · have HF := hide (chainZB_true.2 (show ChainZ us zs from ⟨hAll, fun i hi h0 => hsofar i (by omega) hi h0⟩))
        go_wp2
        go_ret
        exact ⟨ret_bool HF.out.symm, hb0.trans (hbr.mono (by omega))⟩
end Go.Proofs.YtnlkjklcikolaaaDoor
