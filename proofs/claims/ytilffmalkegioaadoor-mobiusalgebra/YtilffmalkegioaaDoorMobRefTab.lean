/- The document's Table. -/
import Derived.Test.YtilffmalkegioaaDoorMobIsTab
import Derived.Test.YtilffmalkegioaaDoorRefLow
namespace Go.Proofs.YtilffmalkegioaaDoor
open Go.RowKit Go.Shelf

set_option maxRecDepth 100000 in
set_option maxHeartbeats 4000000 in
theorem Table_any (n : Nat) (a : Option Addr) (cap : Nat) (us : List Nat) (af : Option Addr) (cf : Nat) (l : List B64) (n₀ : Nat) (hn : n = us.length) (hf : Fit us) (hl : n ≤ 16) (w : World) (hw : IsWords n₀ w a us) (hv : ZInts n₀ w af (tiL l)) (hn₀ : n₀ ≤ w.heap.size) :
    Calls Tryd.prog 21 #[.agg #[.int .i64 n, .slice a n cap], .slice af l.length cf] w fun e w' => e = .returned (.bool (tabB us l)) ∧ Below w.heap.size w w' := by
  have h2 : n * n ≤ 256 := Nat.mul_le_mul hl hl
  have hF : ¬ IsTab us l → tabB us l = false := tabB_false.2
  have hT : IsTab us l → tabB us l = true := tabB_true.2
  have hbel := fun (W : World) (hW : IsWords n₀ W a us) (hs : n₀ ≤ W.heap.size) x y (hx : x < n) (hy : y < n) => Below_any n a cap us x y n₀ hf (by omega) (by omega) W hW hs
  rw [← hn] at hbel
  unfold IsTab Tab leW at hF hT
  rw [← hn] at hF hT
  obtain ⟨r0, hb0, hs0⟩ := one_row w 24 (.int .i64 n) (.slice a n cap) rfl
  have hz : (n : Int) * (n : Int) = ((n * n : Nat) : Int) := by push_cast; rfl
  generalize tabB us l = R at *
  clear hn
  by_cases hlen : l.length = n * n
  · have HF := hide hF
    have HT := hide hT
    have HL := hide hlen
    rw [hlen]
    have hrows : ∀ y, y < n → y * n + n ≤ n * n := fun y hy => by
      have := Nat.mul_le_mul_right n (show y + 1 ≤ n from hy)
      rwa [Nat.succ_mul] at this
    clear hF hT hz
    go_enter Tryd.func21, Tryd.ntmps21
    go_wp2_with fail
    go_loopw [5] (fun i wr => ∃ k : Nat, k ≤ n ∧ i = .int .i64 k ∧ Below (w.heap.size + 1) (w.alloc (.cells #[.int .i64 n, .slice a n cap] 24)) wr ∧ ∀ x, x < k → ∀ y, y < n → ¬ hasB (wd us x) y = true → mat n l x y = 0) (fun i _ => n - (intOf i).toNat)
    case atStart => exact ⟨0, Nat.zero_le _, rfl, Below.refl _ _, fun i hi => absurd hi (Nat.not_lt_zero _)⟩
    case round =>
      obtain ⟨k, hk, rfl, hB, hK⟩ := hrel
      have q0 := row_below r0 hB (by omega)
      have c0 := q0.cell (i := 0) rfl
      have c1 := q0.cell (i := 1) rfl
      by_cases hlt : k < n
      · go_wp2_with fail
        have HKO := hide hK
        clear hK
        go_loopw [6] (fun i wr => ∃ j : Nat, j ≤ n ∧ i = .int .i64 j ∧ Below (w.heap.size + 1) (w.alloc (.cells #[.int .i64 n, .slice a n cap] 24)) wr ∧ ∀ y, y < j → ¬ hasB (wd us k) y = true → mat n l k y = 0) (fun i _ => n - (intOf i).toNat)
        case atStart => exact ⟨0, Nat.zero_le _, rfl, hB, fun i hi => absurd hi (Nat.not_lt_zero _)⟩
        case round =>
          clear hB q0 c0 c1
          obtain ⟨j, hj, rfl, hB, hK⟩ := hrel
          have hBs := hB.size
          rw [hs0] at hBs
          have q0 := row_below r0 hB (by omega)
          have c0 := q0.cell (i := 0) rfl
          have c1 := q0.cell (i := 1) rfl
          by_cases hjt : j < n
          · have hpl := plc_lt hlt hjt
            have hrk := hrows k hlt
            have hcall := hbel wr ((hw.below (hb0.mono hn₀)).below (hB.mono (by omega))) (by omega) k j hlt hjt
            cases hh : hasB (wd us k) j with
            | true =>
              rw [hh] at hcall
              have HH := hide hh
              have HK := hide hK
              clear hh hK
              go_wp2_with fail
              refine hcall.mono ?_
              rintro e w2 ⟨rfl, hb2⟩
              clear c0 c1
              go_wp2_with fail
              go_roundw
              case rel => exact ⟨j + 1, by omega, by go_num, hB.trans (hb2.mono (by omega)), fun y hy hno => by
                by_cases e : y = j
                · subst e; exact absurd HH.out hno
                · exact HK.out y (by omega) hno⟩
              case measure => simp [intOf]; omega
            | false =>
              rw [hh] at hcall
              obtain ⟨b, off, rfl, hb, hc⟩ := hv.cellsB (i := k * n + j) (by omega)
              have hck := (hB.cell (p := ⟨b, off + (k * n + j), none⟩) (by simp; omega)).trans ((hb0.cell (p := ⟨b, off + (k * n + j), none⟩) (by simp; omega)).trans (hc _ (by omega)))
              clear hc
              by_cases hz : bd l (k * n + j) = 0
              · have hd2 : ((bd l (k * n + j)).toInt != 0) = false := by rw [hz]; rfl
                have HK := hide hK
                have HZ := hide (show mat n l k j = 0 from hz)
                clear hh hK hz
                generalize (bd l (k * n + j)).toInt = x at *
                go_wp2_with fail
                refine hcall.mono ?_
                rintro e w2 ⟨rfl, hb2⟩
                have c0 := cell_keep hb2 c0
                have hck := cell_keep hb2 hck
                go_wp2_with fail
                go_roundw
                case rel => exact ⟨j + 1, by omega, by go_num, hB.trans (hb2.mono (by omega)), fun y hy hno => by
                  by_cases e : y = j
                  · subst e; exact HZ.out
                  · exact HK.out y (by omega) hno⟩
                case measure => simp [intOf]; omega
              · have hd2 : ((bd l (k * n + j)).toInt != 0) = true := by
                  rw [bne_iff_ne]; intro h; exact hz (toInt_eq.1 (h.trans toInt_zero.symm))
                have HR := hide (HF.out fun h => hz (h.2 k hlt j hjt (by rw [hh]; simp)))
                clear hh hK hz
                generalize (bd l (k * n + j)).toInt = x at *
                go_wp2_with fail
                refine hcall.mono ?_
                rintro e w2 ⟨rfl, hb2⟩
                have c0 := cell_keep hb2 c0
                have hck := cell_keep hb2 hck
                go_wp2_with fail
                go_ret
                exact ⟨ret_bool HR.out.symm, (hb0.trans (hB.mono (by omega))).trans (hb2.mono (by omega))⟩
          · obtain rfl : j = n := by omega
            go_wp2_with fail
            refine ⟨⟨k + 1, by omega, by go_num, hB, fun x hx y hy hno => ?_⟩, by simp [intOf]; omega⟩
            by_cases e : x = k
            · subst e; exact hK y hy hno
            · exact HKO.out x (by omega) y hy hno
      · obtain rfl : k = n := by omega
        have HR := hide (HT.out ⟨HL.out, hK⟩)
        clear hK
        go_wp2_with fail
        go_ret
        exact ⟨ret_bool HR.out.symm, hb0.trans (hB.mono (by omega))⟩
  · have HR := hide (hF fun h => hlen h.1)
    have hd : ((l.length : Int) != (n : Int) * (n : Int)) = true := by
      rw [hz, bne_iff_ne]; intro h; exact hlen (by exact_mod_cast h)
    clear hF hT hz hlen
    go_enter Tryd.func21, Tryd.ntmps21
    go_wp2
    go_ret
    exact ⟨ret_bool HR.out.symm, hb0⟩
end Go.Proofs.YtilffmalkegioaaDoor
