/- The contracts of package times' Leq, of the document's TimesLeq and TimesPair. -/
import Derived.Test.YtdknniomgdjbfabTimPair
import Derived.Test.YtdknniomgdjbfabTimSame
namespace Go.Proofs.Ytdknniomgdjbfab
open Go.RowKit Go.Shelf

set_option maxRecDepth 100000 in
set_option maxHeartbeats 1000000 in
theorem tleq_any (a : Option Addr) (ca : Nat) (zs : List Int) (b : Option Addr) (cb : Nat) (ys : List Int) (n₀ : Nat) (h63 : zs.length ≤ 9223372036854775807) (h64 : ys.length ≤ 9223372036854775807) (w : World) (hz : ZInts n₀ w a zs) (hy : ZInts n₀ w b ys) (hn₀ : n₀ ≤ w.heap.size) :
    Calls Try.prog 25 #[.slice a zs.length ca, .slice b ys.length cb] w fun e w' => e = .returned (.bool (leqT zs ys)) ∧ Below w.heap.size w w' := by
  have hp := tpair_any a ca zs b cb ys n₀ h63 h64 w hz hy hn₀
  by_cases hc : codeP zs ys = 0
  · rw [hc] at hp
    have HL := hide (codeP_zero hc).2.2
    have HC := hide hc
    clear hc
    go_enter Try.func25, Try.ntmps25
    go_wp2_with (go_at_call 38; refine hp.mono ?_; rintro e w1 ⟨rfl, hb1⟩)
    have hz1 := hz.below (hb1.mono hn₀)
    have hy1 := hy.below (hb1.mono hn₀)
    clear hp
    go_loop [14] (fun i => ∃ k : Nat, k ≤ zs.length ∧ i = .int .i64 k ∧ ∀ j, j < k → zd zs j ≤ zd ys j) (fun i => zs.length - (intOf i).toNat)
    case atStart => exact ⟨0, Nat.zero_le _, rfl, fun j hj => by omega⟩
    case round =>
      obtain ⟨k, hk, rfl, hsofar⟩ := hrel
      by_cases hlt : k < zs.length
      · have hlt2 : k < ys.length := by have := HL.out; omega
        obtain ⟨bz, oz, rfl, hbz, hcz⟩ := hz1.at hlt
        obtain ⟨bb, oy, rfl, hby, hcy⟩ := hy1.at hlt2
        have ck := hcz k hlt
        have dk := hcy k hlt2
        clear hcz hcy
        by_cases hu : zd ys k < zd zs k
        · have HF := hide (leqT_no hlt hu)
          have e1 : decide (zd ys k < zd zs k) = true := by simp [hu]
          clear hu
          go_wp2
          go_ret
          exact ⟨ret_bool HF.out.symm, hb1⟩
        · have HU := hide (show zd zs k ≤ zd ys k by omega)
          have e1 : decide (zd ys k < zd zs k) = false := by simp; omega
          clear hu
          go_wp2
          go_round
          case rel => exact ⟨k + 1, by omega, by go_num, fun j hj => by
            by_cases e : j = k
            · rw [e]; exact HU.out
            · exact hsofar j (by omega)⟩
          case measure => simp [intOf]; omega
      · have HF := hide (leqT_true.2 (show codeP zs ys = 0 ∧ LeqZ zs ys from ⟨HC.out, fun i hi => hsofar i (by omega)⟩))
        go_wp2
        go_ret
        exact ⟨ret_bool HF.out.symm, hb1⟩
  · rw [leqT_bad hc]
    have e1 : (codeP zs ys != 0) = true := by rw [bne_iff_ne]; exact hc
    clear hc
    generalize codeP zs ys = c at *
    go_enter Try.func25, Try.ntmps25
    go_wp2_with (go_at_call 38; refine hp.mono ?_; rintro e w1 ⟨rfl, hb1⟩)
    go_ret
    exact ⟨rfl, hb1⟩

end Go.Proofs.Ytdknniomgdjbfab
