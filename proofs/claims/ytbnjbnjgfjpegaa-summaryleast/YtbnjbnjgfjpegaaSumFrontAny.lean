/- Package summary's Front. -/
import Derived.Test.YtbnjbnjgfjpegaaSumCheckL
namespace Go.Proofs.Ytbnjbnjgfjpegaa
open Go.RowKit Go.Shelf

/-- all of a list that may be make times with as many numbers -/
theorem okS_list {L : List Su} (h : codeM (sl L) = 0) : ∃ n, ∀ i, i < L.length → OkS n (nthU L i).sm := by
  obtain ⟨_, h2, h3⟩ := codeM_zero h
  exact ⟨_, fun i hi => ⟨h2 _ (mem_sl.2 ⟨i, hi, rfl⟩), h3 _ (mem_sl.2 ⟨i, hi, rfl⟩)⟩⟩
set_option maxRecDepth 100000 in
set_option maxHeartbeats 1000000 in
theorem sFront_any (a : Option Addr) (cap : Nat) (L : List Su) (n₀ : Nat) (h63 : L.length ≤ 9223372036854775807) (w : World) (hO : OuterU n₀ w a L) (hI : InnerU n₀ w L) (hn₀ : n₀ ≤ w.heap.size) :
    Calls Try.prog 5 #[.slice a L.length cap] w fun e w' => Below w.heap.size w w' ∧ ((codeM (sl L) ≠ 0 ∧ e = .returned (.tuple #[.slice none 0 0, .int .i64 (codeM (sl L))])) ∨ (codeM (sl L) = 0 ∧ ∃ av cv S, e = .returned (.tuple #[.slice av S.length cv, .int .i64 0]) ∧ OuterU w'.heap.size w' av S ∧ InFU w.heap.size w' S ∧ FrontG AheadS LeS (sl L) (sl S))) := by
  have s1 := slistc_any a cap L n₀ h63 w hO hI hn₀
  by_cases hc : codeM (sl L) = 0
  · obtain ⟨n, hok⟩ := okS_list hc
    have h64 := (codeM_zero hc).1
    rw [sl_len] at h64
    have s2 : ∀ W, Below w.heap.size w W → _ := fun W hW => sleast_any a cap L n n₀ (by omega) hok W (hO.below (hW.mono hn₀)) (hI.below (hW.mono hn₀)) (by have := hW.size; omega)
    rw [hc] at s1 ⊢
    clear hc hok
    go_enter Try.func5, Try.ntmps5
    go_wp2_with fail
    with_reducible refine s1.mono ?_
    rintro e w1 ⟨rfl, hb1⟩
    have s3 := s2 w1 hb1
    have hs1 := hb1.size
    clear s1 s2
    go_wp2_with fail
    with_reducible refine s3.mono ?_
    rintro e w2 ⟨av, cv, S, rfl, hb2, hO', hF, hG⟩
    go_wp2_with fail
    go_ret2
    exact ⟨hb1.trans (hb2.mono hs1), .inr ⟨trivial, av, cv, S, rfl, hO', fun i hi => ⟨ownsRow_base (hF i hi).1 hs1, (hF i hi).2⟩, hG⟩⟩
  · have HC := hide hc
    have e1 : (codeM (sl L) != 0) = true := by rw [bne_iff_ne]; exact hc
    clear hc
    generalize codeM (sl L) = c at *
    go_enter Try.func5, Try.ntmps5
    go_wp2_with fail
    with_reducible refine s1.mono ?_
    rintro e w1 ⟨rfl, hb1⟩
    go_wp2_with fail
    go_ret2
    exact ⟨hb1, .inl ⟨HC.out, rfl⟩⟩
end Go.Proofs.Ytbnjbnjgfjpegaa
