/- The contract of the document's SummarySame. -/
import Derived.Test.YtbnjbnjgfjpegaaSumPlain
import Derived.Test.YtbnjbnjgfjpegaaSumRows
import Derived.Test.YtbnjbnjgfjpegaaTimSame
namespace Go.Proofs.Ytbnjbnjgfjpegaa
open Go.RowKit Go.Shelf

/-- are two summaries the same? -/
def sameM (s r : Sm) : Bool := (s.k == r.k && s.d == r.d) && sameB s.z r.z
theorem sameM_true {s r : Sm} : sameM s r = true ↔ s = r := by
  unfold sameM
  rw [Bool.and_eq_true, Bool.and_eq_true, beq_iff_eq, beq_iff_eq, sameB_true]
  constructor
  · rintro ⟨⟨h1, h2⟩, h3⟩; exact Sm.ext' h1 h2 h3
  · rintro rfl; exact ⟨⟨rfl, rfl⟩, rfl⟩
theorem sameM_false {s r : Sm} : sameM s r = false ↔ s ≠ r := by rw [Ne, ← sameM_true, Bool.not_eq_true]

set_option maxRecDepth 100000 in
set_option maxHeartbeats 1000000 in
theorem rssame_any (k1 d1 : Int) (a1 : Option Addr) (cap1 : Nat) (z1 : List Int) (k2 d2 : Int) (a2 : Option Addr) (cap2 : Nat) (z2 : List Int) (n₀ : Nat) (h1 : z1.length ≤ 17592186044416) (w : World) (hz1 : ZInts n₀ w a1 z1) (hz2 : ZInts n₀ w a2 z2) (hn₀ : n₀ ≤ w.heap.size) :
    Calls Try.prog 14 #[.agg #[.int .i64 k1, .int .i64 d1, .slice a1 z1.length cap1], .agg #[.int .i64 k2, .int .i64 d2, .slice a2 z2.length cap2]] w fun e w' => e = .returned (.bool (sameM ⟨k1, d1, z1⟩ ⟨k2, d2, z2⟩)) ∧ Below w.heap.size w w' := by
  obtain ⟨r0, r1, hb0, hs0⟩ := sum_rows w (.int .i64 k1) (.int .i64 d1) (.slice a1 z1.length cap1) (.int .i64 k2) (.int .i64 d2) (.slice a2 z2.length cap2) rfl
  obtain ⟨W0, hW0⟩ : ∃ V, (w.alloc (.cells #[.int .i64 k1, .int .i64 d1, .slice a1 z1.length cap1] 32)).alloc (.cells #[.int .i64 k2, .int .i64 d2, .slice a2 z2.length cap2] 32) = V := ⟨_, rfl⟩
  rw [hW0] at r0 r1 hb0 hs0
  have hs := rtsame_any a1 cap1 z1 a2 cap2 z2 n₀ (by omega) W0 (hz1.below (hb0.mono hn₀)) (hz2.below (hb0.mono hn₀)) (by omega)
  have b0 := r0.cell (i := 0) rfl
  have b1 := r0.cell (i := 1) rfl
  have b2 := r0.cell (i := 2) rfl
  have c0 := r1.cell (i := 0) rfl
  have c1 := r1.cell (i := 1) rfl
  have c2 := r1.cell (i := 2) rfl
  have HB := hide hb0
  clear hb0 hs0
  have hd : sameM ⟨k1, d1, z1⟩ ⟨k2, d2, z2⟩ = ((k1 == k2 && d1 == d2) && sameB z1 z2) := rfl
  rw [hd]
  cases e1 : (k1 == k2) with
  | false =>
    go_enter Try.func14, Try.ntmps14
    go_wp2_with fail
    go_ret
    exact ⟨rfl, HB.out⟩
  | true =>
    cases e2 : (d1 == d2) with
    | false =>
      go_enter Try.func14, Try.ntmps14
      go_wp2_with fail
      go_ret
      exact ⟨rfl, HB.out⟩
    | true =>
      go_enter Try.func14, Try.ntmps14
      go_wp2_with fail
      refine hs.mono ?_
      rintro e w1 ⟨rfl, hb1⟩
      go_wp2_with fail
      go_ret
      exact ⟨rfl, HB.out.trans (hb1.mono HB.out.size)⟩
end Go.Proofs.Ytbnjbnjgfjpegaa
