/- The contracts of the document's SummarySame and SummaryApply. -/
import Derived.Test.YtfigdkikkociaabSumApply
namespace Go.Proofs.Ytfigdkikkociaab
open Go.RowKit Go.Shelf

/-- are two summaries the same? -/
def sameM (s r : Sm) : Bool := (s.k == r.k && s.d == r.d) && sameB s.z r.z
theorem sameM_true {s r : Sm} : sameM s r = true ↔ s = r := by
  unfold sameM
  rw [Bool.and_eq_true, Bool.and_eq_true, beq_iff_eq, beq_iff_eq, sameB_true]
  constructor
  · rintro ⟨⟨h1, h2⟩, h3⟩; exact Sm.ext' h1 h2 h3
  · rintro rfl; exact ⟨⟨rfl, rfl⟩, rfl⟩
theorem sameM_false {s r : Sm} : sameM s r = false ↔ s ≠ r := by rw [Ne, ← sameM_true, Bool.not_eq_true]

set_option maxRecDepth 100000 in
set_option maxHeartbeats 1000000 in
theorem rssame_any (k1 d1 : Int) (a1 : Option Addr) (cap1 : Nat) (z1 : List Int) (k2 d2 : Int) (a2 : Option Addr) (cap2 : Nat) (z2 : List Int) (n₀ : Nat) (h1 : z1.length ≤ 17592186044416) (w : World) (hz1 : ZInts n₀ w a1 z1) (hz2 : ZInts n₀ w a2 z2) (hn₀ : n₀ ≤ w.heap.size) :
    Calls Try.prog 10 #[.agg #[.int .i64 k1, .int .i64 d1, .slice a1 z1.length cap1], .agg #[.int .i64 k2, .int .i64 d2, .slice a2 z2.length cap2]] w fun e w' => e = .returned (.bool (sameM ⟨k1, d1, z1⟩ ⟨k2, d2, z2⟩)) ∧ Below w.heap.size w w' := by
  obtain ⟨r0, r1, hb0, hs0⟩ := sum_rows w (.int .i64 k1) (.int .i64 d1) (.slice a1 z1.length cap1) (.int .i64 k2) (.int .i64 d2) (.slice a2 z2.length cap2) rfl
  obtain ⟨W0, hW0⟩ : ∃ V, (w.alloc (.cells #[.int .i64 k1, .int .i64 d1, .slice a1 z1.length cap1] 24)).alloc (.cells #[.int .i64 k2, .int .i64 d2, .slice a2 z2.length cap2] 24) = V := ⟨_, rfl⟩
  rw [hW0] at r0 r1 hb0 hs0
  have hs := rtsame_any a1 cap1 z1 a2 cap2 z2 n₀ (by omega) W0 (hz1.below (hb0.mono hn₀)) (hz2.below (hb0.mono hn₀)) (by omega)
  have b0 := r0.cell (i := 0) rfl
  have b1 := r0.cell (i := 1) rfl
  have b2 := r0.cell (i := 2) rfl
  have c0 := r1.cell (i := 0) rfl
  have c1 := r1.cell (i := 1) rfl
  have c2 := r1.cell (i := 2) rfl
  have HB := hide hb0
  clear hb0 hs0
  have hd : sameM ⟨k1, d1, z1⟩ ⟨k2, d2, z2⟩ = ((k1 == k2 && d1 == d2) && sameB z1 z2) := rfl
  rw [hd]
  cases e1 : (k1 == k2) with
  | false =>
    go_enter Try.func10, Try.ntmps10
    go_wp2_with fail
    go_ret
    exact ⟨rfl, HB.out⟩
  | true =>
    cases e2 : (d1 == d2) with
    | false =>
      go_enter Try.func10, Try.ntmps10
      go_wp2_with fail
      go_ret
      exact ⟨rfl, HB.out⟩
    | true =>
      go_enter Try.func10, Try.ntmps10
      go_wp2_with fail
      refine hs.mono ?_
      rintro e w1 ⟨rfl, hb1⟩
      go_wp2_with fail
      go_ret
      exact ⟨rfl, HB.out.trans (hb1.mono HB.out.size)⟩

/-- what is too great is the last number that is kept -/
theorem over_of {s : Sm} {t : List Int} (ht : codeT t = 0) (g : Good s t.length) {j : Nat} (hj : j < s.out) (h : 1048576 < zd (makeS s t) j) : overS s t = true := by
  rw [zd_makeS hj] at h
  have ha := g.at0 hj
  have hk := g.kn
  rw [overS_true]
  by_cases c : (j : Int) < s.k
  · rw [if_pos c] at h
    have hz := zd_time ht (i := j) (by omega)
    by_cases c2 : (j : Int) + 1 = s.k
    · rw [Sm.at_add c2] at h
      rw [show s.k.toNat - 1 = j by omega]; omega
    · rw [Sm.at_keep (by omega)] at h; omega
  · rw [if_neg c] at h; omega
theorem over_no {s : Sm} {t : List Int} (g : Good s t.length) (h : ∀ j, j < s.out → zd (makeS s t) j ≤ 1048576) : overS s t = false := by
  have hk := g.k1
  have h1 := h (s.k.toNat - 1) (by unfold Sm.out; omega)
  rw [zd_makeS (by unfold Sm.out; omega), if_pos (by omega), Sm.at_add (by omega)] at h1
  rw [overS_false]; omega
theorem take_snoc_z {l : List Int} {j : Nat} (h : j < l.length) : l.take (j + 1) = l.take j ++ [zd l j] := by
  rw [List.take_succ_eq_append_getElem h]
  congr 2
  unfold zd
  rw [List.getD_eq_getElem?_getD, List.getElem?_eq_getElem h]; rfl

end Go.Proofs.Ytfigdkikkociaab
