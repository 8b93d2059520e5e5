/- The words of the order upside down, as far as they are turned: plain. -/
import Derived.Test.YtbnjbnjgfjpegaaMarks
import Derived.Test.YtbnjbnjgfjpegaaPlain
import Derived.Test.YtbnjbnjgfjpegaaQuietRound
namespace Go.Proofs.Ytbnjbnjgfjpegaa
open Go.RowKit Go.Shelf

theorem info_u32 : (Try.prog.info? 62).map (fun i => (i.zero, i.size, i.bytes)) = some (some (.int .u32 0), 1, 4) := by kernel_rfl

/-- ds has been turned as far as row k of us, and there at pre -/
structure Tur (us : List Nat) (k : Nat) (pre : List Nat) (ds : List Nat) : Prop where
  len : ds.length = us.length
  fit : Fit ds
  has : ∀ j, j < us.length → ∀ i, hasB (wd ds j) i = ((decide (i < k) && hasB (wd us i) j) || (decide (i = k) && decide (j ∈ pre)))
theorem Tur.start (us : List Nat) : Tur us 0 [] (List.replicate us.length 0) :=
  ⟨by simp, fun i => by rw [wd_replicate]; decide, fun j _ i => by rw [wd_replicate, hasB_zero]; simp⟩
theorem Tur.step {us : List Nat} {k : Nat} {pre ds : List Nat} {j : Nat} (h : Tur us k pre ds) (hj : j < us.length) (hk : k < 32) : Tur us k (pre ++ [j]) (ds.set j (orW (wd ds j) (bitW k))) := by
  have hjd : j < ds.length := by rw [h.len]; exact hj
  refine ⟨by simp [h.len], fun i => ?_, fun j' hj' i => ?_⟩
  · rw [wd_set hjd]; split
    · exact orW_lt (h.fit j) (bitW_lt hk)
    · exact h.fit i
  · rw [wd_set hjd]
    by_cases e : j = j'
    · subst e; rw [if_pos rfl, hasB_or, hasB_bitW, h.has j hj]
      by_cases e2 : i = k
      · subst e2; simp
      · have : ¬ k = i := fun e => e2 e.symm
        simp [e2, this]
    · rw [if_neg e, h.has j' hj']
      have : ¬ j' = j := fun e' => e e'.symm
      simp [this]
theorem Tur.next {us : List Nat} {k : Nat} {pre ds : List Nat} (h : Tur us k pre ds) (hp : ∀ j, j ∈ pre ↔ hasB (wd us k) j = true) : Tur us (k + 1) [] ds := by
  refine ⟨h.len, h.fit, fun j hj i => ?_⟩
  rw [h.has j hj]
  by_cases e : i = k
  · subst e
    cases hb : hasB (wd us i) j with
    | true => simp [(hp j).2 hb]
    | false => have : ¬ j ∈ pre := fun hm => by rw [(hp j).1 hm] at hb; cases hb
               simp [this]
  · have : (i < k + 1) ↔ i < k := by omega
    simp [e, this]
end Go.Proofs.Ytbnjbnjgfjpegaa
