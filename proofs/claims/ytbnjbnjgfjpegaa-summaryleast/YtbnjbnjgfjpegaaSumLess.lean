/- The closure of package summary's Least; summaries whose slices are a call's own. -/
import Derived.Test.YtbnjbnjgfjpegaaSumIdx
import Derived.Test.YtbnjbnjgfjpegaaSumLeq
import Derived.Test.YtbnjbnjgfjpegaaSumArg
namespace Go.Proofs.Ytbnjbnjgfjpegaa
open Go.RowKit Go.Shelf

/-- a summary lies in block q -/
def BoxU (W : World) (q : Nat) (u : Su) : Prop := Row W q 32 [.int .i64 u.k, .int .i64 u.d, .slice u.a u.z.length u.cap]
theorem BoxU.below {n : Nat} {A B : World} {q : Nat} {u : Su} (h : BoxU A q u) (hb : Below n A B) (hq : q < n) : BoxU B q u := row_below h hb hq
set_option maxRecDepth 100000 in
set_option maxHeartbeats 1000000 in
theorem sless1_any (q : Nat) (s r : Su) (n₀ : Nat) (hs : s.z.length ≤ 17592186044416) (hr : r.z.length ≤ 17592186044416) (w : World) (hq : BoxU w q r) (hzs : ZInts n₀ w s.a s.z) (hzr : ZInts n₀ w r.a r.z) (hn₀ : n₀ ≤ w.heap.size) :
    Calls Try.prog 25 #[s.val, .pointer (some ⟨q, 0, none⟩)] w fun e w' => e = .returned (.bool (leqM s.sm r.sm)) ∧ Below w.heap.size w w' := by
  obtain ⟨k1, d1, a1, c1, z1⟩ := s
  obtain ⟨k2, d2, a2, c2, z2⟩ := r
  unfold BoxU at hq
  unfold Su.val Su.sm
  dsimp only at *
  have hb0 : Below w.heap.size w (w.alloc (.cells #[.int .i64 k1, .int .i64 d1, .slice a1 z1.length c1] 32)) := (Below.refl _ _).alloc (Nat.le_refl _) _
  have h1 := sleq_any k1 d1 a1 c1 z1 k2 d2 a2 c2 z2 n₀ hs hr _ (hzs.below (hb0.mono hn₀)) (hzr.below (hb0.mono hn₀)) (by simp; omega)
  have lq := hq.lt
  have q0 := hq.cell (i := 0) rfl
  have q1 := hq.cell (i := 1) rfl
  have q2 := hq.cell (i := 2) rfl
  generalize leqM ⟨k1, d1, z1⟩ ⟨k2, d2, z2⟩ = b at *
  clear hzs hzr hq
  go_enter Try.func25, Try.ntmps25
  go_wp2_with fail
  with_reducible refine h1.mono ?_
  rintro e w' ⟨rfl, hb⟩
  go_wp2_with fail
  go_ret
  exact ⟨rfl, hb0.trans (hb.mono (by simp))⟩
/-- each of the slices is a call's own -/
def InFU (base : Nat) (W : World) (S : List Su) : Prop := ∀ i, i < S.length → W.ownsRow base 3 1 (.slice (nthU S i).a (nthU S i).z.length (nthU S i).cap) (nthU S i).z.length (zvals (nthU S i).z) ∧ (nthU S i).z.length ≤ 4
theorem InFU.nil (base : Nat) (W : World) : InFU base W [] := fun i hi => absurd hi (by simp)
theorem InFU.inner {base : Nat} {W : World} {S : List Su} (h : InFU base W S) : InnerU W.heap.size W S := fun i hi => by
  obtain ⟨h1, h2⟩ := h i hi
  have ha := own_arg h1 (by omega)
  exact ⟨ha.lies, by omega, ha.nil⟩
theorem InFU.below {base : Nat} {A B : World} {S : List Su} (h : InFU base A S) (hb : Below A.heap.size A B) : InFU base B S := fun i hi => ⟨ownsRow_below (h i hi).1 hb, (h i hi).2⟩
theorem nthU_snoc_lt {S : List Su} {s : Su} {i : Nat} (h : i < S.length) : nthU (S ++ [s]) i = nthU S i := by
  unfold nthU; rw [List.getD_eq_getElem?_getD, List.getD_eq_getElem?_getD, List.getElem?_append_left h]
theorem nthU_snoc_eq {S : List Su} {s : Su} : nthU (S ++ [s]) S.length = s := by
  unfold nthU; rw [List.getD_eq_getElem?_getD, List.getElem?_append_right (Nat.le_refl _)]; simp
theorem InFU.snoc {base : Nat} {W : World} {S : List Su} {s : Su} (h : InFU base W S) (hs : W.ownsRow base 3 1 (.slice s.a s.z.length s.cap) s.z.length (zvals s.z) ∧ s.z.length ≤ 4) : InFU base W (S ++ [s]) := fun i hi => by
  by_cases e : i < S.length
  · rw [nthU_snoc_lt e]; exact h i e
  · have : i = S.length := by rw [List.length_append] at hi; simp at hi; omega
    subst this
    rw [nthU_snoc_eq]; exact hs
end Go.Proofs.Ytbnjbnjgfjpegaa
