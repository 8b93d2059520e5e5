/- How a slice of pairs that came in is opened for the walks. -/
import Derived.Test.YtbdigkjahfdmjaaDoorOpen
import Derived.Test.YtbdigkjahfdmjaaDoorReached
import Derived.Deep.SlicePairs
namespace Go.Proofs.YtbdigkjahfdmjaaDoor
open Go.ChangeShapes Go.WideShapes Go.ChangeAt Go.RowKit Go.Joins

def zOf : Value → Int | .int _ n => n | _ => 0
/-- what the walks are told of a slice of pairs that came in -/
theorem pairs_open {H : Type} {enc : TypeId × Value → H} {W : World} {fuel : Nat} {v : Value} {x : DataW H × List MemPlace}
    (h : DataW.trod enc Tryd.prog W 0 (fun _ => true) true fuel 22 [v] = some x) :
    ∃ (a : Option Addr) (cap : Nat) (ps : List (Int × Int)), v = .slice a ps.length cap ∧ ps.length ≤ 9223372036854775807 ∧ ZPairs W.heap.size W a ps := by
  rcases Deep.open_slice_pairs Tryd.underlying22 Tryd.underlying33 (by kernel_rfl) rfl rfl (by kernel_rfl) (by kernel_rfl) h with ⟨hcs, _⟩ | ⟨a, len, cap, m, n, V0, V1, D0, D1, P0, P1, hcs, _, hl, hm, hmm, _, hc⟩
  · simp at hcs
    exact ⟨none, 0, [], hcs, by simp, .inl rfl⟩
  · simp at hcs hmm
    have hlen : ((List.range len).map fun i => (zOf (V0 i), zOf (V1 i))).length = len := by simp
    refine ⟨some a, cap, (List.range len).map fun i => (zOf (V0 i), zOf (V1 i)), by rw [hlen]; exact hcs, by rw [hlen]; unfold maxLen at hm; omega, ?_⟩
    by_cases h0 : len = 0
    · exact .inl (by subst h0; simp)
    · obtain ⟨b, off, spot⟩ := a
      have hc0 := (hc 0 (by omega)).1
      have hspot : spot = none := by simpa [Addr.add] using World.cell?_spot hc0
      subst hspot
      refine .inr ⟨b, off, rfl, cell_lt hc0, fun i hi => ?_⟩
      rw [hlen] at hi
      obtain ⟨h1, h2, h3, h4⟩ := hc i (by omega)
      obtain ⟨z1, e1, _, _⟩ := DataW.trod_int Tryd.underlying3 h3
      obtain ⟨z2, e2, _, _⟩ := DataW.trod_int Tryd.underlying3 h4
      simp at e1 e2
      have ez : zp ((List.range len).map fun i => (zOf (V0 i), zOf (V1 i))) i = (z1, z2) := by
        unfold zp
        rw [List.getD_eq_getElem?_getD, List.getElem?_map, List.getElem?_range hi]
        simp [e1, e2, zOf]
      rw [ez]
      rw [e1] at h1
      rw [e2] at h2
      refine ⟨?_, ?_⟩
      · by_cases h5 : i = 0
        · subst h5; simpa [Addr.add] using h1
        · have h6 : ¬ i * 2 = 0 := by omega
          simpa [Addr.add, h6] using h1
      · simpa [Addr.add, Nat.add_assoc] using h2
end Go.Proofs.YtbdigkjahfdmjaaDoor
