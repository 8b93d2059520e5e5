/- How a list of numbers of 64 bits that came in is opened for the walks. -/
import Derived.Test.YtilffmalkegioaaDoorOpenInts
import Derived.OpenShut
import Derived.Test.YtilffmalkegioaaDoorMobMem
namespace Go.Proofs.YtilffmalkegioaaDoor
open Go.ChangeShapes Go.WideShapes Go.ChangeAt Go.RowKit Go.Joins

/-- what the walks are told of a slice of such numbers that came in -/
theorem longs_open {H : Type} {enc : TypeId × Value → H} {W : World} {fuel : Nat} {v : Value} {x : DataW H × List MemPlace}
    (h : DataW.trod enc Tryd.prog W 0 (fun _ => true) true fuel 25 [v] = some x) :
    ∃ (a : Option Addr) (cap : Nat) (l : List B64), v = .slice a l.length cap ∧ l.length ≤ 9223372036854775807 ∧ ZInts W.heap.size W a (tiL l) := by
  rcases open_ints Tryd.underlying25 Tryd.underlying2 (by kernel_rfl) h with ⟨hcs, _⟩ | ⟨a, len, cap, zs, hcs, _, hl, hm, hz, _, hcell, hwz⟩
  · simp at hcs
    exact ⟨none, 0, [], hcs, by simp, .inl rfl⟩
  · simp at hcs hz
    have hlen : (zs.take len).length = len := by simp; omega
    have hti : tiL ((zs.take len).map (BitVec.ofInt 64)) = zs.take len := tiL_ofInt fun z hz => bounds_i64 (hwz z (List.mem_of_mem_take hz))
    have hl2 : ((zs.take len).map (BitVec.ofInt 64)).length = len := by rw [List.length_map, hlen]
    refine ⟨some a, cap, (zs.take len).map (BitVec.ofInt 64), by rw [hl2]; exact hcs, by rw [hl2]; unfold maxLen at hm; omega, ?_⟩
    rw [hti]
    by_cases h0 : len = 0
    · exact .inl (by subst h0; simp)
    · obtain ⟨b, off, spot⟩ := a
      have hc := hcell 0 (by omega)
      have hspot : spot = none := by simpa [Addr.add] using World.cell?_spot hc
      subst hspot
      refine .inr ⟨b, off, rfl, World.block_lt_of_cell? _ _ hc, fun i hi => ?_⟩
      rw [hlen] at hi
      have hci := hcell i (by omega)
      have e : zd (zs.take len) i = zs.getD i 0 := by
        unfold zd
        rw [List.getD_eq_getElem?_getD, List.getElem?_take, if_pos hi, List.getD_eq_getElem?_getD]
      rw [e]
      by_cases h1 : i = 0
      · subst h1; simpa [Addr.add] using hci
      · simpa [Addr.add, h1] using hci
end Go.Proofs.YtilffmalkegioaaDoor
