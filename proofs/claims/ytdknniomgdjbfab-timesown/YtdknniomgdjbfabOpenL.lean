/- How a list of lists of numbers that came in is opened for the walks. -/
import Derived.Test.YtdknniomgdjbfabOpenZ
import Derived.Test.YtdknniomgdjbfabZList
import Derived.Deep.Slices
namespace Go.Proofs.Ytdknniomgdjbfab
open Go.ChangeShapes Go.WideShapes Go.ChangeAt Go.RowKit Go.Joins

theorem cellsZs : Try.prog.cellsOf 23 = 1 := by kernel_rfl
/-- what the walks are told of a slice of slices of numbers that came in -/
theorem lists_open {H : Type} {enc : TypeId × Value → H} {W : World} {fuel : Nat} {v : Value} {x : DataW H × List MemPlace}
    (h : DataW.trod enc Try.prog W 0 (fun _ => true) true fuel 22 [v] = some x) :
    ∃ (a : Option Addr) (cap : Nat) (L : List Sl), v = .slice a L.length cap ∧ L.length ≤ 9223372036854775807 ∧ ZLists W.heap.size W a L := by
  rcases Go.Deep.open_slice1 Try.underlying22 cellsZs h with ⟨hcs, _⟩ | ⟨a, len, cap, m, n, V, D, Pl, hcs, _, hl, hm, hmm, _, hV⟩
  · simp at hcs
    exact ⟨none, 0, [], hcs, by simp, .inl rfl, fun i hi => absurd hi (by simp)⟩
  · simp at hcs
    have hmc : m = cap := by simpa using hmm
    have hS : ∀ i, ∃ s : Sl, i < len → V i = slv s ∧ s.zs.length ≤ 9223372036854775807 ∧ ZInts W.heap.size W s.a s.zs := fun i => by
      by_cases hi : i < len
      · obtain ⟨a', cap', zs, h1, h2, h3⟩ := zints_open (hV i (by omega)).2
        exact ⟨⟨a', cap', zs⟩, fun _ => ⟨h1, h2, h3⟩⟩
      · exact ⟨sl0, fun h => absurd h hi⟩
    obtain ⟨F, hF⟩ := Classical.axiomOfChoice hS
    have hlen : ((List.range len).map F).length = len := by simp
    have hnth : ∀ i, i < len → nth ((List.range len).map F) i = F i := fun i hi => by
      unfold nth; rw [List.getD_eq_getElem?_getD, List.getElem?_map, List.getElem?_range hi]; rfl
    refine ⟨some a, cap, (List.range len).map F, by rw [hlen]; exact hcs, by rw [hlen]; unfold maxLen at hm; omega, ?_, fun i hi => ?_⟩
    · by_cases h0 : len = 0
      · exact .inl (by subst h0; rfl)
      · obtain ⟨b, off, spot⟩ := a
        have hc := (hV 0 (by omega)).1
        have hspot : spot = none := by simpa [Addr.add] using World.cell?_spot hc
        subst hspot
        refine .inr ⟨b, off, rfl, ?_, fun i hi => ?_⟩
        · have hc0 := cell_lt hc
          simpa [Addr.add] using hc0
        · rw [hlen] at hi
          have hci := (hV i (by omega)).1
          rw [hnth i hi, ← (hF i hi).1]
          by_cases h1 : i = 0
          · subst h1; simpa [Addr.add] using hci
          · simpa [Addr.add, h1] using hci
    · rw [hlen] at hi
      rw [hnth i hi]
      exact ⟨(hF i hi).2.2, (hF i hi).2.1⟩
/-- what the walks are told of a slice of slices of numbers that came in -/
theorem lists_open2 {H : Type} {enc : TypeId × Value → H} {W : World} {fuel : Nat} {v : Value} {x : DataW H × List MemPlace}
    (h : DataW.trod enc Try.prog W 0 (fun _ => true) true fuel 22 [v] = some x) :
    ∃ (a : Option Addr) (cap : Nat) (L : List Sl), v = .slice a L.length cap ∧ L.length ≤ 9223372036854775807 ∧ ZLists W.heap.size W a L ∧ (a = none → cap = 0) := by
  rcases Go.Deep.open_slice1 Try.underlying22 cellsZs h with ⟨hcs, _⟩ | ⟨a, len, cap, m, n, V, D, Pl, hcs, _, hl, hm, hmm, _, hV⟩
  · simp at hcs
    exact ⟨none, 0, [], hcs, by simp, ⟨.inl rfl, fun i hi => absurd hi (by simp)⟩, fun _ => rfl⟩
  · simp at hcs
    have hmc : m = cap := by simpa using hmm
    have hS : ∀ i, ∃ s : Sl, i < len → V i = slv s ∧ s.zs.length ≤ 9223372036854775807 ∧ ZInts W.heap.size W s.a s.zs := fun i => by
      by_cases hi : i < len
      · obtain ⟨a', cap', zs, h1, h2, h3⟩ := zints_open (hV i (by omega)).2
        exact ⟨⟨a', cap', zs⟩, fun _ => ⟨h1, h2, h3⟩⟩
      · exact ⟨sl0, fun h => absurd h hi⟩
    obtain ⟨F, hF⟩ := Classical.axiomOfChoice hS
    have hlen : ((List.range len).map F).length = len := by simp
    have hnth : ∀ i, i < len → nth ((List.range len).map F) i = F i := fun i hi => by
      unfold nth; rw [List.getD_eq_getElem?_getD, List.getElem?_map, List.getElem?_range hi]; rfl
    refine ⟨some a, cap, (List.range len).map F, by rw [hlen]; exact hcs, by rw [hlen]; unfold maxLen at hm; omega, ⟨?_, fun i hi => ?_⟩, fun h => by cases h⟩
    · by_cases h0 : len = 0
      · exact .inl (by subst h0; rfl)
      · obtain ⟨b, off, spot⟩ := a
        have hc := (hV 0 (by omega)).1
        have hspot : spot = none := by simpa [Addr.add] using World.cell?_spot hc
        subst hspot
        refine .inr ⟨b, off, rfl, ?_, fun i hi => ?_⟩
        · have hc0 := cell_lt hc
          simpa [Addr.add] using hc0
        · rw [hlen] at hi
          have hci := (hV i (by omega)).1
          rw [hnth i hi, ← (hF i hi).1]
          by_cases h1 : i = 0
          · subst h1; simpa [Addr.add] using hci
          · simpa [Addr.add, h1] using hci
    · rw [hlen] at hi
      rw [hnth i hi]
      exact ⟨(hF i hi).2.2, (hF i hi).2.1⟩
end Go.Proofs.Ytdknniomgdjbfab
