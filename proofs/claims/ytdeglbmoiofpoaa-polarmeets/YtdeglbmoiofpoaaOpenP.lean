/- How a context that came in is opened for the walks: its words in memory. -/
import Derived.Test.YtdeglbmoiofpoaaRows
import Derived.Test.YtdeglbmoiofpoaaMarks
import Derived.ProofKit
import Derived.OpenShut
import Derived.Stop.Joined
import Derived.Lib.SmallJoins
import Derived.ChangeOld
import Derived.Below
import Derived.Handed
namespace Go.Proofs.Ytdeglbmoiofpoaa
open Go.ChangeShapes Go.WideShapes Go.ChangeAt Go.RowKit Go.Joins

theorem own : ownKnob Try.prog.godebug = none := by kernel_rfl
theorem laidOut : laidOutB Try.prog = true := by kernel_rfl
theorem cellsContext : Try.prog.cellsOf 24 = 2 := by kernel_rfl
theorem cell_lt {W : World} {a : Addr} {v : Value} (h : W.cell? a = some v) : a.block < W.heap.size := by
  apply Nat.lt_of_not_le
  intro hle
  unfold World.cell? at h
  rw [Array.getElem?_eq_none hle] at h
  simp at h

/-- the numbers of a list of words are words -/
theorem fit_of {zs : List Int} (h : ∀ n ∈ zs, (Lit.int .u32 n).wf = true) (len : Nat) : Fit ((zs.take len).map Int.toNat) := by
  intro i
  unfold wd
  rw [List.getD_eq_getElem?_getD, List.getElem?_map]
  cases hz : (zs.take len)[i]? with
  | none => simp
  | some z =>
    have hm : z ∈ zs := List.mem_of_mem_take (List.mem_of_getElem? hz)
    have hw := bounds_u32 (h z hm)
    simp
    omega

/-- what the walks are told of a slice of words that came in -/
theorem words_open {H : Type} {enc : TypeId × Value → H} {W : World} {fuel : Nat} {v : Value} {x : DataW H × List MemPlace}
    (h : DataW.trod enc Try.prog W 0 (fun _ => true) true fuel 22 [v] = some x) :
    ∃ a cap us, v = .slice a us.length cap ∧ Fit us ∧ IsWords W.heap.size W a us := by
  rcases open_ints Try.underlying22 Try.underlying31 (by kernel_rfl) h with ⟨hcs, _⟩ | ⟨a, len, cap, zs, hcs, _, hl, hm, hz, _, hcell, hwz⟩
  · simp at hcs
    exact ⟨none, 0, [], hcs, fun i => by simp [wd], .inl rfl⟩
  · simp at hcs hz
    have hlen : ((zs.take len).map Int.toNat).length = len := by simp; omega
    refine ⟨some a, cap, (zs.take len).map Int.toNat, by rw [hlen]; exact hcs, fit_of hwz len, ?_⟩
    by_cases h0 : len = 0
    · exact .inl (by subst h0; simp)
    · obtain ⟨b, off, spot⟩ := a
      have hc := hcell 0 (by omega)
      have hspot : spot = none := by simpa [Addr.add] using World.cell?_spot hc
      subst hspot
      refine .inr ⟨b, off, rfl, cell_lt hc, fun i hi => ?_⟩
      rw [hlen] at hi
      have hci := hcell i (by omega)
      have hzi : zs[i]? = some (zs[i]'(by omega)) := List.getElem?_eq_getElem (by omega)
      have hw := bounds_u32 (hwz _ (List.getElem_mem (h := by omega) : zs[i]'(by omega) ∈ zs))
      have e : ((wd ((zs.take len).map Int.toNat) i : Nat) : Int) = zs.getD i 0 := by
        unfold wd
        rw [List.getD_eq_getElem?_getD, List.getElem?_map, List.getElem?_take, if_pos hi, List.getD_eq_getElem?_getD, hzi]
        simp
        omega
      rw [e]
      by_cases h1 : i = 0
      · subst h1; simpa [Addr.add] using hci
      · simpa [Addr.add, h1] using hci
end Go.Proofs.Ytdeglbmoiofpoaa
