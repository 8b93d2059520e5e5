/- How an order that came in is opened for the walks: its words in memory; and the table of math/bits as the row lists it. -/
import Derived.Test.YtjbfjdijgfhjfaaDoorRows
import Derived.Test.YtjbfjdijgfhjfaaDoorMarks
import Derived.ProofKit
import Derived.LaidMore
import Derived.OpenShut
import Derived.Stop.Joined
import Derived.Lib.SmallJoins
import Derived.Lib.LaidTab
import Derived.ChangeOld
import Derived.Below
namespace Go.Proofs.YtjbfjdijgfhjfaaDoor
open Go.ChangeShapes Go.WideShapes Go.ChangeAt Go.RowKit Go.Joins

theorem own : ownKnob Tryd.prog.godebug = none := by kernel_rfl
theorem laidOut : laidOutB Tryd.prog = true := by kernel_rfl
/-- the name of the one variable that the rows list -/
def tabName : String := match Rows.mobiusDownsRow.named with | x :: _ => x | [] => ""
theorem gTab : Tryd.prog.globalNamed tabName = some 0 := by kernel_rfl
theorem tTab : (Tryd.prog.globals[0]?).map (·.type) = some 90 := by kernel_rfl
theorem cellsOrder : Tryd.prog.cellsOf 24 = 2 := by kernel_rfl
/-- the list of the rows' own cell -/
def laid1 : List (String × DataW Unit) := Rows.mobiusDownsRow.laid
def tabZ : List Int := Lib.deBruijn64tab.map fun (n : Nat) => (n : Int)
theorem tab_eq : (Rows.laid_math_bits_deBruijn64tab : DataW Unit) = Lib.tabData .u8 tabZ := rfl

theorem door_met (os : Os) (args : Array Value) : laidMetH Tryd.prog laid1 ((World.doorLaid Tryd.prog 400 os).forCall (fun _ _ => 0) ⟨#[], args, []⟩).memory :=
  laidMetH_of_parts3 (fuel := 8) (laidMet_of_run' 8 (by kernel_rfl) (by kernel_rfl)) (by kernel_rfl) (by kernel_rfl)

theorem of_laid {W : World} (h : laidMetH Tryd.prog laid1 W) : TabAt W := by
  rw [MakeChecks.laidMetH_plain _ _ _ (by kernel_rfl)] at h
  obtain ⟨ps, ⟨g0, t0, cs0, f0, p0, q0, hg0, ht0, hv0, hd0, _, _⟩, _, _⟩ := h
  obtain rfl := Option.some.inj (gTab.symm.trans hg0)
  obtain rfl := Option.some.inj (tTab.symm.trans ht0)
  rw [tab_eq] at hd0
  have hcs := Lib.cells_of_tab Tryd.underlying90 Tryd.underlying5 (by kernel_rfl) (by kernel_rfl) hd0
  intro j hj
  have := World.var?_cell hg0 hv0 j
  rw [this, ← Array.getElem?_toList, hcs]
  have hl : Lib.deBruijn64tab.length = 64 := by decide
  unfold tabZ
  rw [List.getElem?_map, List.getElem?_map, List.getD_eq_getElem?_getD, List.getElem?_eq_getElem (by omega)]
  rfl
theorem cell_lt {W : World} {a : Addr} {v : Value} (h : W.cell? a = some v) : a.block < W.heap.size := by
  apply Nat.lt_of_not_le
  intro hle
  unfold World.cell? at h
  rw [Array.getElem?_eq_none hle] at h
  simp at h

/-- the numbers of a list of words are words -/
theorem fit_of {zs : List Int} (h : ∀ n ∈ zs, (Lit.int .u32 n).wf = true) (len : Nat) : Fit ((zs.take len).map Int.toNat) := by
  intro i
  unfold wd
  rw [List.getD_eq_getElem?_getD, List.getElem?_map]
  cases hz : (zs.take len)[i]? with
  | none => simp
  | some z =>
    have hm : z ∈ zs := List.mem_of_mem_take (List.mem_of_getElem? hz)
    have hw := bounds_u32 (h z hm)
    simp
    omega

/-- what the walks are told of a slice of words that came in -/
theorem words_open {H : Type} {enc : TypeId × Value → H} {W : World} {fuel : Nat} {v : Value} {x : DataW H × List MemPlace}
    (h : DataW.trod enc Tryd.prog W 0 (fun _ => true) true fuel 22 [v] = some x) :
    ∃ a cap us, v = .slice a us.length cap ∧ Fit us ∧ IsWords W.heap.size W a us := by
  rcases open_ints Tryd.underlying22 Tryd.underlying50 (by kernel_rfl) h with ⟨hcs, _⟩ | ⟨a, len, cap, zs, hcs, _, hl, hm, hz, _, hcell, hwz⟩
  · simp at hcs
    exact ⟨none, 0, [], hcs, fun i => by simp [wd], .inl rfl⟩
  · simp at hcs hz
    have hlen : ((zs.take len).map Int.toNat).length = len := by simp; omega
    refine ⟨some a, cap, (zs.take len).map Int.toNat, by rw [hlen]; exact hcs, fit_of hwz len, ?_⟩
    by_cases h0 : len = 0
    · exact .inl (by subst h0; simp)
    · obtain ⟨b, off, spot⟩ := a
      have hc := hcell 0 (by omega)
      have hspot : spot = none := by simpa [Addr.add] using World.cell?_spot hc
      subst hspot
      refine .inr ⟨b, off, rfl, cell_lt hc, fun i hi => ?_⟩
      rw [hlen] at hi
      have hci := hcell i (by omega)
      have hzi : zs[i]? = some (zs[i]'(by omega)) := List.getElem?_eq_getElem (by omega)
      have hw := bounds_u32 (hwz _ (List.getElem_mem (h := by omega) : zs[i]'(by omega) ∈ zs))
      have e : ((wd ((zs.take len).map Int.toNat) i : Nat) : Int) = zs.getD i 0 := by
        unfold wd
        rw [List.getD_eq_getElem?_getD, List.getElem?_map, List.getElem?_take, if_pos hi, List.getD_eq_getElem?_getD, hzi]
        simp
        omega
      rw [e]
      by_cases h1 : i = 0
      · subst h1; simpa [Addr.add] using hci
      · simpa [Addr.add, h1] using hci
end Go.Proofs.YtjbfjdijgfhjfaaDoor
