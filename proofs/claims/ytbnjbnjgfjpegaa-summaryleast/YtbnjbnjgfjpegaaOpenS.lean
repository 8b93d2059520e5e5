/- How a summary, and a list of numbers, that came in are opened for the walks, with what they weigh. -/
import Derived.Test.YtbnjbnjgfjpegaaOpenZ
import Derived.Test.YtbnjbnjgfjpegaaSumArg
import Derived.SizedLaws
namespace Go.Proofs.Ytbnjbnjgfjpegaa
open Go.ChangeShapes Go.WideShapes Go.ChangeAt Go.RowKit Go.Joins

theorem zs_weigh {H : Type} {enc : TypeId × Value → H} {W : World} {fuel : Nat} {v : Value} {x : DataW H × List MemPlace}
    (h : DataW.trod enc Try.prog W 0 (fun _ => true) true fuel 30 [v] = some x) :
    ∃ (a : Option Addr) (cap : Nat) (zs : List Int), v = .slice a zs.length cap ∧ ZInts W.heap.size W a zs ∧ (a = none → cap = 0) ∧ zs.length ≤ cap ∧ (zs = [] ∨ ∃ e' sp', x.1 = DataW.slice e' sp' ∧ zs.length ≤ e'.length) := by
  rcases open_ints Try.underlying30 Try.underlying3 (by kernel_rfl) h with ⟨hcs, _⟩ | ⟨a, len, cap, zs, hcs, _, hl, hm, hz, hx, hcell, hwz⟩
  · simp at hcs
    exact ⟨none, 0, [], hcs, .inl rfl, fun _ => rfl, by simp, .inl rfl⟩
  · simp at hcs hz
    have hlen : (zs.take len).length = len := by simp; omega
    refine ⟨some a, cap, zs.take len, by rw [hlen]; exact hcs, ?_, (fun h => by cases h), by rw [hlen]; exact hl, .inr ⟨_, _, by rw [hx], by rw [hlen]; simp [lits]; omega⟩⟩
    by_cases h0 : len = 0
    · exact .inl (by subst h0; simp)
    · obtain ⟨b, off, spot⟩ := a
      have hc := hcell 0 (by omega)
      have hspot : spot = none := by simpa [Addr.add] using World.cell?_spot hc
      subst hspot
      refine .inr ⟨b, off, rfl, cell_lt hc, fun i hi => ?_⟩
      rw [hlen] at hi
      have hci := hcell i (by omega)
      have e : zd (zs.take len) i = zs.getD i 0 := by
        unfold zd
        rw [List.getD_eq_getElem?_getD, List.getElem?_take, if_pos hi, List.getD_eq_getElem?_getD]
      rw [e]
      by_cases h1 : i = 0
      · subst h1; simpa [Addr.add] using hci
      · simpa [Addr.add, h1] using hci

theorem cellsSummary : Try.prog.cellsOf 32 = 3 := by kernel_rfl
theorem bytesZ : Try.prog.bytesOf 3 = 8 := by kernel_rfl
theorem sum_weigh {H : Type} {enc : TypeId × Value → H} {W : World} {v : Value} {d : DataW H} {p : List MemPlace}
    (hv : Value.okWide Try.prog W .any 0 32 v) (h : DataW.Trod enc Try.prog W 0 (fun _ => true) true 32 v d p) :
    ∃ (k dd : Int) (a : Option Addr) (cap : Nat) (zs : List Int), v = .agg #[.int .i64 k, .int .i64 dd, .slice a zs.length cap] ∧ ZInts W.heap.size W a zs ∧ (a = none → cap = 0) ∧ zs.length ≤ cap ∧ (zs = [] ∨ ∃ e0 e1 e' sp', d = .agg [e0, e1, DataW.slice e' sp'] ∧ zs.length ≤ e'.length) := by
  obtain ⟨v0, v1, v2, y0, y1, y2, n, rfl, rfl, rfl, h0, h1, h2⟩ := open_agg3 Try.underlying32 (by kernel_rfl) cellsSummary hv h
  obtain ⟨k, e0, _, _⟩ := DataW.trod_int Try.underlying3 h0
  obtain ⟨dd, e1, _, _⟩ := DataW.trod_int Try.underlying3 h1
  simp at e0 e1
  subst e0 e1
  obtain ⟨a, cap, zs, rfl, hz, hn, hc, hw⟩ := zs_weigh h2
  exact ⟨k, dd, a, cap, zs, rfl, hz, hn, hc, hw.imp id fun ⟨e', sp', e, hl⟩ => ⟨y0.1, y1.1, e', sp', by rw [e], hl⟩⟩
/-- what comes in is no longer than the form's reach -/
theorem zs_reach {H : Type} {ts : List TypeId} {ds : List (DataW H)} {d : DataW H} {zs : List Int} (h : (DataW.weightsEach Try.prog ts ds).all (· ≤ reachBytes) = true) {j : Nat} (ht : ts[j]? = some 30) (hd : ds[j]? = some d)
    (hL : zs = [] ∨ ∃ e' sp', d = DataW.slice e' sp' ∧ zs.length ≤ e'.length) : zs.length ≤ 17592186044416 := by
  have hr : reachBytes ≤ 140737488355328 := by decide
  rcases hL with rfl | ⟨e', sp', rfl, hl⟩
  · simp
  · have h1 := sized_slice h ht hd Try.underlying30
    rw [bytesZ] at h1
    omega
theorem sum_reach {H : Type} {ts : List TypeId} {ds : List (DataW H)} {d : DataW H} {zs : List Int} (h : (DataW.weightsEach Try.prog ts ds).all (· ≤ reachBytes) = true) {j : Nat} (ht : ts[j]? = some 32) (hd : ds[j]? = some d)
    (hL : zs = [] ∨ ∃ e0 e1 e' sp', d = .agg [e0, e1, DataW.slice e' sp'] ∧ zs.length ≤ e'.length) : zs.length ≤ 17592186044416 := by
  have hr : reachBytes ≤ 140737488355328 := by decide
  rcases hL with rfl | ⟨e0, e1, e', sp', rfl, hl⟩
  · simp
  · have h2 := List.all_eq_true.1 h ((e'.length + sp'.length) * Try.prog.bytesOf 3) (DataW.weights_mem_each ht hd _ (by
      simp [DataW.weights, Try.underlying32, DataW.weightsEach, Try.underlying30]))
    rw [bytesZ] at h2
    have h3 := of_decide_eq_true h2
    omega
end Go.Proofs.Ytbnjbnjgfjpegaa
