/- A list of summaries that came in, opened together with what it weighs. -/
import Derived.Test.YtbnjbnjgfjpegaaOpenS
import Derived.Test.YtbnjbnjgfjpegaaLawSLeast
import Derived.Deep.Slices
import Derived.Deep.Strs
import Derived.Deep.Fields
namespace Go.Proofs.Ytbnjbnjgfjpegaa
open Go.ChangeShapes Go.WideShapes Go.ChangeAt Go.RowKit Go.Joins

/-- a summary's three cells -/
theorem one_sum {H : Type} {enc : TypeId × Value → H} {W : World} {fuel : Nat} {cs : List Value} {x : DataW H × List MemPlace}
    (h : DataW.trod enc Try.prog W 0 (fun _ => true) true fuel 32 cs = some x) :
    ∃ u : Su, cs = [.int .i64 u.k, .int .i64 u.d, .slice u.a u.z.length u.cap] ∧ ZInts W.heap.size W u.a u.z ∧ (u.a = none → u.cap = 0) ∧ (u.z = [] ∨ ∃ e0 e1 e' sp', x.1 = .agg [e0, e1, DataW.slice e' sp'] ∧ u.z.length ≤ e'.length) := by
  obtain ⟨y0, y1, y2, n, hx, hl, h0, h1, h2⟩ := Go.Deep.trod_struct3 Try.underlying32 h
  rw [cellsSummary] at hl
  match cs, hl with
  | [c0, c1, c2], _ =>
    have kI : Try.prog.cellsOf 3 = 1 := by kernel_rfl
    have kZ : Try.prog.cellsOf 30 = 1 := by kernel_rfl
    dsimp only at h0 h1 h2
    rw [kI] at h0 h1
    rw [kZ] at h2
    simp only [List.drop_zero, List.drop_succ_cons, List.take_succ_cons, List.take_zero] at h0 h1 h2
    obtain ⟨k, e0, _, _⟩ := DataW.trod_int Try.underlying3 h0
    obtain ⟨dd, e1, _, _⟩ := DataW.trod_int Try.underlying3 h1
    simp at e0 e1
    subst e0 e1
    obtain ⟨a, cap, zs, rfl, hz, hn, _, hw⟩ := zs_weigh h2
    exact ⟨⟨k, dd, a, cap, zs⟩, rfl, hz, hn, hw.imp id fun ⟨e', sp', e, hl'⟩ => ⟨y0.1, y1.1, e', sp', by rw [hx, e], hl'⟩⟩
/-- what the walks are told of a slice of summaries that came in, and what it weighs -/
theorem sums_weigh {H : Type} {enc : TypeId × Value → H} {W : World} {fuel : Nat} {v : Value} {x : DataW H × List MemPlace}
    (h : DataW.trod enc Try.prog W 0 (fun _ => true) true fuel 22 [v] = some x) :
    ∃ (a : Option Addr) (cap : Nat) (L : List Su), v = .slice a L.length cap ∧ ((∀ i, i < L.length → (nthU L i).z.length ≤ 17592186044416) → UArg W.heap.size W a L) ∧ (L = [] ∨ ∃ elems spare, x.1 = DataW.slice elems spare ∧ ∀ i, i < L.length → ((nthU L i).z = [] ∨ ∃ e0 e1 e' sp', DataW.agg [e0, e1, DataW.slice e' sp'] ∈ elems ∧ (nthU L i).z.length ≤ e'.length)) := by
  rcases Go.Deep.open_slice Try.underlying22 h with ⟨hcs, _⟩ | ⟨a, len, cap, m, n, D, Pl, hcs, _, hl, hm, hmm, hx, hV⟩
  · simp at hcs
    exact ⟨none, 0, [], hcs, fun _ => ⟨.inl rfl, fun i hi => absurd hi (by simp), by simp⟩, .inl rfl⟩
  · simp at hcs
    have hmc : m = cap := by simpa using hmm
    rw [cellsSummary] at hV
    have hS : ∀ i, ∃ s : Su, i < len → (∀ j, j < 3 → W.cell? ((a.add (i * 3)).add j) = ([.int .i64 s.k, .int .i64 s.d, .slice s.a s.z.length s.cap] : List Value)[j]?) ∧ ZInts W.heap.size W s.a s.z ∧ (s.a = none → s.cap = 0) ∧ (s.z = [] ∨ ∃ e0 e1 e' sp', D i = .agg [e0, e1, DataW.slice e' sp'] ∧ s.z.length ≤ e'.length) := fun i => by
      by_cases hi : i < len
      · obtain ⟨cs', h1, h2⟩ := hV i (by omega)
        obtain ⟨u, rfl, h3, h4, h5⟩ := one_sum h2
        obtain ⟨_, _, h6⟩ := World.cells?_some h1
        exact ⟨u, fun _ => ⟨h6, h3, h4, h5⟩⟩
      · exact ⟨su0, fun h => absurd h hi⟩
    obtain ⟨F, hF⟩ := Classical.axiomOfChoice hS
    have hlen : ((List.range len).map F).length = len := by simp
    have hnth : ∀ i, i < len → nthU ((List.range len).map F) i = F i := fun i hi => by
      unfold nthU; rw [List.getD_eq_getElem?_getD, List.getElem?_map, List.getElem?_range hi]; rfl
    refine ⟨some a, cap, (List.range len).map F, by rw [hlen]; exact hcs, fun hle => ⟨?_, fun i hi => ?_, by rw [hlen]; unfold maxLen at hm; omega⟩, .inr ⟨_, _, by rw [hx], fun i hi => ?_⟩⟩
    · by_cases h0 : len = 0
      · exact .inl (by subst h0; rfl)
      · obtain ⟨b, off, spot⟩ := a
        have hc := (hF 0 (by omega)).1 0 (by omega)
        have hspot : spot = none := by simpa [Addr.add] using World.cell?_spot hc
        subst hspot
        refine .inr ⟨b, off, rfl, ?_, fun i hi => ?_⟩
        · have hc0 := cell_lt hc
          simpa [Addr.add] using hc0
        · rw [hlen] at hi
          rw [hnth i hi]
          have c0 := (hF i hi).1 0 (by omega)
          have c1 := (hF i hi).1 1 (by omega)
          have c2 := (hF i hi).1 2 (by omega)
          by_cases h1 : i = 0
          · subst h1
            exact ⟨by simpa [Addr.add] using c0, by simpa [Addr.add] using c1, by simpa [Addr.add] using c2⟩
          · have h6 : ¬ i * 3 = 0 := by omega
            exact ⟨by simpa [Addr.add, h6] using c0, by simpa [Addr.add, h6] using c1, by simpa [Addr.add, h6] using c2⟩
    · have hi' := hi
      rw [hlen] at hi'
      have h7 := hle i hi
      rw [hnth i hi'] at h7 ⊢
      exact ⟨(hF i hi').2.1, h7, (hF i hi').2.2.1⟩
    · rw [hlen] at hi
      rw [hnth i hi]
      refine (hF i hi).2.2.2.imp id ?_
      rintro ⟨e0, e1, e', sp', h6, h7⟩
      exact ⟨e0, e1, e', sp', List.mem_map.2 ⟨i, List.mem_range.2 hi, h6⟩, h7⟩
/-- what one of the elements weighs, all of them weigh -/
theorem wall_memU {H : Type} {P : Program} {e : TypeId} {d : DataW H} {n : Nat} (hn : n ∈ d.weights P e) {l : List (DataW H)} (hd : d ∈ l) : n ∈ DataW.weightsAll P e l := by
  induction l with
  | nil => cases hd
  | cons d' r ih =>
    simp only [DataW.weightsAll, List.mem_append]
    cases hd with
    | head => exact .inl hn
    | tail _ h => exact .inr (ih h)
/-- none of its lists is longer than the form's reach -/
theorem sums_reach {H : Type} {ts : List TypeId} {ds : List (DataW H)} {d : DataW H} {L : List Su} (h : (DataW.weightsEach Try.prog ts ds).all (· ≤ reachBytes) = true) {j : Nat} (ht : ts[j]? = some 22) (hd : ds[j]? = some d)
    (hL : L = [] ∨ ∃ elems spare, d = DataW.slice elems spare ∧ ∀ i, i < L.length → ((nthU L i).z = [] ∨ ∃ e0 e1 e' sp', DataW.agg [e0, e1, DataW.slice e' sp'] ∈ elems ∧ (nthU L i).z.length ≤ e'.length)) :
    ∀ i, i < L.length → (nthU L i).z.length ≤ 17592186044416 := by
  have hr : reachBytes ≤ 140737488355328 := by decide
  rcases hL with rfl | ⟨elems, spare, rfl, hin⟩
  · exact fun i hi => absurd hi (by simp)
  · intro i hi
    rcases hin i hi with h0 | ⟨e0, e1, e', sp', hm, hle⟩
    · rw [h0]; simp
    · have h2 := List.all_eq_true.1 h ((e'.length + sp'.length) * Try.prog.bytesOf 3) (DataW.weights_mem_each ht hd _ (by
        simp only [DataW.weights, Try.underlying22, List.mem_cons, List.mem_append]
        exact .inr (.inl (wall_memU (by simp [DataW.weights, Try.underlying32, DataW.weightsEach, Try.underlying30]) hm))))
      rw [bytesZ] at h2
      have h3 := of_decide_eq_true h2
      omega
end Go.Proofs.Ytbnjbnjgfjpegaa
