/- A list of lists of numbers that came in, opened together with what it weighs. -/
import Derived.Test.YtdknniomgdjbfabOpenL
import Derived.SizedLaws
namespace Go.Proofs.Ytdknniomgdjbfab
open Go.ChangeShapes Go.WideShapes Go.ChangeAt Go.RowKit Go.Joins

theorem zints_weigh {H : Type} {enc : TypeId × Value → H} {W : World} {fuel : Nat} {v : Value} {x : DataW H × List MemPlace}
    (h : DataW.trod enc Try.prog W 0 (fun _ => true) true fuel 23 [v] = some x) :
    ∃ (a : Option Addr) (cap : Nat) (zs : List Int), v = .slice a zs.length cap ∧ zs.length ≤ 9223372036854775807 ∧ ZInts W.heap.size W a zs ∧ (a = none → cap = 0) ∧ (zs = [] ∨ ∃ e' sp', x.1 = DataW.slice e' sp' ∧ zs.length ≤ e'.length) := by
  rcases open_ints Try.underlying23 Try.underlying3 (by kernel_rfl) h with ⟨hcs, _⟩ | ⟨a, len, cap, zs, hcs, _, hl, hm, hz, hx, hcell, hwz⟩
  · simp at hcs
    exact ⟨none, 0, [], hcs, by simp, .inl rfl, fun _ => rfl, .inl rfl⟩
  · simp at hcs hz
    have hlen : (zs.take len).length = len := by simp; omega
    refine ⟨some a, cap, zs.take len, by rw [hlen]; exact hcs, by rw [hlen]; unfold maxLen at hm; omega, ?_, (fun h => by cases h), .inr ⟨_, _, by rw [hx], by rw [hlen]; simp [lits]; omega⟩⟩
    by_cases h0 : len = 0
    · exact .inl (by subst h0; simp)
    · obtain ⟨b, off, spot⟩ := a
      have hc := hcell 0 (by omega)
      have hspot : spot = none := by simpa [Addr.add] using World.cell?_spot hc
      subst hspot
      refine .inr ⟨b, off, rfl, cell_lt hc, fun i hi => ?_⟩
      rw [hlen] at hi
      have hci := hcell i (by omega)
      have e : zd (zs.take len) i = zs.getD i 0 := by
        unfold zd
        rw [List.getD_eq_getElem?_getD, List.getElem?_take, if_pos hi, List.getD_eq_getElem?_getD]
      rw [e]
      by_cases h1 : i = 0
      · subst h1; simpa [Addr.add] using hci
      · simpa [Addr.add, h1] using hci

theorem lists_weigh {H : Type} {enc : TypeId × Value → H} {W : World} {fuel : Nat} {v : Value} {x : DataW H × List MemPlace}
    (h : DataW.trod enc Try.prog W 0 (fun _ => true) true fuel 22 [v] = some x) :
    ∃ (a : Option Addr) (cap : Nat) (L : List Sl), v = .slice a L.length cap ∧ L.length ≤ 9223372036854775807 ∧ ZLists W.heap.size W a L ∧ (L = [] ∨ ∃ elems spare, x.1 = DataW.slice elems spare ∧ L.length ≤ elems.length ∧ ∀ i, i < L.length → ((nth L i).a = none → (nth L i).cap = 0) ∧ ((nth L i).zs = [] ∨ ∃ e' sp', DataW.slice e' sp' ∈ elems ∧ (nth L i).zs.length ≤ e'.length)) := by
  rcases Go.Deep.open_slice1 Try.underlying22 cellsZs h with ⟨hcs, _⟩ | ⟨a, len, cap, m, n, V, D, Pl, hcs, _, hl, hm, hmm, hx, hV⟩
  · simp at hcs
    exact ⟨none, 0, [], hcs, by simp, ⟨.inl rfl, fun i hi => absurd hi (by simp)⟩, .inl rfl⟩
  · simp at hcs
    have hmc : m = cap := by simpa using hmm
    have hS : ∀ i, ∃ s : Sl, i < len → V i = slv s ∧ s.zs.length ≤ 9223372036854775807 ∧ ZInts W.heap.size W s.a s.zs ∧ (s.a = none → s.cap = 0) ∧ (s.zs = [] ∨ ∃ e' sp', D i = DataW.slice e' sp' ∧ s.zs.length ≤ e'.length) := fun i => by
      by_cases hi : i < len
      · obtain ⟨a', cap', zs, h1, h2, h3, h4, h5⟩ := zints_weigh (hV i (by omega)).2
        exact ⟨⟨a', cap', zs⟩, fun _ => ⟨h1, h2, h3, h4, h5⟩⟩
      · exact ⟨sl0, fun h => absurd h hi⟩
    obtain ⟨F, hF⟩ := Classical.axiomOfChoice hS
    have hlen : ((List.range len).map F).length = len := by simp
    have hnth : ∀ i, i < len → nth ((List.range len).map F) i = F i := fun i hi => by
      unfold nth; rw [List.getD_eq_getElem?_getD, List.getElem?_map, List.getElem?_range hi]; rfl
    refine ⟨some a, cap, (List.range len).map F, by rw [hlen]; exact hcs, by rw [hlen]; unfold maxLen at hm; omega, ⟨?_, fun i hi => ?_⟩, .inr ⟨_, _, by rw [hx], by simp, fun i hi => ?_⟩⟩
    · by_cases h0 : len = 0
      · exact .inl (by subst h0; rfl)
      · obtain ⟨b, off, spot⟩ := a
        have hc := (hV 0 (by omega)).1
        have hspot : spot = none := by simpa [Addr.add] using World.cell?_spot hc
        subst hspot
        refine .inr ⟨b, off, rfl, ?_, fun i hi => ?_⟩
        · have hc0 := cell_lt hc
          simpa [Addr.add] using hc0
        · rw [hlen] at hi
          have hci := (hV i (by omega)).1
          rw [hnth i hi, ← (hF i hi).1]
          by_cases h1 : i = 0
          · subst h1; simpa [Addr.add] using hci
          · simpa [Addr.add, h1] using hci
    · rw [hlen] at hi
      rw [hnth i hi]
      exact ⟨(hF i hi).2.2.1, (hF i hi).2.1⟩
    · rw [hlen] at hi
      rw [hnth i hi]
      obtain ⟨_, _, _, h4, h5⟩ := hF i hi
      refine ⟨h4, h5.imp id ?_⟩
      rintro ⟨e', sp', h6, h7⟩
      exact ⟨e', sp', List.mem_map.2 ⟨i, List.mem_range.2 hi, h6⟩, h7⟩

theorem bytesZs : Try.prog.bytesOf 23 = 24 := by kernel_rfl
theorem bytesZ : Try.prog.bytesOf 3 = 8 := by kernel_rfl
/-- what one of the elements weighs, all of them weigh -/
theorem wall_mem {H : Type} {P : Program} {e : TypeId} {d : DataW H} {n : Nat} (hn : n ∈ d.weights P e) {l : List (DataW H)} (hd : d ∈ l) : n ∈ DataW.weightsAll P e l := by
  induction l with
  | nil => cases hd
  | cons d' r ih =>
    simp only [DataW.weightsAll, List.mem_append]
    cases hd with
    | head => exact .inl hn
    | tail _ h => exact .inr (ih h)
/-- a list of lists that came in is no longer than the form's reach, nor is one of its lists -/
theorem lists_reach {H : Type} {ts : List TypeId} {ds : List (DataW H)} {d : DataW H} {L : List Sl} (h : (DataW.weightsEach Try.prog ts ds).all (· ≤ reachBytes) = true) {j : Nat} (ht : ts[j]? = some 22) (hd : ds[j]? = some d)
    (hL : L = [] ∨ ∃ elems spare, d = DataW.slice elems spare ∧ L.length ≤ elems.length ∧ ∀ i, i < L.length → ((nth L i).a = none → (nth L i).cap = 0) ∧ ((nth L i).zs = [] ∨ ∃ e' sp', DataW.slice e' sp' ∈ elems ∧ (nth L i).zs.length ≤ e'.length)) :
    L.length * 24 ≤ 140737488355328 ∧ ∀ i, i < L.length → ((nth L i).a = none → (nth L i).cap = 0) ∧ (nth L i).zs.length * 8 ≤ 140737488355328 := by
  have hr : reachBytes ≤ 140737488355328 := by decide
  rcases hL with rfl | ⟨elems, spare, rfl, hl, hin⟩
  · exact ⟨by simp, fun i hi => absurd hi (by simp)⟩
  · have hw := fun n hn => List.all_eq_true.1 h n (DataW.weights_mem_each ht hd n hn)
    have h1 := sized_slice h ht hd Try.underlying22
    rw [bytesZs] at h1
    refine ⟨by omega, fun i hi => ⟨(hin i hi).1, ?_⟩⟩
    rcases (hin i hi).2 with h0 | ⟨e', sp', hm, hle⟩
    · rw [h0]; simp
    · have h2 := hw ((e'.length + sp'.length) * Try.prog.bytesOf 3) (by
        simp only [DataW.weights, Try.underlying22, List.mem_cons, List.mem_append]
        exact .inr (.inl (wall_mem (by simp [DataW.weights, Try.underlying23]) hm)))
      rw [bytesZ] at h2
      have h3 := of_decide_eq_true h2
      omega
end Go.Proofs.Ytdknniomgdjbfab
