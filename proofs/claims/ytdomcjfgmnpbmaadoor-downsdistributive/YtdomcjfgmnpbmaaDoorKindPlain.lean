/- What the program's Kind says of the lattice: plain mathematics of its three words. -/
import Derived.Test.YtdomcjfgmnpbmaaDoorKind
namespace Go.Proofs.YtdomcjfgmnpbmaaDoor

theorem kfold_d (js ms : List Nat) (n : Nat) : ∀ (l : List (Nat × Nat × Nat)) (s : KSt), (l.foldl (KSt.step js ms n) s).d = (s.d && l.all fun p => disB js ms n p.1 p.2.1 p.2.2)
  | [], s => by simp
  | p :: l, s => by
    rw [List.foldl_cons, kfold_d js ms n l, List.all_cons, ← Bool.and_assoc]
    congr 1
    unfold KSt.step
    cases hd : s.d <;> cases hp : disB js ms n p.1 p.2.1 p.2.2 <;> cases modB js ms n p.1 p.2.1 p.2.2 <;> simp [hd]
theorem kfold_m (js ms : List Nat) (n : Nat) : ∀ (l : List (Nat × Nat × Nat)) (s : KSt), (l.foldl (KSt.step js ms n) s).m = (s.m && l.all fun p => modB js ms n p.1 p.2.1 p.2.2)
  | [], s => by simp
  | p :: l, s => by
    rw [List.foldl_cons, kfold_m js ms n l, List.all_cons, ← Bool.and_assoc]
    congr 1
    unfold KSt.step
    cases hd : s.d <;> cases hp : disB js ms n p.1 p.2.1 p.2.2 <;> cases modB js ms n p.1 p.2.1 p.2.2 <;> simp
theorem mem_triA {n m : Nat} {p : Nat × Nat × Nat} : p ∈ triA n m ↔ p.1 < m ∧ p.2.1 < n ∧ p.2.2 < n := by
  obtain ⟨a, b, c⟩ := p
  unfold triA rowB rowC
  simp only [List.mem_flatMap, List.mem_range, List.mem_map, Prod.mk.injEq]
  constructor
  · rintro ⟨x, hx, y, hy, z, hz, rfl, rfl, rfl⟩; exact ⟨hx, hy, hz⟩
  · rintro ⟨hx, hy, hz⟩; exact ⟨a, hx, b, hy, c, hz, rfl, rfl, rfl⟩
theorem kind_distr (js ms : List Nat) (n : Nat) : (kindOf js ms n (triA n n)).d = true ↔ Distr n (at2 js n) (at2 ms n) := by
  unfold kindOf
  rw [kfold_d, Bool.true_and, List.all_eq_true]
  constructor
  · intro h a ha b hb c hc
    have := h (a, b, c) (mem_triA.2 ⟨ha, hb, hc⟩)
    unfold disB at this
    simpa using this
  · intro h p hp
    have hp' := mem_triA.1 hp
    unfold disB
    simpa using h p.1 hp'.1 p.2.1 hp'.2.1 p.2.2 hp'.2.2
theorem kind_modul {js ms : List Nat} {n : Nat} {le : Nat → Nat → Prop} {b t : Nat} (L : Lat n le (at2 js n) (at2 ms n) b t) : (kindOf js ms n (triA n n)).m = true ↔ Modul n le (at2 js n) (at2 ms n) := by
  unfold kindOf
  rw [kfold_m, Bool.true_and, List.all_eq_true]
  constructor
  · intro h x hx y hy z hz hle
    have := h (x, y, z) (mem_triA.2 ⟨hx, hy, hz⟩)
    unfold modB at this
    rw [decide_eq_true ((L.le_j hx hz).1 hle)] at this
    simpa using this
  · intro h p hp
    obtain ⟨hx, hy, hz⟩ := mem_triA.1 hp
    unfold modB
    by_cases hle : le p.1 p.2.2
    · simp [h p.1 hx p.2.1 hy p.2.2 hz hle]
    · have : ¬ at2 js n p.1 p.2.2 = p.2.2 := fun e => hle ((L.le_j hx hz).2 e)
      simp [this]
theorem compl_iff (js ms : List Nat) (n bt tp : Nat) : complTo js ms n bt tp n = true ↔ Compl n (at2 js n) (at2 ms n) bt tp := by
  unfold complTo Compl anyTo compB
  rw [List.all_eq_true]
  constructor
  · intro h x hx
    have := h x (List.mem_range.2 hx)
    rw [List.any_eq_true] at this
    obtain ⟨y, hy, h2⟩ := this
    rw [Bool.and_eq_true, decide_eq_true_iff, decide_eq_true_iff] at h2
    exact ⟨y, List.mem_range.1 hy, h2.1, h2.2⟩
  · intro h x hx
    obtain ⟨y, hy, h1, h2⟩ := h x (List.mem_range.1 hx)
    rw [List.any_eq_true]
    exact ⟨y, List.mem_range.2 hy, by rw [Bool.and_eq_true, decide_eq_true_iff, decide_eq_true_iff]; exact ⟨h1, h2⟩⟩
end Go.Proofs.YtdomcjfgmnpbmaaDoor
