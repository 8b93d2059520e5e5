/- The contract of the program's Kind. What the program's Kind says of the lattice: plain mathematics of its three words. -/
import Derived.Test.YtdomcjfgmnpbmaaDoorPart23
import Derived.Test.YtdomcjfgmnpbmaaDoorPart24
import Derived.RangeFuncNested
namespace Go.Proofs.YtdomcjfgmnpbmaaDoor
open Go.RowKit Go.Shelf
attribute [local go_sem] Oper.semAt_some

/-- what is known of a lattice's kind: distributive, modular, and the first three that don't distribute -/
structure KSt where
  d : Bool
  m : Bool
  a : Nat
  b : Nat
  c : Nat
def KSt.step (js ms : List Nat) (n : Nat) (s : KSt) (p : Nat × Nat × Nat) : KSt :=
  let t := if s.d && !disB js ms n p.1 p.2.1 p.2.2 then { s with d := false, a := p.1, b := p.2.1, c := p.2.2 } else s
  if modB js ms n p.1 p.2.1 p.2.2 then t else { t with m := false }
def kindOf (js ms : List Nat) (n : Nat) (l : List (Nat × Nat × Nat)) : KSt := l.foldl (KSt.step js ms n) ⟨true, true, 0, 0, 0⟩
theorem kindOf_snoc (js ms : List Nat) (n : Nat) (l : List (Nat × Nat × Nat)) (p : Nat × Nat × Nat) : kindOf js ms n (l ++ [p]) = (kindOf js ms n l).step js ms n p := by unfold kindOf; rw [List.foldl_append]; rfl

/-- a kind's cells -/
def kvals (cb : Bool) (s : KSt) : List Value := [.bool s.d, .bool s.m, .bool cb, .int .i64 (s.a : Nat), .int .i64 (s.b : Nat), .int .i64 (s.c : Nat)]
theorem cell_ltK {W : World} {a : Addr} {v : Value} (h : W.cell? a = some v) : a.block < W.heap.size := by
  apply Nat.lt_of_not_le
  intro hle
  unfold World.cell? at h
  rw [Array.getElem?_eq_none hle] at h
  simp at h
theorem keepsB {W W' : World} (h : Below W.heap.size W W') : KeepsOthers W W' := ⟨h.size, fun k _ hk _ => (h.block k (Array.getElem?_eq_some_iff.1 hk).1).trans hk⟩
/-- what the body of a round does, step by step -/
def Fin (Bn n m₀ : Nat) (A B : World) : Prop := KeepsOthers A B ∧ KeepN Bn n m₀ A B ∧ A.heap.size ≤ B.heap.size
theorem Fin.refl (Bn n m₀ : Nat) (A : World) : Fin Bn n m₀ A A := ⟨KeepsOthers.refl _, ⟨Below.refl _ _, id⟩, Nat.le_refl _⟩
theorem Fin.trans {Bn n m₀ : Nat} {A B C : World} (h : Fin Bn n m₀ A B) (k : Fin Bn n m₀ B C) : Fin Bn n m₀ A C := ⟨h.1.trans k.1, keepN_t h.2.1 k.2.1, Nat.le_trans h.2.2 k.2.2⟩
theorem Fin.below {Bn n m₀ : Nat} {A B : World} (h : Below A.heap.size A B) (hm : m₀ ≤ A.heap.size) : Fin Bn n m₀ A B := ⟨keepsB h, ⟨h.mono hm, fun hc => (h.cell (p := ⟨Bn, 0, none⟩) (cell_ltK hc)).trans hc⟩, h.size⟩
theorem Fin.drew (Bn n m₀ : Nat) (A : World) : Fin Bn n m₀ A A.drew := ⟨KeepsOthers.drew _, ⟨(Below.refl _ _).drew, id⟩, Nat.le_refl _⟩
theorem Fin.set {Bn n m₀ : Nat} (h : Bn ≠ m₀) (A : World) (i : Nat) (v : Value) : Fin Bn n m₀ A (A.setCell ⟨m₀, i, none⟩ v) :=
  ⟨KeepsOthers.setCell _ _ _, ⟨(Below.refl _ _).setCell (p := ⟨m₀, i, none⟩) (Nat.le_refl _) _, fun hc => by
    have hb := (grownBy_setCellAt A m₀ i v).block Bn (cell_ltK hc) (fun e => h (by cases e; rfl))
    unfold World.cell? at hc ⊢
    rw [hb]
    exact hc⟩, by simp⟩
/-- the answer where there is no lattice -/
def kindErr (c : Int) : Ending := .returned (.tuple #[.agg #[.bool false, .bool false, .bool false, .int .i64 0, .int .i64 0, .int .i64 0], .int .i64 c])
set_option maxRecDepth 100000 in
set_option maxHeartbeats 1000000 in
theorem Kind_err (n : Int) (a : Option Addr) (len cap : Nat) (c : Int) (hc : c ≠ 0) (w : World) (ht : ∀ W, Below w.heap.size w W → Calls Tryd.prog 40 #[.agg #[.int .i64 n, .slice a len cap]] W fun e w' => e = tabErr c ∧ Below W.heap.size W w') :
    Calls Tryd.prog 20 #[.agg #[.int .i64 n, .slice a len cap]] w fun e w' => e = kindErr c ∧ Below w.heap.size w w' := by
  obtain ⟨r0, r1, hb0, hs0⟩ := rows_two w 24 40 [.int .i64 n, .slice a len cap] [.bool false, .bool false, .bool false, .int .i64 0, .int .i64 0, .int .i64 0] rfl
  have h1 := ht _ hb0
  unfold tabErr at h1
  have hne : (c != 0) = true := by rw [bne_iff_ne]; exact hc
  clear hc ht
  go_enter Tryd.func20, Tryd.ntmps20
  go_wp2_with (go_at_call 40; refine h1.mono ?_; rintro e w1 ⟨rfl, hb1⟩; have q1 := row_below r1 hb1 r1.lt; have l1 := q1.lt; have k0 := q1.cell (i := 0) rfl; have k1 := q1.cell (i := 1) rfl; have k2 := q1.cell (i := 2) rfl; have k3 := q1.cell (i := 3) rfl; have k4 := q1.cell (i := 4) rfl; have k5 := q1.cell (i := 5) rfl; have f0 := q1.frozen 0; have f1 := q1.frozen 1; have f2 := q1.frozen 2; have f3 := q1.frozen 3; have f4 := q1.frozen 4; have f5 := q1.frozen 5)
  have q2 := (row_set6 q1 (.bool false) (.bool false) (.bool false) (.int .i64 0) (.int .i64 0) (.int .i64 0)).alloc (.cells #[.int .i64 0, .slice none 0 0, .slice none 0 0, .slice none 0 0, .int .i64 0, .int .i64 0] 69)
  have e0 := q2.cell (i := 0) rfl
  have e1 := q2.cell (i := 1) rfl
  have e2 := q2.cell (i := 2) rfl
  have e3 := q2.cell (i := 3) rfl
  have e4 := q2.cell (i := 4) rfl
  have e5 := q2.cell (i := 5) rfl
  refine bodyPost_ret (v := .tuple #[.agg #[.bool false, .bool false, .bool false, .int .i64 0, .int .i64 0, .int .i64 0], .int .i64 c]) (by simp [results, Tryd.results20, go_sem, e0, e1, e2, e3, e4, e5]) rfl ⟨rfl, ?_⟩
  exact (below_set6 (hb0.trans (hb1.mono (by omega))) (by simp) _ _ _ _ _ _).alloc (by have := hb1.size; simp; omega) _
end Go.Proofs.YtdomcjfgmnpbmaaDoor

namespace Go.Proofs.YtdomcjfgmnpbmaaDoor

theorem kfold_d (js ms : List Nat) (n : Nat) : ∀ (l : List (Nat × Nat × Nat)) (s : KSt), (l.foldl (KSt.step js ms n) s).d = (s.d && l.all fun p => disB js ms n p.1 p.2.1 p.2.2)
  | [], s => by simp
  | p :: l, s => by
    rw [List.foldl_cons, kfold_d js ms n l, List.all_cons, ← Bool.and_assoc]
    congr 1
    unfold KSt.step
    cases hd : s.d <;> cases hp : disB js ms n p.1 p.2.1 p.2.2 <;> cases modB js ms n p.1 p.2.1 p.2.2 <;> simp [hd]
theorem kfold_m (js ms : List Nat) (n : Nat) : ∀ (l : List (Nat × Nat × Nat)) (s : KSt), (l.foldl (KSt.step js ms n) s).m = (s.m && l.all fun p => modB js ms n p.1 p.2.1 p.2.2)
  | [], s => by simp
  | p :: l, s => by
    rw [List.foldl_cons, kfold_m js ms n l, List.all_cons, ← Bool.and_assoc]
    congr 1
    unfold KSt.step
    cases hd : s.d <;> cases hp : disB js ms n p.1 p.2.1 p.2.2 <;> cases modB js ms n p.1 p.2.1 p.2.2 <;> simp
theorem mem_triA {n m : Nat} {p : Nat × Nat × Nat} : p ∈ triA n m ↔ p.1 < m ∧ p.2.1 < n ∧ p.2.2 < n := by
  obtain ⟨a, b, c⟩ := p
  unfold triA rowB rowC
  simp only [List.mem_flatMap, List.mem_range, List.mem_map, Prod.mk.injEq]
  constructor
  · rintro ⟨x, hx, y, hy, z, hz, rfl, rfl, rfl⟩; exact ⟨hx, hy, hz⟩
  · rintro ⟨hx, hy, hz⟩; exact ⟨a, hx, b, hy, c, hz, rfl, rfl, rfl⟩
theorem kind_distr (js ms : List Nat) (n : Nat) : (kindOf js ms n (triA n n)).d = true ↔ Distr n (at2 js n) (at2 ms n) := by
  unfold kindOf
  rw [kfold_d, Bool.true_and, List.all_eq_true]
  constructor
  · intro h a ha b hb c hc
    have := h (a, b, c) (mem_triA.2 ⟨ha, hb, hc⟩)
    unfold disB at this
    simpa using this
  · intro h p hp
    have hp' := mem_triA.1 hp
    unfold disB
    simpa using h p.1 hp'.1 p.2.1 hp'.2.1 p.2.2 hp'.2.2
theorem kind_modul {js ms : List Nat} {n : Nat} {le : Nat → Nat → Prop} {b t : Nat} (L : Lat n le (at2 js n) (at2 ms n) b t) : (kindOf js ms n (triA n n)).m = true ↔ Modul n le (at2 js n) (at2 ms n) := by
  unfold kindOf
  rw [kfold_m, Bool.true_and, List.all_eq_true]
  constructor
  · intro h x hx y hy z hz hle
    have := h (x, y, z) (mem_triA.2 ⟨hx, hy, hz⟩)
    unfold modB at this
    rw [decide_eq_true ((L.le_j hx hz).1 hle)] at this
    simpa using this
  · intro h p hp
    obtain ⟨hx, hy, hz⟩ := mem_triA.1 hp
    unfold modB
    by_cases hle : le p.1 p.2.2
    · simp [h p.1 hx p.2.1 hy p.2.2 hz hle]
    · have : ¬ at2 js n p.1 p.2.2 = p.2.2 := fun e => hle ((L.le_j hx hz).2 e)
      simp [this]
theorem compl_iff (js ms : List Nat) (n bt tp : Nat) : complTo js ms n bt tp n = true ↔ Compl n (at2 js n) (at2 ms n) bt tp := by
  unfold complTo Compl anyTo compB
  rw [List.all_eq_true]
  constructor
  · intro h x hx
    have := h x (List.mem_range.2 hx)
    rw [List.any_eq_true] at this
    obtain ⟨y, hy, h2⟩ := this
    rw [Bool.and_eq_true, decide_eq_true_iff, decide_eq_true_iff] at h2
    exact ⟨y, List.mem_range.1 hy, h2.1, h2.2⟩
  · intro h x hx
    obtain ⟨y, hy, h1, h2⟩ := h x (List.mem_range.1 hx)
    rw [List.any_eq_true]
    exact ⟨y, List.mem_range.2 hy, by rw [Bool.and_eq_true, decide_eq_true_iff, decide_eq_true_iff]; exact ⟨h1, h2⟩⟩
end Go.Proofs.YtdomcjfgmnpbmaaDoor
