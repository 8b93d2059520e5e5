/- A region that draws its order, reads first and writes last, within a round of a range over a function. The contract of the program's Kind. -/
import Derived.Test.YtdomcjfgmnpbmaaDoorPart5
import Derived.StillTailTactics
import Derived.Test.YtdomcjfgmnpbmaaDoorPart23
import Derived.Test.YtdomcjfgmnpbmaaDoorPart24
import Derived.RangeFuncNested
namespace Go.Proofs.YtdomcjfgmnpbmaaDoor
open Go

/-- what follows where nothing but the plain way out comes -/
def plainQ (Q : Exit → Act → World → Prop) : Exit → Act → World → Prop := fun e a w => e = .normal ∧ Q .normal a w

section
variable {P : Program}
theorem op_round {o : Oper} {a : Act} {w : World} {K : Act → World → Prop} {Q : Exit → Act → World → Prop} (r n : Nat) (hnd : ∀ c, o.op ≠ .defer c) (h : o.wp P a w K (plainQ Q)) : o.wpIn (Fence.wide.inRound r) n P a w K Q := by
  unfold Oper.wp at h
  unfold Oper.wpIn
  rw [Oper.semAt_eq _ _ o hnd]
  refine ⟨fun _ _ => trivial, ?_⟩
  have hno : (Fence.wide.inRound r).depth.isSome = true → 1 ≤ n := fun h => by cases h
  generalize (execOp a.eval o).run P w = res at h
  cases res with
  | ok nx w' =>
    cases nx with
    | value v => exact h
    | skip => exact h
    | defer d => exact h
    | enter f args =>
      refine ⟨hno, CallsIn.inRound r (callsIn_wide.2 (h.mono ?_))⟩
      intro e w'' g
      cases e with
      | returned v => exact g
      | panicked c => exact absurd g.1 (by simp)
      | outgrown => obtain ⟨_, _, g⟩ := g; exact absurd g.1 (by simp)
    | row row args =>
      refine ⟨hno, fun c cs _ => ?_⟩
      obtain ⟨v, w1, r1, s⟩ := h c cs
      exact ⟨v, w1, r1, stepsIn_wide.2 s⟩
    | _ => exact h.elim
  | halt s w' =>
    cases s with
    | panic v => exact absurd h.1 (by simp)
    | _ => exact h.elim
theorem any_round {md : Region.Mode} {l : List Oper} {Q : Exit → Act → World → Prop} (r n : Nat) (hnd : noDefer l = true) : ∀ (fuel : Nat) (listed : Array Bool) (a : Act) (w : World),
    wpAny P md l.toArray (plainQ Q) fuel listed a w → wpAnyIn (Fence.wide.inRound r) n P md l.toArray Q fuel listed a w := by
  intro fuel
  induction fuel with
  | zero => exact fun _ _ _ h => ⟨h.1, h.2.2⟩
  | succ fuel ih =>
    intro listed a w h
    refine ⟨fun g => (h.1 g).2, fun i hi => ?_⟩
    have h' := h.2 i hi
    unfold wpOp at h'
    unfold wpOpIn
    cases ho : l.toArray[i]? with
    | none => simp only [ho] at h' ⊢; exact ih _ _ _ h'
    | some o =>
      simp only [ho] at h' ⊢
      by_cases hw : Region.wanted o (yielded l.toArray a.tmps) = true
      · simp only [hw, if_true] at h' ⊢
        rcases h' with h' | ⟨_, _, _, g⟩
        · exact op_round r n (noDefer_at hnd ho) (Oper.wp_mono (fun a w => ih _ a w) h')
        · exact absurd g.1 (by simp)
      · simp only [hw] at h' ⊢
        exact ⟨fun _ _ => trivial, ih _ _ _ h'⟩
/-- the reads in whatever order, then the rest in the text's order -/
theorem tail_any {Q : Exit → Act → World → Prop} {a : Act} {w : World} (hd tl : List Oper) (hB : Region.lexTailB .any (hd ++ tl).toArray hd.length = true)
    (h : wpStill P (hd ++ tl).toArray w (fun a' => wpList P (hd ++ tl).toArray Q tl a' w) hd a) :
    wpAny P .any (hd ++ tl).toArray Q (hd ++ tl).toArray.size (Array.replicate (hd ++ tl).toArray.size false) a w := by
  have hsz : (hd ++ tl).toArray.size = hd.length + tl.length := by simp
  simp only [Region.lexTailB, Bool.and_eq_true, decide_eq_true_eq] at hB
  have hfree : (hd ++ tl).toArray.size - hd.length = tl.length := by omega
  rw [hfree] at hB
  have start : HeadInv .any (hd ++ tl).toArray hd.length (Array.replicate (hd ++ tl).toArray.size false) := by
    refine ⟨by simp, fun j oj _ e => ?_, fun t _ ht => getD_in (by simpa using ht) (getD_replicate_false _ _)⟩
    rw [getD_replicate_false] at e
    cases e
  have reads := wpAnyL_lex hB.1.1.1.1 hB.1.1.2 hB.1.2 hB.1.1.1.2 hd 0 _ a (fun j hj => by simp [List.getElem?_append_left hj]) (Nat.zero_add _) start hB.2 h
  have whole := wpAny_of_head (Q' := Q) (g := tl.length) (fun listed a' g => wpAny_of_seq tl hd.length listed a' w (fun j => by rw [List.getElem?_toArray, List.getElem?_append_right (by omega), Nat.add_sub_cancel_left]) g.1 g.2) _ _ _ reads
  rw [← hsz] at whole
  exact whole
theorem region_tailR {id : Nat} {Q : Exit → Act → World → Prop} {a : Act} {w : World} {l : List Oper} (r k : Nat) (hd tl : List Oper) (hl : hd ++ tl = l) (hnd : noDefer l = true) (hm : P.follows .mixedOrders = true) (hB : Region.lexTailB .any l.toArray hd.length = true)
    (h : wpStill P l.toArray w.drew (fun a' => wpList P l.toArray (plainQ Q) tl a' w.drew) hd a) : (Code.region id l.toArray true).wpIn (Fence.wide.inRound r) k P Q a w := by
  subst hl
  exact wpIn_region_any hm (any_round r k hnd _ _ _ _ (tail_any hd tl hB h))
end
end Go.Proofs.YtdomcjfgmnpbmaaDoor

namespace Go.Proofs.YtdomcjfgmnpbmaaDoor
open Go.RowKit Go.Shelf
attribute [local go_sem] Oper.semAt_some

/-- what is known of a lattice's kind: distributive, modular, and the first three that don't distribute -/
structure KSt where
  d : Bool
  m : Bool
  a : Nat
  b : Nat
  c : Nat
def KSt.step (js ms : List Nat) (n : Nat) (s : KSt) (p : Nat × Nat × Nat) : KSt :=
  let t := if s.d && !disB js ms n p.1 p.2.1 p.2.2 then { s with d := false, a := p.1, b := p.2.1, c := p.2.2 } else s
  if modB js ms n p.1 p.2.1 p.2.2 then t else { t with m := false }
def kindOf (js ms : List Nat) (n : Nat) (l : List (Nat × Nat × Nat)) : KSt := l.foldl (KSt.step js ms n) ⟨true, true, 0, 0, 0⟩
theorem kindOf_snoc (js ms : List Nat) (n : Nat) (l : List (Nat × Nat × Nat)) (p : Nat × Nat × Nat) : kindOf js ms n (l ++ [p]) = (kindOf js ms n l).step js ms n p := by unfold kindOf; rw [List.foldl_append]; rfl

/-- a kind's cells -/
def kvals (cb : Bool) (s : KSt) : List Value := [.bool s.d, .bool s.m, .bool cb, .int .i64 (s.a : Nat), .int .i64 (s.b : Nat), .int .i64 (s.c : Nat)]
theorem cell_ltK {W : World} {a : Addr} {v : Value} (h : W.cell? a = some v) : a.block < W.heap.size := by
  apply Nat.lt_of_not_le
  intro hle
  unfold World.cell? at h
  rw [Array.getElem?_eq_none hle] at h
  simp at h
theorem keepsB {W W' : World} (h : Below W.heap.size W W') : KeepsOthers W W' := ⟨h.size, fun k _ hk _ => (h.block k (Array.getElem?_eq_some_iff.1 hk).1).trans hk⟩
/-- what the body of a round does, step by step -/
def Fin (Bn n m₀ : Nat) (A B : World) : Prop := KeepsOthers A B ∧ KeepN Bn n m₀ A B ∧ A.heap.size ≤ B.heap.size
theorem Fin.refl (Bn n m₀ : Nat) (A : World) : Fin Bn n m₀ A A := ⟨KeepsOthers.refl _, ⟨Below.refl _ _, id⟩, Nat.le_refl _⟩
theorem Fin.trans {Bn n m₀ : Nat} {A B C : World} (h : Fin Bn n m₀ A B) (k : Fin Bn n m₀ B C) : Fin Bn n m₀ A C := ⟨h.1.trans k.1, keepN_t h.2.1 k.2.1, Nat.le_trans h.2.2 k.2.2⟩
theorem Fin.below {Bn n m₀ : Nat} {A B : World} (h : Below A.heap.size A B) (hm : m₀ ≤ A.heap.size) : Fin Bn n m₀ A B := ⟨keepsB h, ⟨h.mono hm, fun hc => (h.cell (p := ⟨Bn, 0, none⟩) (cell_ltK hc)).trans hc⟩, h.size⟩
theorem Fin.drew (Bn n m₀ : Nat) (A : World) : Fin Bn n m₀ A A.drew := ⟨KeepsOthers.drew _, ⟨(Below.refl _ _).drew, id⟩, Nat.le_refl _⟩
theorem Fin.set {Bn n m₀ : Nat} (h : Bn ≠ m₀) (A : World) (i : Nat) (v : Value) : Fin Bn n m₀ A (A.setCell ⟨m₀, i, none⟩ v) :=
  ⟨KeepsOthers.setCell _ _ _, ⟨(Below.refl _ _).setCell (p := ⟨m₀, i, none⟩) (Nat.le_refl _) _, fun hc => by
    have hb := (grownBy_setCellAt A m₀ i v).block Bn (cell_ltK hc) (fun e => h (by cases e; rfl))
    unfold World.cell? at hc ⊢
    rw [hb]
    exact hc⟩, by simp⟩
/-- the answer where there is no lattice -/
def kindErr (c : Int) : Ending := .returned (.tuple #[.agg #[.bool false, .bool false, .bool false, .int .i64 0, .int .i64 0, .int .i64 0], .int .i64 c])
set_option maxRecDepth 100000 in
set_option maxHeartbeats 1000000 in
theorem Kind_err (n : Int) (a : Option Addr) (len cap : Nat) (c : Int) (hc : c ≠ 0) (w : World) (ht : ∀ W, Below w.heap.size w W → Calls Tryd.prog 40 #[.agg #[.int .i64 n, .slice a len cap]] W fun e w' => e = tabErr c ∧ Below W.heap.size W w') :
    Calls Tryd.prog 20 #[.agg #[.int .i64 n, .slice a len cap]] w fun e w' => e = kindErr c ∧ Below w.heap.size w w' := by
  obtain ⟨r0, r1, hb0, hs0⟩ := rows_two w 24 40 [.int .i64 n, .slice a len cap] [.bool false, .bool false, .bool false, .int .i64 0, .int .i64 0, .int .i64 0] rfl
  have h1 := ht _ hb0
  unfold tabErr at h1
  have hne : (c != 0) = true := by rw [bne_iff_ne]; exact hc
  clear hc ht
  go_enter Tryd.func20, Tryd.ntmps20
  go_wp2_with (go_at_call 40; refine h1.mono ?_; rintro e w1 ⟨rfl, hb1⟩; have q1 := row_below r1 hb1 r1.lt; have l1 := q1.lt; have k0 := q1.cell (i := 0) rfl; have k1 := q1.cell (i := 1) rfl; have k2 := q1.cell (i := 2) rfl; have k3 := q1.cell (i := 3) rfl; have k4 := q1.cell (i := 4) rfl; have k5 := q1.cell (i := 5) rfl; have f0 := q1.frozen 0; have f1 := q1.frozen 1; have f2 := q1.frozen 2; have f3 := q1.frozen 3; have f4 := q1.frozen 4; have f5 := q1.frozen 5)
  have q2 := (row_set6 q1 (.bool false) (.bool false) (.bool false) (.int .i64 0) (.int .i64 0) (.int .i64 0)).alloc (.cells #[.int .i64 0, .slice none 0 0, .slice none 0 0, .slice none 0 0, .int .i64 0, .int .i64 0] 69)
  have e0 := q2.cell (i := 0) rfl
  have e1 := q2.cell (i := 1) rfl
  have e2 := q2.cell (i := 2) rfl
  have e3 := q2.cell (i := 3) rfl
  have e4 := q2.cell (i := 4) rfl
  have e5 := q2.cell (i := 5) rfl
  refine bodyPost_ret (v := .tuple #[.agg #[.bool false, .bool false, .bool false, .int .i64 0, .int .i64 0, .int .i64 0], .int .i64 c]) (by simp [results, Tryd.results20, go_sem, e0, e1, e2, e3, e4, e5]) rfl ⟨rfl, ?_⟩
  exact (below_set6 (hb0.trans (hb1.mono (by omega))) (by simp) _ _ _ _ _ _).alloc (by have := hb1.size; simp; omega) _
end Go.Proofs.YtdomcjfgmnpbmaaDoor
