/- A region that draws its order, reads first and writes last, within a round of a range over a function. -/
import Derived.Test.YtnlkjklcikolaaaDoorQuietRound
import Derived.StillTailTactics
namespace Go.Proofs.YtnlkjklcikolaaaDoor
open Go

/-- what follows where nothing but the plain way out comes -/
def plainQ (Q : Exit → Act → World → Prop) : Exit → Act → World → Prop := fun e a w => e = .normal ∧ Q .normal a w

section
variable {P : Program}
theorem op_round {o : Oper} {a : Act} {w : World} {K : Act → World → Prop} {Q : Exit → Act → World → Prop} (r n : Nat) (hnd : ∀ c, o.op ≠ .defer c) (h : o.wp P a w K (plainQ Q)) : o.wpIn (Fence.wide.inRound r) n P a w K Q := by
  unfold Oper.wp at h
  unfold Oper.wpIn
  rw [Oper.semAt_eq _ _ o hnd]
  refine ⟨fun _ _ => trivial, ?_⟩
  have hno : (Fence.wide.inRound r).depth.isSome = true → 1 ≤ n := fun h => by cases h
  generalize (execOp a.eval o).run P w = res at h
  cases res with
  | ok nx w' =>
    cases nx with
    | value v => exact h
    | skip => exact h
    | defer d => exact h
    | enter f args =>
      refine ⟨hno, CallsIn.inRound r (callsIn_wide.2 (h.mono ?_))⟩
      intro e w'' g
      cases e with
      | returned v => exact g
      | panicked c => exact absurd g.1 (by simp)
      | outgrown => obtain ⟨_, _, g⟩ := g; exact absurd g.1 (by simp)
    | row row args =>
      refine ⟨hno, fun c cs _ => ?_⟩
      obtain ⟨v, w1, r1, s⟩ := h c cs
      exact ⟨v, w1, r1, stepsIn_wide.2 s⟩
    | _ => exact h.elim
  | halt s w' =>
    cases s with
    | panic v => exact absurd h.1 (by simp)
    | _ => exact h.elim
theorem any_round {md : Region.Mode} {l : List Oper} {Q : Exit → Act → World → Prop} (r n : Nat) (hnd : noDefer l = true) : ∀ (fuel : Nat) (listed : Array Bool) (a : Act) (w : World),
    wpAny P md l.toArray (plainQ Q) fuel listed a w → wpAnyIn (Fence.wide.inRound r) n P md l.toArray Q fuel listed a w := by
  intro fuel
  induction fuel with
  | zero => exact fun _ _ _ h => ⟨h.1, h.2.2⟩
  | succ fuel ih =>
    intro listed a w h
    refine ⟨fun g => (h.1 g).2, fun i hi => ?_⟩
    have h' := h.2 i hi
    unfold wpOp at h'
    unfold wpOpIn
    cases ho : l.toArray[i]? with
    | none => simp only [ho] at h' ⊢; exact ih _ _ _ h'
    | some o =>
      simp only [ho] at h' ⊢
      by_cases hw : Region.wanted o (yielded l.toArray a.tmps) = true
      · simp only [hw, if_true] at h' ⊢
        rcases h' with h' | ⟨_, _, _, g⟩
        · exact op_round r n (noDefer_at hnd ho) (Oper.wp_mono (fun a w => ih _ a w) h')
        · exact absurd g.1 (by simp)
      · simp only [hw] at h' ⊢
        exact ⟨fun _ _ => trivial, ih _ _ _ h'⟩
/-- the reads in whatever order, then the rest in the text's order -/
theorem tail_any {Q : Exit → Act → World → Prop} {a : Act} {w : World} (hd tl : List Oper) (hB : Region.lexTailB .any (hd ++ tl).toArray hd.length = true)
    (h : wpStill P (hd ++ tl).toArray w (fun a' => wpList P (hd ++ tl).toArray Q tl a' w) hd a) :
    wpAny P .any (hd ++ tl).toArray Q (hd ++ tl).toArray.size (Array.replicate (hd ++ tl).toArray.size false) a w := by
  have hsz : (hd ++ tl).toArray.size = hd.length + tl.length := by simp
  simp only [Region.lexTailB, Bool.and_eq_true, decide_eq_true_eq] at hB
  have hfree : (hd ++ tl).toArray.size - hd.length = tl.length := by omega
  rw [hfree] at hB
  have start : HeadInv .any (hd ++ tl).toArray hd.length (Array.replicate (hd ++ tl).toArray.size false) := by
    refine ⟨by simp, fun j oj _ e => ?_, fun t _ ht => getD_in (by simpa using ht) (getD_replicate_false _ _)⟩
    rw [getD_replicate_false] at e
    cases e
  have reads := wpAnyL_lex hB.1.1.1.1 hB.1.1.2 hB.1.2 hB.1.1.1.2 hd 0 _ a (fun j hj => by simp [List.getElem?_append_left hj]) (Nat.zero_add _) start hB.2 h
  have whole := wpAny_of_head (Q' := Q) (g := tl.length) (fun listed a' g => wpAny_of_seq tl hd.length listed a' w (fun j => by rw [List.getElem?_toArray, List.getElem?_append_right (by omega), Nat.add_sub_cancel_left]) g.1 g.2) _ _ _ reads
  rw [← hsz] at whole
  exact whole
theorem region_tailR {id : Nat} {Q : Exit → Act → World → Prop} {a : Act} {w : World} {l : List Oper} (r k : Nat) (hd tl : List Oper) (hl : hd ++ tl = l) (hnd : noDefer l = true) (hm : P.follows .mixedOrders = true) (hB : Region.lexTailB .any l.toArray hd.length = true)
    (h : wpStill P l.toArray w.drew (fun a' => wpList P l.toArray (plainQ Q) tl a' w.drew) hd a) : (Code.region id l.toArray true).wpIn (Fence.wide.inRound r) k P Q a w := by
  subst hl
  exact wpIn_region_any hm (any_round r k hnd _ _ _ _ (tail_any hd tl hB h))
end
end Go.Proofs.YtnlkjklcikolaaaDoor
