/- A region that draws its order and only reads, within a round of a range over a function: what holds of it outside a round holds in the round, where none of its operations defers. -/
import Derived.Sort.BigQuietIn
import Derived.TacticsIn
import Derived.RangeFuncNested
namespace Go.Proofs.Ytbnjbnjgfjpegaa
open Go

section
variable {F : Fence} {n : Nat} {P : Program}

/-- no operation of the list defers -/
def noDefer (l : List Oper) : Bool := l.all fun o => match o.op with | .defer _ => false | _ => true
theorem noDefer_at {l : List Oper} (h : noDefer l = true) {j : Nat} {o : Oper} (ho : l.toArray[j]? = some o) : ∀ c, o.op ≠ .defer c := by
  intro c hc
  rw [List.getElem?_toArray] at ho
  have := List.all_eq_true.1 h o (List.mem_of_getElem? ho)
  rw [hc] at this
  cases this

theorem op_inRound {o : Oper} {a : Act} {w : World} {K : Act → World → Prop} {Q : Exit → Act → World → Prop} (r : Nat) (hnd : ∀ c, o.op ≠ .defer c) (h : o.wpIn F n P a w K Q) : o.wpIn (F.inRound r) n P a w K Q := by
  unfold Oper.wpIn at *
  rw [Oper.semAt_eq _ _ o hnd] at *
  exact h

theorem any_inRound {md : Region.Mode} {l : List Oper} {Q : Exit → Act → World → Prop} (r : Nat) (hnd : noDefer l = true) : ∀ (fuel : Nat) (listed : Array Bool) (a : Act) (w : World),
    wpAnyIn F n P md l.toArray Q fuel listed a w → wpAnyIn (F.inRound r) n P md l.toArray Q fuel listed a w := by
  have step : ∀ (i : Nat) (K K' : Act → World → Prop) (a : Act) (w : World), (∀ a w, K a w → K' a w) → wpOpIn F n P l.toArray Q i K a w → wpOpIn (F.inRound r) n P l.toArray Q i K' a w := by
    intro i K K' a w hK h
    have h' := wpOpIn_mono hK h
    unfold wpOpIn at h' ⊢
    cases ho : l.toArray[i]? with
    | none => simp only [ho] at h' ⊢; exact h'
    | some o =>
      simp only [ho] at h' ⊢
      by_cases hw : Region.wanted o (yielded l.toArray a.tmps) = true
      · simp only [hw, if_true] at h' ⊢; exact op_inRound r (noDefer_at hnd ho) h'
      · simp only [hw] at h' ⊢; exact h'
  intro fuel
  induction fuel with
  | zero => exact fun _ _ _ h => h
  | succ fuel ih => exact fun listed a w h => ⟨h.1, fun i hi => step i _ _ a w (fun a' w' => ih _ a' w') (h.2 i hi)⟩

theorem region_quietR {id : Nat} {Q : Exit → Act → World → Prop} {a : Act} {w : World} {l : List Oper} (r : Nat) (hro : F.round = none) (hnd : noDefer l = true) (hm : P.follows .mixedOrders = true) (hB : Region.lexB .any l.toArray = true)
    (h : wpQuietIn F n P l.toArray (fun w' => ∃ n, w' = w.drewN n) (fun a' => ∀ w', (∃ n, w' = w.drewN n) → Q .normal a' w') l a) : (Code.region id l.toArray true).wpIn (F.inRound r) n P Q a w := by
  simp only [Region.lexB, Bool.and_eq_true] at hB
  refine wpIn_region_any hm (any_inRound r hnd _ _ _ _ ?_)
  refine wpAnyIn_of_quiet (C := fun w' => ∃ n, w' = w.drewN n) (Q := fun a' => ∀ w', (∃ n, w' = w.drewN n) → Q .normal a' w') hro (fun _ w' hw' h => h w' hw') _ _ _ _ ⟨1, rfl⟩ ?_
  have hlex := wpAnyQIn_lex (md := .any) hB.1 l 0 (Array.replicate l.toArray.size false) a (by simp) (by simpa using hB.2) h
  simpa using hlex
end
end Go.Proofs.Ytbnjbnjgfjpegaa
