/- A region that draws its order, whose loads nobody in it writes, within a round of a range over a function. -/
import Derived.Test.YtnlkjklcikolaaaDoorTailRound
import Derived.Deep.RegionHeld
namespace Go.Proofs.YtnlkjklcikolaaaDoor
open Go

section
variable {P : Program}
theorem region_heldR {id : Nat} {Q : Exit → Act → World → Prop} {a : Act} {w : World} {l : List Oper} (S : World → Prop) (r k : Nat) (hnd : noDefer l = true) (hm : P.follows .mixedOrders = true)
    (h : wpAnyH P .any l.toArray (plainQ Q) S l.toArray.size (Array.replicate l.toArray.size false) a w.drew) : (Code.region id l.toArray true).wpIn (Fence.wide.inRound r) k P Q a w :=
  wpIn_region_any hm (any_round r k hnd _ _ _ _ (wpAny_of_held _ _ _ _ h))
theorem plain_no {Q : Exit → Act → World → Prop} {a b : Act} : ∀ c (_ : Act) w, plainQ Q (.panic c) a w → plainQ Q (.panic c) b w := fun _ _ _ h => absurd h.1 (by simp)
theorem plain_no' {Q : Exit → Act → World → Prop} {o : Oper} {v : Value} : ∀ c a w, plainQ Q (.panic c) (Act.put a o.dst v) w → plainQ Q (.panic c) a w := fun _ _ _ h => absurd h.1 (by simp)
end
end Go.Proofs.YtnlkjklcikolaaaDoor
