/- Lists of numbers as links. -/
import Derived.Test.YtnlkjklcikolaaaDoorAntiPlain
import Derived.Test.YtnlkjklcikolaaaDoorKeepZ
import Derived.Test.YtnlkjklcikolaaaDoorKeepLoose
import Derived.Test.YtnlkjklcikolaaaDoorTurPlain
import Derived.WalkMore
namespace Go.Proofs.YtnlkjklcikolaaaDoor
open Go.RowKit Go.Shelf

/-- a list of numbers as links: -1 is none -/
def optZ (pz : List Int) (y : Nat) : Option Nat := if y < pz.length ∧ 0 ≤ zd pz y then some (zd pz y).toNat else none
def upE (es : List Nat) (x y : Nat) : Prop := x < es.length ∧ hasB (wd es x) y = true
def LinkZ (n : Nat) (pz : List Int) : Prop := pz.length = n ∧ ∀ y, y < n → zd pz y = -1 ∨ ∃ p : Nat, p < n ∧ zd pz y = (p : Int)
def Two (B C : Nat) : Nat → Prop := fun k => k = B ∨ k = C
end Go.Proofs.YtnlkjklcikolaaaDoor
