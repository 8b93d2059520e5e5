/- Plain: the document's join of two elements is the place of the word that both words have in common. -/
import Derived.Test.YteoikfchmjnlfaaDoorLatTab
namespace Go.Proofs.YteoikfchmjnlfaaDoor

def JoinAt (us : List Nat) (a b x : Nat) : Prop := leW us a x ∧ leW us b x ∧ ∀ y, y < us.length → leW us a y → leW us b y → leW us x y
theorem leW_lt {us : List Nat} (hf : Fit us) (hin : Inside us) {a b : Nat} (ha : a < us.length) (h : leW us a b) : b < us.length := hin a ha b (hasB_lt (hf a) h) h
theorem joinAt_iff {us : List Nat} (hf : Fit us) (hin : Inside us) (ho : IsOrd us) {a b x : Nat} (ha : a < us.length) (hb : b < us.length) (hx : x < us.length) : JoinAt us a b x ↔ wd us x = andW (wd us a) (wd us b) := by
  constructor
  · rintro ⟨h1, h2, h3⟩
    apply word_ext
    intro z
    rw [hasB_and]
    cases hz : hasB (wd us x) z with
    | true =>
      have hzn := leW_lt hf hin hx hz
      have e1 : hasB (wd us a) z = true := leW_trans ho ha hx hzn h1 hz
      have e2 : hasB (wd us b) z = true := leW_trans ho hb hx hzn h2 hz
      rw [e1, e2]; rfl
    | false =>
      cases e1 : hasB (wd us a) z with
      | false => rfl
      | true =>
        cases e2 : hasB (wd us b) z with
        | false => rfl
        | true =>
          have := h3 z (leW_lt hf hin ha e1) e1 e2
          unfold leW at this
          rw [this] at hz; cases hz
  · intro h
    have hxx : leW us x x := leW_refl ho hx
    have h' : ∀ z, leW us x z ↔ leW us a z ∧ leW us b z := fun z => by unfold leW; rw [h, hasB_and]; simp
    exact ⟨((h' x).1 hxx).1, ((h' x).1 hxx).2, fun y _ h1 h2 => (h' y).2 ⟨h1, h2⟩⟩
/-- the first k places are no join -/
def NoJoin (us : List Nat) (a b k : Nat) : Prop := ∀ x, x < k → ¬ JoinAt us a b x
end Go.Proofs.YteoikfchmjnlfaaDoor
