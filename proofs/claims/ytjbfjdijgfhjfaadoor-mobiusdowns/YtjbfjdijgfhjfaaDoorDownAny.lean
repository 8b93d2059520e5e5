/- An order that lies ready for calls, from world to world; Down, Maximal, Minimal for every order and set. -/
import Derived.Test.YtjbfjdijgfhjfaaDoorDownLow
namespace Go.Proofs.YtjbfjdijgfhjfaaDoor
open Go.RowKit Go.Shelf

/-- what a call that is handed an order asks of the world -/
structure Ready (a : Option Addr) (us : List Nat) (n₀ : Nat) (W : World) : Prop where
  fit : Fit us
  tab : TabAt W
  wds : IsWords n₀ W a us
  glo : 0 < n₀
  le : n₀ ≤ W.heap.size
theorem Ready.step {a : Option Addr} {us : List Nat} {n₀ : Nat} {W W' : World} (h : Ready a us n₀ W) (hb : Below W.heap.size W W') : Ready a us n₀ W' :=
  ⟨h.fit, h.tab.below hb (by have := h.glo; have := h.le; omega), h.wds.below (hb.mono h.le), h.glo, by have := h.le; have := hb.size; omega⟩
theorem codeS_len {n : Int} {us : List Nat} {s : Nat} (h : codeS n us s = 0) : (us.length : Int) = n := (code_zero (codeS_zero h).1).2.2.1
theorem codeS_set {us : List Nat} {s t : Nat} (h : codeS us.length us s = 0) (ht : Only us.length t) : codeS us.length us t = 0 := codeS_ok (codeS_zero h).1 (outside_of ht)
end Go.Proofs.YtjbfjdijgfhjfaaDoor
