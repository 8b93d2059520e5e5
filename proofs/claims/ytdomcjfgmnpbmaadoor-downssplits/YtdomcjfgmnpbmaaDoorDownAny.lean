/- An order that lies ready for calls, from world to world; Down, Maximal, Minimal for every order and set. -/
import Derived.Test.YtdomcjfgmnpbmaaDoorDownLow
namespace Go.Proofs.YtdomcjfgmnpbmaaDoor
open Go.RowKit Go.Shelf

/-- what a call that is handed an order asks of the world -/
structure Ready (a : Option Addr) (us : List Nat) (n₀ : Nat) (W : World) : Prop where
  fit : Fit us
  tab : TabAt W
  wds : IsWords n₀ W a us
  glo : 0 < n₀
  le : n₀ ≤ W.heap.size
theorem Ready.step {a : Option Addr} {us : List Nat} {n₀ : Nat} {W W' : World} (h : Ready a us n₀ W) (hb : Below W.heap.size W W') : Ready a us n₀ W' :=
  ⟨h.fit, h.tab.below hb (by have := h.glo; have := h.le; omega), h.wds.below (hb.mono h.le), h.glo, by have := h.le; have := hb.size; omega⟩
theorem downA {a : Option Addr} {us : List Nat} {n₀ : Nat} {W : World} (h : Ready a us n₀ W) (cap : Nat) {s : Nat} (hs : s < 4294967296) (hc : codeS us.length us s = 0) :
    Calls Tryd.prog 28 #[.agg #[.int .i64 us.length, .slice a us.length cap], .int .u32 s] W fun e w' => e = setAns 0 (downW us s) ∧ Below W.heap.size W w' :=
  Down_ok a cap us s hs n₀ h.fit W h.tab h.wds h.glo h.le hc
theorem downB {a : Option Addr} {us : List Nat} {n₀ : Nat} {W : World} (h : Ready a us n₀ W) (n : Int) (cap : Nat) {s : Nat} (hs : s < 4294967296) (hc : codeS n us s ≠ 0) :
    Calls Tryd.prog 28 #[.agg #[.int .i64 n, .slice a us.length cap], .int .u32 s] W fun e w' => e = setAns (codeS n us s) 0 ∧ Below W.heap.size W w' :=
  Down_bad n a cap us s hs n₀ h.fit W h.tab h.wds h.glo h.le hc
theorem codeS_len {n : Int} {us : List Nat} {s : Nat} (h : codeS n us s = 0) : (us.length : Int) = n := (code_zero (codeS_zero h).1).2.2.1
theorem codeS_set {us : List Nat} {s t : Nat} (h : codeS us.length us s = 0) (ht : Only us.length t) : codeS us.length us t = 0 := codeS_ok (codeS_zero h).1 (outside_of ht)
end Go.Proofs.YtdomcjfgmnpbmaaDoor
