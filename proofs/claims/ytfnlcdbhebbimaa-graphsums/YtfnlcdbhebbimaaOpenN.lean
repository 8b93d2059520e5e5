/- How a node that came in is opened for the walks. -/
import Derived.Test.YtfnlcdbhebbimaaOpenS
import Derived.Deep.Strs
namespace Go.Proofs.Ytfnlcdbhebbimaa
open Go.ChangeShapes Go.WideShapes Go.ChangeAt Go.RowKit Go.Joins

theorem cellsNode : Try.prog.cellsOf 34 = 5 := by kernel_rfl
theorem cellsInt : Try.prog.cellsOf 3 = 1 := by kernel_rfl
theorem node_weigh {H : Type} {enc : TypeId × Value → H} {W : World} {v : Value} {d : DataW H} {p : List MemPlace}
    (hv : Value.okWide Try.prog W .any 0 34 v) (h : DataW.Trod enc Try.prog W 0 (fun _ => true) true 34 v d p) :
    ∃ (k dd : Int) (o x y : Value), v = .agg #[.int .i64 k, .int .i64 dd, o, x, y] := by
  obtain ⟨cs, rfl, hsz⟩ := okWide_struct Try.underlying34 hv
  obtain ⟨fuel, hf⟩ := h
  obtain ⟨y0, y1, y2, n, hx, hl, h0, h1, h2⟩ := Go.Deep.trod_struct3 Try.underlying34 hf
  rw [cellsNode] at hsz
  obtain ⟨k, e0, _, _⟩ := DataW.trod_int Try.underlying3 h0
  obtain ⟨dd, e1, _, _⟩ := DataW.trod_int Try.underlying3 h1
  rcases cs with ⟨l⟩
  rcases l with _ | ⟨v0, _ | ⟨v1, _ | ⟨v2, _ | ⟨v3, _ | ⟨v4, _ | ⟨v5, l⟩⟩⟩⟩⟩⟩ <;> simp at hsz
  simp [Value.cells, cellsInt] at e0 e1
  subst e0 e1
  exact ⟨k, dd, v2, v3, v4, rfl⟩
end Go.Proofs.Ytfnlcdbhebbimaa
