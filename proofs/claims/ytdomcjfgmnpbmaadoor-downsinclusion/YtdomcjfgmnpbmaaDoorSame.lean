/- The contract of the document's Orders: are two orders the same? -/
import Derived.Test.YtdomcjfgmnpbmaaDoorSameW
namespace Go.Proofs.YtdomcjfgmnpbmaaDoor
open Go.RowKit Go.Shelf

theorem Orders_any (n m : Int) (a b : Option Addr) (ca cb : Nat) (us vs : List Nat) (n₀ : Nat) (h40 : us.length ≤ 1099511627776) (w : World) (hu : IsWords n₀ w a us) (hv : IsWords n₀ w b vs) (hn₀ : n₀ ≤ w.heap.size) :
    Calls Tryd.prog 15 #[.agg #[.int .i64 n, .slice a us.length ca], .agg #[.int .i64 m, .slice b vs.length cb]] w fun e w' => e = .returned (.bool ((n == m) && sameB us vs)) ∧ Below w.heap.size w w' := by
  have hb0 : Below w.heap.size w ((w.alloc (.cells #[.int .i64 n, .slice a us.length ca] 24)).alloc (.cells #[.int .i64 m, .slice b vs.length cb] 24)) := ((Below.refl _ _).alloc (Nat.le_refl _) _).alloc (by simp) _
  have hwd := Words_any a b ca cb us vs n₀ h40 _ (hu.below (hb0.mono hn₀)) (hv.below (hb0.mono hn₀))
  have Hb := hide hb0; clear hb0
  cases he : (n == m) with
  | false =>
    go_enter Tryd.func15, Tryd.ntmps15
    go_wp2
    go_ret
    exact ⟨rfl, Hb.out⟩
  | true =>
    go_enter Tryd.func15, Tryd.ntmps15
    go_wp2_with (go_at_call 13; refine hwd.mono ?_; rintro e w1 ⟨rfl, hb1⟩)
    go_ret
    exact ⟨ret_bool (by simp), Hb.out.trans (hb1.mono (by simp; omega))⟩
end Go.Proofs.YtdomcjfgmnpbmaaDoor
