/- The parts of an order that a call answers. -/
import Derived.Test.YtdomcjfgmnpbmaaDoorProg
import Derived.WalkKit
namespace Go.Proofs.YtdomcjfgmnpbmaaDoor
open Go.RowKit

theorem run_field_up (n : Int) (a : Option Addr) (len cap : Nat) (w : World) : Sem.run Tryd.prog (Instr.field 24 (.agg #[.int .i64 n, .slice a len cap]) 1) w = .ok (.slice a len cap) w := by
  first | kernel_rfl | rfl
end Go.Proofs.YtdomcjfgmnpbmaaDoor
