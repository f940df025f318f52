/- Two structs held against each other at once. -/
import Derived.Test.YtnjidnghpaloeaaDoorAxW1
namespace Go.Proofs.YtnjidnghpaloeaaDoor.Ax
open Go.RowKit
theorem neq_pt (a b c d : Int) (w : World) : (binOp .neq 23 (.agg #[.int .i64 a, .int .i64 b]) (.agg #[.int .i64 c, .int .i64 d])).run Tryd.prog w = .ok (.bool (!(a == c && b == d))) w := by
  simp [go_sem]
  by_cases h : a = c <;> by_cases h' : b = d <;> simp [h, h']
theorem eql_pt (a b c d : Int) (w : World) : (binOp .eql 23 (.agg #[.int .i64 a, .int .i64 b]) (.agg #[.int .i64 c, .int .i64 d])).run Tryd.prog w = .ok (.bool (a == c && b == d)) w := by
  simp [go_sem]
  by_cases h : a = c <;> by_cases h' : b = d <;> simp [h, h']
end Go.Proofs.YtnjidnghpaloeaaDoor.Ax
