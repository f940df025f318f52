/- Two structs held against each other at once. -/
import Derived.Test.YtcmfkdhadmfgkaaDoorAxW1
namespace Go.Proofs.YtcmfkdhadmfgkaaDoor.Ax
open Go.RowKit
theorem neq_pt (a b c d : Int) (w : World) : (binOp .neq 70 (.agg #[.int .i64 a, .int .i64 b]) (.agg #[.int .i64 c, .int .i64 d])).run Tryd.prog w = .ok (.bool (!(a == c && b == d))) w := by
  simp [go_sem]
  by_cases h : a = c <;> by_cases h' : b = d <;> simp [h, h']
theorem eql_pt (a b c d : Int) (w : World) : (binOp .eql 70 (.agg #[.int .i64 a, .int .i64 b]) (.agg #[.int .i64 c, .int .i64 d])).run Tryd.prog w = .ok (.bool (a == c && b == d)) w := by
  simp [go_sem]
  by_cases h : a = c <;> by_cases h' : b = d <;> simp [h, h']
theorem neq_ce (a b h c d k : Int) (w : World) : (binOp .neq 72 (.agg #[.int .i64 a, .int .i64 b, .int .i64 h]) (.agg #[.int .i64 c, .int .i64 d, .int .i64 k])).run Tryd.prog w = .ok (.bool (!(a == c && (b == d && h == k)))) w := by
  simp [go_sem]
  by_cases h1 : a = c <;> by_cases h2 : b = d <;> by_cases h3 : h = k <;> simp [h1, h2, h3]
theorem eql_ce (a b h c d k : Int) (w : World) : (binOp .eql 72 (.agg #[.int .i64 a, .int .i64 b, .int .i64 h]) (.agg #[.int .i64 c, .int .i64 d, .int .i64 k])).run Tryd.prog w = .ok (.bool (a == c && (b == d && h == k))) w := by
  simp [go_sem]
  by_cases h1 : a = c <;> by_cases h2 : b = d <;> by_cases h3 : h = k <;> simp [h1, h2, h3]
theorem neq_rc (a b h c d k : Int) (w : World) : (binOp .neq 67 (.agg #[.int .i64 a, .int .i64 b, .int .i64 h]) (.agg #[.int .i64 c, .int .i64 d, .int .i64 k])).run Tryd.prog w = .ok (.bool (!(a == c && (b == d && h == k)))) w := by
  simp [go_sem]
  by_cases h1 : a = c <;> by_cases h2 : b = d <;> by_cases h3 : h = k <;> simp [h1, h2, h3]
theorem eql_rc (a b h c d k : Int) (w : World) : (binOp .eql 67 (.agg #[.int .i64 a, .int .i64 b, .int .i64 h]) (.agg #[.int .i64 c, .int .i64 d, .int .i64 k])).run Tryd.prog w = .ok (.bool (a == c && (b == d && h == k))) w := by
  simp [go_sem]
  by_cases h1 : a = c <;> by_cases h2 : b = d <;> by_cases h3 : h = k <;> simp [h1, h2, h3]
end Go.Proofs.YtcmfkdhadmfgkaaDoor.Ax
