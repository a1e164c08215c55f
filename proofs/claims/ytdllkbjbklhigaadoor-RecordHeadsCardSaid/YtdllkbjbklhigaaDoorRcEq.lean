/- Two heads that are alike, compared. -/
import Derived.Test.YtdllkbjbklhigaaDoorRcWords
import Derived.Laws.StructEq
namespace Go.Proofs.YtdllkbjbklhigaaDoor
open Go.RowKit
open Pt (Tx)

theorem head_fields : Tryd.prog.underlying 23 = some (.struct (Tryd.prog.fieldsOf 23)) := by kernel_rfl
theorem head_plain : Tryd.prog.stoodInHeld 23 = false := by kernel_rfl
theorem head_guard : Tryd.prog.eqGuardType Tryd.prog.depth 23 = false := by kernel_rfl
theorem heads_same (p : Tx) (v z f l s m : Int) (g : Bool) (w : World) : (Op.equalIn 10000 23 (.agg #[.string (tx p), .int .i64 v, .int .i64 z, .int .i64 f, .int .i64 l, .int .i64 s, .int .i64 m, .bool g]) (.agg #[.string (tx p), .int .i64 v, .int .i64 z, .int .i64 f, .int .i64 l, .int .i64 s, .int .i64 m, .bool g])).run Tryd.prog w = .ok true w := by
  rw [run_equalIn_agg w 9999 23 _ _ head_fields head_plain]
  simp [Program.fieldsOf, Tryd.underlying23, Op.eqFields, part, go_sem]
theorem heads_eql (p : Tx) (v z f l s m : Int) (g : Bool) (w : World) : (binOp .eql 23 (.agg #[.string (tx p), .int .i64 v, .int .i64 z, .int .i64 f, .int .i64 l, .int .i64 s, .int .i64 m, .bool g]) (.agg #[.string (tx p), .int .i64 v, .int .i64 z, .int .i64 f, .int .i64 l, .int .i64 s, .int .i64 m, .bool g])).run Tryd.prog w = .ok (.bool true) w := by
  rw [run_eql_struct, heads_same]; rfl
theorem heads_neq (p : Tx) (v z f l s m : Int) (g : Bool) (w : World) : (binOp .neq 23 (.agg #[.string (tx p), .int .i64 v, .int .i64 z, .int .i64 f, .int .i64 l, .int .i64 s, .int .i64 m, .bool g]) (.agg #[.string (tx p), .int .i64 v, .int .i64 z, .int .i64 f, .int .i64 l, .int .i64 s, .int .i64 m, .bool g])).run Tryd.prog w = .ok (.bool false) w := by
  rw [run_neq_struct, heads_same]; rfl
end Go.Proofs.YtdllkbjbklhigaaDoor
