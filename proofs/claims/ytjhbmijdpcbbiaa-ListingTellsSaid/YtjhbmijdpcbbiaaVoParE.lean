/- Two parts that are alike, compared. -/
import Derived.Test.YtjhbmijdpcbbiaaVoCells
import Derived.Laws.StructEq
namespace Go.Proofs.Ytjhbmijdpcbbiaa
open Go.RowKit
open Pt (Tx)

theorem head_fields' : Try.prog.underlying 43 = some (.struct (Try.prog.fieldsOf 43)) := by kernel_rfl
theorem head_plain' : Try.prog.stoodInHeld 43 = false := by kernel_rfl
theorem part_fields : Try.prog.underlying 45 = some (.struct (Try.prog.fieldsOf 45)) := by kernel_rfl
theorem part_plain : Try.prog.stoodInHeld 45 = false := by kernel_rfl
theorem heads_same' (p : Tx) (v z f l s m : Int) (g : Bool) (w : World) (n : Nat) (hn : 100 ≤ n) : (Op.equalIn n 43 (.agg #[.string (tx p), .int .i64 v, .int .i64 z, .int .i64 f, .int .i64 l, .int .i64 s, .int .i64 m, .bool g]) (.agg #[.string (tx p), .int .i64 v, .int .i64 z, .int .i64 f, .int .i64 l, .int .i64 s, .int .i64 m, .bool g])).run Try.prog w = .ok true w := by
  obtain ⟨n, rfl⟩ : ∃ k, n = k + 2 := ⟨n - 2, by omega⟩
  rw [run_equalIn_agg w (n + 1) 43 _ _ head_fields' head_plain']
  simp [Program.fieldsOf, Try.underlying43, Op.eqFields, part, go_sem]
theorem parts_same (p : Tx) (v z f l s m : Int) (g : Bool) (lab at_ : Int) (w : World) : (Op.equalIn 10000 45 (.agg #[.string (tx p), .int .i64 v, .int .i64 z, .int .i64 f, .int .i64 l, .int .i64 s, .int .i64 m, .bool g, .int .i64 lab, .int .i64 at_]) (.agg #[.string (tx p), .int .i64 v, .int .i64 z, .int .i64 f, .int .i64 l, .int .i64 s, .int .i64 m, .bool g, .int .i64 lab, .int .i64 at_])).run Try.prog w = .ok true w := by
  rw [run_equalIn_agg w 9999 45 _ _ part_fields part_plain]
  simp [Program.fieldsOf, Try.underlying45, Op.eqFields, part, go_sem, heads_same']
theorem parts_neq (p : Tx) (v z f l s m : Int) (g : Bool) (lab at_ : Int) (w : World) : (binOp .neq 45 (.agg #[.string (tx p), .int .i64 v, .int .i64 z, .int .i64 f, .int .i64 l, .int .i64 s, .int .i64 m, .bool g, .int .i64 lab, .int .i64 at_]) (.agg #[.string (tx p), .int .i64 v, .int .i64 z, .int .i64 f, .int .i64 l, .int .i64 s, .int .i64 m, .bool g, .int .i64 lab, .int .i64 at_])).run Try.prog w = .ok (.bool false) w := by
  rw [run_neq_struct, parts_same]; rfl
end Go.Proofs.Ytjhbmijdpcbbiaa
