/- A part's ten cells in a row. No function of the program. -/
import Derived.Test.YtjhbmijdpcbbiaaVoPartO
import Derived.Test.YtjhbmijdpcbbiaaStRow
namespace Go.Proofs.Ytjhbmijdpcbbiaa
open Go.RowKit
open Pt (Tx)

/-- a part's ten cells -/
def cells10 (h : Rc.H) (lab at_ : Int) : List Value := [.string (tx h.path), .int .i64 h.version, .int .i64 h.size, .int .i64 h.from_, .int .i64 h.len, .int .i64 h.serial, .int .i64 h.sum, .bool h.gone, .int .i64 lab, .int .i64 at_]
def encP (lab : Int) : Enc (Rc.H × Nat) where
  k := 10
  pos := by decide
  enc q := cells10 q.1 lab q.2
  len _ := rfl
  one q u hu := by
    simp only [cells10, List.mem_cons, List.not_mem_nil, or_false] at hu
    rcases hu with rfl | rfl | rfl | rfl | rfl | rfl | rfl | rfl | rfl | rfl <;> rfl
theorem infoPart : (Try.prog.info? 45).map (fun i => (i.zero, i.size, i.bytes)) = some (some (.agg #[.string ⟨#[]⟩, .int .i64 0, .int .i64 0, .int .i64 0, .int .i64 0, .int .i64 0, .int .i64 0, .bool false, .int .i64 0, .int .i64 0]), 10, 88) := by kernel_rfl
end Go.Proofs.Ytjhbmijdpcbbiaa
