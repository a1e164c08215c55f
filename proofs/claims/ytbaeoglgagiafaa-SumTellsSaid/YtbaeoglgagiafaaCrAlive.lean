/- The example of chapter 4 holds: 'alive' answers true. -/
import Derived.Test.YtbaeoglgagiafaaCrSum
import Derived.Lib.SlBytesConst
namespace Go.Proofs.Ytbaeoglgagiafaa
open Go.RowKit Mx

def exDig : Nat → Fe := fun j => mk ((49 + j) % 256) (Nat.mod_lt _ (by decide))
theorem crc_exDig : bi (crc 0#32 exDig 9) = 3808858755 := by decide +kernel
theorem crc_none (r : Nat → Fe) : bi (crc 0#32 r 0) = 0 := by
  show bi (~~~(~~~0#32)) = 0
  decide
theorem lit_dig (w : World) : Rd (w.alloc (.cells #[.int .u8 49, .int .u8 50, .int .u8 51, .int .u8 52, .int .u8 53, .int .u8 54, .int .u8 55, .int .u8 56, .int .u8 57] 5 (9, 10))) (some ⟨w.heap.size, 0, none⟩) 9 exDig (fun _ => True) := by
  intro _
  refine ⟨w.heap.size, 0, rfl, trivial, fun j hj => ?_⟩
  rw [Nat.zero_add, cell_of_row _ _ _ _ _ _ (heap_alloc_new w _)]
  rcases (show j = 0 ∨ j = 1 ∨ j = 2 ∨ j = 3 ∨ j = 4 ∨ j = 5 ∨ j = 6 ∨ j = 7 ∨ j = 8 by omega) with rfl | rfl | rfl | rfl | rfl | rfl | rfl | rfl | rfl <;> rfl
set_option maxRecDepth 100000 in
set_option maxHeartbeats 2000000 in
theorem alive4_true (w : World) : Calls Try.prog 7 #[] w fun e w' => e = .returned (.bool true) ∧ Below w.heap.size w w' := by
  have kc := fun (w : World) (C : Array Value) (n c : Nat) => Lib.run_convert_bytes_const (P := Try.prog) w 22 5 C n c Try.underlying22 Try.underlying5
  go_enter Try.func7, Try.ntmps7
  go_wp2_with fail
  refine (sum_any _ 9 _ exDig _ _ (by decide) (lit_dig w)).mono ?_
  rintro e w1 ⟨rfl, rfl⟩
  clear kc
  rw [crc_exDig]
  go_wp2_with fail
  refine (sum_any none 0 0 exDig (fun _ => True) _ (by decide) (Rd.empty _ _ _ _)).mono ?_
  rintro e w1 ⟨rfl, rfl⟩
  rw [crc_none]
  go_wp2
  go_ret
  exact ⟨rfl, (Below.refl _ _).alloc (Nat.le_refl _) _⟩
end Go.Proofs.Ytbaeoglgagiafaa
