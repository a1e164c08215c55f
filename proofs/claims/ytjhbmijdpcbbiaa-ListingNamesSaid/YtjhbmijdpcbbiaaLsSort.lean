/- What slices.Sort makes of an own row of texts, also of none. -/
import Derived.Test.YtjhbmijdpcbbiaaShelf
import Derived.Test.YtjhbmijdpcbbiaaTxR
import Derived.Test.YtjhbmijdpcbbiaaChecked
import Derived.OwnWalk
import Derived.Handy
import Derived.WalkSpells
import Derived.WalkLawsBesides
import Derived.Sort.OwnSorted
namespace Go.Proofs.Ytjhbmijdpcbbiaa
open Go.RowKit Go.Sort
open Pt (Tx)

set_option maxRecDepth 100000 in
set_option maxHeartbeats 2000000 in
theorem len64_zero (w : World) : Calls Try.prog 38 #[.int .u64 0] w fun e w' => e = .returned (.int .i64 0) ∧ w = w' := by
  have e8 : Lib.len8 0 = 0 := by kernel_rfl
  go_enter Try.func38, Try.ntmps38
  go_wp2
  go_ret
  exact ⟨rfl, rfl⟩
theorem len_zero (w : World) : Calls Try.prog 27 #[.int .u64 0] w fun e w' => e = .returned (.int .i64 0) ∧ w = w' := by
  go_enter Try.func27, Try.ntmps27
  go_wp2_with fail
  refine (len64_zero w).mono ?_
  rintro e w1 ⟨rfl, rfl⟩
  go_wp2
  go_ret
  exact ⟨rfl, rfl⟩
theorem insertion_none (w : World) : Calls Try.prog 28 #[.slice none 0 0, .int .i64 0, .int .i64 0] w fun e w' => e = .returned (.tuple #[]) ∧ w = w' := by
  go_enter Try.func28, Try.ntmps28
  go_wp2
  refine wp_loop_rounds 1 ?_
  rw [rounds_succ]
  go_wp2
  go_end0
  exact ⟨rfl, rfl⟩
set_option maxRecDepth 100000 in
theorem pdq_none (w : World) : Calls Try.prog 26 #[.slice none 0 0, .int .i64 0, .int .i64 0, .int .i64 0] w fun e w' => e = .returned (.tuple #[]) ∧ w = w' := by
  go_enter Try.func26, Try.ntmps26
  go_wp2
  refine wp_loop_rounds 1 ?_
  rw [rounds_succ]
  go_wp2_with fail
  refine (insertion_none w).mono ?_
  rintro e w1 ⟨rfl, rfl⟩
  go_wp2
  refine bodyPost_ret (results_none rfl _ _ _) rfl ?_
  exact ⟨rfl, rfl⟩
set_option maxRecDepth 100000 in
theorem sort_none (w : World) : Calls Try.prog 24 #[.slice none 0 0] w fun e w' => e = .returned (.tuple #[]) ∧ w = w' := by
  go_enter Try.func24, Try.ntmps24
  go_wp2_with (first
    | (go_at_call 27; refine (len_zero _).mono ?_; rintro e w1 ⟨rfl, rfl⟩)
    | (go_at_call 26; refine (pdq_none _).mono ?_; rintro e w1 ⟨rfl, rfl⟩))
  go_end0
  exact ⟨rfl, rfl⟩
/-- an own row of texts, sorted -/
theorem sortT_any (base : Nat) (ss : List Tx) (v : Value) (w : World) (hn : ss.length ≤ 1000000) (h : w.ownsRow base 9 1 v ss.length (cellsT ss)) :
    Calls Try.prog 24 #[v] w fun e w' => e = .returned (.tuple #[]) ∧ w'.ownsRow base 9 1 v ss.length (cellsT (ss.mergeSort fun x y => decide (x ≤ y))) ∧ w.grownBy w' v.ownBlock := by
  rcases h.2 with ⟨rfl, h0⟩ | ⟨g, cap, cur, rfl, hbase, hb, h1, h2, h3, h4⟩
  · refine (sort_none w).mono ?_
    rintro e w1 ⟨rfl, rfl⟩
    have hs : ss = [] := List.length_eq_zero_iff.1 h0
    subst hs
    have e : cellsT (([] : List Tx).mergeSort fun x y => decide (x ≤ y)) = [] := by simp [cellsT]
    rw [e]
    exact ⟨rfl, World.ownsRow_nil _ _ _ _, ⟨rfl, rfl, rfl, Nat.le_refl _, fun _ _ _ => rfl⟩⟩
  · have h4' : cur.toList.take ss.length = ss.map encStr := by rw [Nat.mul_one] at h4; exact h4
    refine (Try.slices_Sort_string g 0 cap ss w (holds_of_block hb h4') (Array.getElem?_eq_some_iff.1 hb).1 (by omega)).mono ?_
    rintro e w1 ⟨rfl, nn, os, rfl⟩
    exact ⟨rfl, ownsRow_sorted (by simp) hbase hb h1 h2 h3, grownBy_sorted _⟩
end Go.Proofs.Ytjhbmijdpcbbiaa
