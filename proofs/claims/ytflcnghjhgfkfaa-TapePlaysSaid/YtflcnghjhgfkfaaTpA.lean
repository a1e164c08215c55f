/- A drive's Len, Room, has, keep, Read, Append. -/
import Derived.Test.YtflcnghjhgfkfaaTpWords
import Derived.Test.YtflcnghjhgfkfaaChecked
import Derived.OwnWalk
import Derived.Handy
import Derived.WalkSpells
import Derived.WalkLawsBesides
import Derived.StillTailTactics
import Derived.Deep.QuietTactic
import Derived.BigQuiet
import Derived.Lib.SliceRun
namespace Go.Proofs.Ytflcnghjhgfkfaa
open Go.RowKit
open Pt (Tx)

theorem num_any (n : Int) (w : World) : Calls Try.prog 12 #[.int .i64 n] w fun e w' => e = .returned (.int .i64 n) ∧ w = w' := by
  go_enter Try.func12, Try.ntmps12
  go_wp2
  go_ret
  exact ⟨rfl, rfl⟩
theorem dlen_any (g : Nat) (lab most : Int) (bs : List Tx) (w : World) (h : Dr w g lab most bs) :
    Calls Try.prog 21 #[.pointer (some ⟨g, 0, none⟩)] w fun e w' => e = .returned (.int .i64 (bs.length : Int)) ∧ w = w' := by
  have c2 := h.mem.c2
  go_enter Try.func21, Try.ntmps21
  go_wp2
  go_ret
  exact ⟨rfl, rfl⟩
theorem dlen_as (g : Nat) (lab most : Int) (bs : List Tx) (w : World) (h : Dr w g lab most bs) (n : Nat) (hn : bs.length = n) :
    Calls Try.prog 21 #[.pointer (some ⟨g, 0, none⟩)] w fun e w' => e = .returned (.int .i64 (n : Int)) ∧ w = w' := by
  subst hn; exact dlen_any g lab most bs w h
theorem room_any (g : Nat) (lab most : Int) (bs : List Tx) (w : World) (h : Dr w g lab most bs) :
    Calls Try.prog 22 #[.pointer (some ⟨g, 0, none⟩)] w fun e w' => e = .returned (.int .i64 (most - (bs.length : Int))) ∧ ∃ n, w' = w.drewN n := by
  have c1 := h.mem.c1
  have c2 := h.mem.c2
  have l1 := h.lo
  have l2 := h.hi
  have l3 := h.fit
  go_enter Try.func22, Try.ntmps22
  go_wp2
  go_quiet (fail)
  go_wp2
  go_ret
  exact ⟨rfl, _, rfl⟩
theorem has_yes (g : Nat) (lab most : Int) (bs : List Tx) (w : World) (h : Dr w g lab most bs) (n : Nat) (hn : n < bs.length) :
    Calls Try.prog 27 #[.pointer (some ⟨g, 0, none⟩), .int .i64 (n : Int)] w fun e w' => e = .returned (.bool true) ∧ w = w' := by
  have c2 := h.mem.c2
  have d1 : decide (n < bs.length) = true := decide_eq_true hn
  go_enter Try.func27, Try.ntmps27
  go_wp2
  go_ret
  exact ⟨rfl, rfl⟩
theorem has_no (g : Nat) (lab most : Int) (bs : List Tx) (w : World) (h : Dr w g lab most bs) (n : Int) (hn : n < 0 ∨ (bs.length : Int) ≤ n) :
    Calls Try.prog 27 #[.pointer (some ⟨g, 0, none⟩), .int .i64 n] w fun e w' => e = .returned (.bool false) ∧ w = w' := by
  have c2 := h.mem.c2
  by_cases h0 : n < 0
  · have d0 : decide (0 ≤ n) = false := decide_eq_false (by omega)
    go_enter Try.func27, Try.ntmps27
    go_wp2
    go_ret
    exact ⟨rfl, rfl⟩
  · have d0 : decide (0 ≤ n) = true := decide_eq_true (by omega)
    have d1 : decide (n < (bs.length : Int)) = false := decide_eq_false (by omega)
    go_enter Try.func27, Try.ntmps27
    go_wp2
    go_ret
    exact ⟨rfl, rfl⟩
end Go.Proofs.Ytflcnghjhgfkfaa
