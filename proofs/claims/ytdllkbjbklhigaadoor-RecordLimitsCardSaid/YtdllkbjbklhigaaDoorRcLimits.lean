/- What RecordLimits answers: true. -/
import Derived.Test.YtdllkbjbklhigaaDoorRcAlive
namespace Go.Proofs.YtdllkbjbklhigaaDoor
open Go.RowKit
open Pt (Tx)

set_option maxHeartbeats 2000000 in
theorem limits_out (k : Int) (over : Bool) (w : World) (hk : Kept w) (h : k < 0 ∨ 6 < k) :
    Calls Tryd.prog 5 #[.int .i64 k, .bool over] w (AnsB true w) := by
  have HC := Lib.hid (alive10_true w hk)
  clear hk
  by_cases c1 : k < 0
  · have q1 : decide (k < 0) = true := decide_eq_true c1
    clear c1 h
    go_enter Tryd.func5, Tryd.ntmps5
    go_wp2_with fail
    refine HC.out.mono ?_
    rintro e w1 ⟨rfl, hb1⟩
    have HB1 := Lib.hid hb1
    clear hb1
    go_wp2
    go_ret
    exact ⟨rfl, HB1.out⟩
  · have q1 : decide (k < 0) = false := decide_eq_false c1
    have q2 : decide (6 < k) = true := decide_eq_true (by omega)
    clear c1 h
    go_enter Tryd.func5, Tryd.ntmps5
    go_wp2_with fail
    refine HC.out.mono ?_
    rintro e w1 ⟨rfl, hb1⟩
    have HB1 := Lib.hid hb1
    clear hb1
    go_wp2
    go_ret
    exact ⟨rfl, HB1.out⟩
set_option maxHeartbeats 8000000 in
theorem limits_in (k : Int) (over : Bool) (w : World) (hk : Kept w) (h : k = 0 ∨ k = 1 ∨ k = 2 ∨ k = 3 ∨ k = 4 ∨ k = 5 ∨ k = 6) :
    Calls Tryd.prog 5 #[.int .i64 k, .bool over] w (AnsB true w) := by
  have HC := Lib.hid (alive10_true w hk)
  have HK := Lib.hid hk
  clear hk
  have HR : Hid (∀ (p : Tx) (v z f l s m : Int) (g : Bool) (b : Bool) (w : World), p.length ≤ maxLen → decide (Rc.Ok ⟨p, v, z, f, l, s, m, g⟩) = b → Kept w →
      Calls Tryd.prog 12 #[.agg #[.string (tx p), .int .i64 v, .int .i64 z, .int .i64 f, .int .i64 l, .int .i64 s, .int .i64 m, .bool g]] w (AnsB b w)) :=
    Lib.hid fun p v z f l s m g b w hl hd hk => by rw [← hd]; exact rightHead_any p v z f l s m g w hl hk
  rcases h with rfl | rfl | rfl | rfl | rfl | rfl | rfl <;> cases over
  all_goals
    go_enter Tryd.func5, Tryd.ntmps5
    go_wp2_with fail
    refine HC.out.mono ?_
    rintro e w1 ⟨rfl, hb1⟩
    have HK1 := Lib.hid (HK.out.old hb1)
    have HB1 := Lib.hid hb1
    have hz1 : w.heap.size ≤ w1.heap.size := hb1.size
    clear hb1
    go_wp2_with fail
    first | refine (HR.out [97] _ _ _ _ _ _ _ true _ (by decide) (by decide) ?_).mono ?_ | refine (HR.out [97] _ _ _ _ _ _ _ false _ (by decide) (by decide) ?_).mono ?_
    · exact HK1.out.old ((Below.refl _ _).alloc (Nat.le_refl _) _)
    rintro e w2 ⟨rfl, hb2⟩
    have HB2 := Lib.hid ((HB1.out.alloc HB1.out.size _).trans (hb2.mono (by simp; omega)))
    clear hb2
    go_wp2
    go_ret
    exact ⟨rfl, HB2.out⟩
end Go.Proofs.YtdllkbjbklhigaaDoor
