/- What rightPiece and RightHead of package record answer. -/
import Derived.Test.YtndofmoepjfnfaaDoorMaq
import Derived.Test.YtndofmoepjfnfaaDoorMar
namespace Go.Proofs.YtndofmoepjfnfaaDoor
open Go.RowKit
open Pt (Tx)

/-- size, from and len can be those of a part -/
def pieceB (z f l : Int) : Bool := btw z 0 4000 && (btw f 0 z && (btw l 0 (z - f) && (decide (0 < l) || z == 0)))
set_option maxHeartbeats 1000000 in
theorem piece_any (p : Tx) (v z f l s m : Int) (g : Bool) (w : World) :
    Calls Tryd.prog 67 #[.agg #[.string (tx p), .int .i64 v, .int .i64 z, .int .i64 f, .int .i64 l, .int .i64 s, .int .i64 m, .bool g]] w (AnsB (pieceB z f l) w) := by
  have HB : Hid (Below w.heap.size w (w.alloc (headObj p v z f l s m g))) := Lib.hid ((Below.refl _ _).alloc (Nat.le_refl _) _)
  unfold headObj at HB
  cases q1 : btw z 0 4000 with
  | false =>
    have H : Hid (pieceB z f l = false) := Lib.hid (by unfold pieceB; rw [q1]; rfl)
    go_enter Tryd.func67, Tryd.ntmps67
    go_wp2_with (go_at_call 66; refine (between_any _ _ _ _).mono ?_; rintro e w' ⟨rfl, hw'⟩; subst hw')
    go_ret
    rw [H.out]
    exact ⟨rfl, HB.out⟩
  | true =>
    cases q2 : btw f 0 z with
    | false =>
      have H : Hid (pieceB z f l = false) := Lib.hid (by unfold pieceB; rw [q1, q2]; rfl)
      go_enter Tryd.func67, Tryd.ntmps67
      go_wp2_with (go_at_call 66; refine (between_any _ _ _ _).mono ?_; rintro e w' ⟨rfl, hw'⟩; subst hw')
      go_ret
      rw [H.out]
      exact ⟨rfl, HB.out⟩
    | true =>
      have b1 := btw_yes q1
      have b2 := btw_yes q2
      have hz0 : 0 ≤ z := b1.1
      have hz1 : z ≤ 4000 := b1.2
      have hf0 : 0 ≤ f := b2.1
      have hf1 : f ≤ z := b2.2
      clear b1 b2
      cases q3 : btw l 0 (z - f) with
      | false =>
        have H : Hid (pieceB z f l = false) := Lib.hid (by unfold pieceB; rw [q1, q2, q3]; rfl)
        go_enter Tryd.func67, Tryd.ntmps67
        go_wp2_with (go_at_call 66; refine (between_any _ _ _ _).mono ?_; rintro e w' ⟨rfl, hw'⟩; subst hw')
        go_ret
        rw [H.out]
        exact ⟨rfl, HB.out⟩
      | true =>
        cases q4 : decide (0 < l) with
        | true =>
          have H : Hid (pieceB z f l = true) := Lib.hid (by unfold pieceB; rw [q1, q2, q3, q4]; rfl)
          go_enter Tryd.func67, Tryd.ntmps67
          go_wp2_with (go_at_call 66; refine (between_any _ _ _ _).mono ?_; rintro e w' ⟨rfl, hw'⟩; subst hw')
          go_ret
          rw [H.out]
          exact ⟨rfl, HB.out⟩
        | false =>
          have H : Hid (pieceB z f l = (z == 0)) := Lib.hid (by unfold pieceB; rw [q1, q2, q3, q4]; rfl)
          go_enter Tryd.func67, Tryd.ntmps67
          go_wp2_with (go_at_call 66; refine (between_any _ _ _ _).mono ?_; rintro e w' ⟨rfl, hw'⟩; subst hw')
          go_ret
          rw [H.out]
          exact ⟨rfl, HB.out⟩
/-- which heads are right, as RightHead asks -/
def rightB (r : Bool) (v z f l s m : Int) (g : Bool) : Bool :=
  r && (btw v 1 1073741824 && (btw s 1 1073741824 && (if g then (z == 0) && ((f == 0) && ((l == 0) && (m == 0))) else pieceB z f l && btw m 0 4294967295)))
theorem rightB_ok (p : Tx) (v z f l s m : Int) (g : Bool) : rightB (Pt.right p) v z f l s m g = decide (Rc.Ok ⟨p, v, z, f, l, s, m, g⟩) := by
  rw [Bool.eq_iff_iff, decide_eq_true_eq]
  unfold rightB pieceB btw Rc.Ok Rc.Nums
  cases g
  · simp only [Bool.and_eq_true, Bool.or_eq_true, decide_eq_true_eq, beq_iff_eq, Bool.false_eq_true, if_false]
    constructor
    · rintro ⟨h1, ⟨h2, h3⟩, ⟨h4, h5⟩, ⟨⟨h6, h7⟩, ⟨h8, h9⟩, ⟨h10, h11⟩, h12⟩, h13, h14⟩
      exact ⟨h1, ⟨h2, h3⟩, ⟨h4, h5⟩, ⟨h6, h7⟩, h8, h10, by omega, h12, ⟨h13, h14⟩, fun h => h.elim⟩
    · rintro ⟨h1, ⟨h2, h3⟩, ⟨h4, h5⟩, ⟨h6, h7⟩, h8, h10, h11, h12, ⟨h13, h14⟩, -⟩
      exact ⟨h1, ⟨h2, h3⟩, ⟨h4, h5⟩, ⟨⟨h6, h7⟩, ⟨h8, by omega⟩, ⟨h10, by omega⟩, h12⟩, h13, h14⟩
  · simp only [Bool.and_eq_true, decide_eq_true_eq, beq_iff_eq, if_true]
    constructor
    · rintro ⟨h1, ⟨h2, h3⟩, ⟨h4, h5⟩, rfl, rfl, rfl, rfl⟩
      exact ⟨h1, ⟨h2, h3⟩, ⟨h4, h5⟩, by decide, by decide, by decide, by decide, by decide, by decide, fun _ => ⟨rfl, rfl, rfl, rfl⟩⟩
    · rintro ⟨h1, ⟨h2, h3⟩, ⟨h4, h5⟩, -, -, -, -, -, -, h⟩
      exact ⟨h1, ⟨h2, h3⟩, ⟨h4, h5⟩, (h trivial).1, (h trivial).2.1, (h trivial).2.2.1, (h trivial).2.2.2⟩
set_option maxHeartbeats 4000000 in
theorem rightHead_way (r : Bool) (p : Tx) (v z f l s m : Int) (g : Bool) (w : World) (hr : Pt.right p = r) (hl : p.length ≤ maxLen) (hk : Kept w) :
    Calls Tryd.prog 56 #[.agg #[.string (tx p), .int .i64 v, .int .i64 z, .int .i64 f, .int .i64 l, .int .i64 s, .int .i64 m, .bool g]] w (AnsB (rightB r v z f l s m g) w) := by
  have HB0 : Hid (Below w.heap.size w (w.alloc (headObj p v z f l s m g))) := Lib.hid ((Below.refl _ _).alloc (Nat.le_refl _) _)
  have HU0 : Hid ((w.alloc (headObj p v z f l s m g)).heap[w.heap.size]? = some (headObj p v z f l s m g)) := Lib.hid (Go.Deep.blk_alloc_new _ _)
  have hcall := right_any p (w.alloc (headObj p v z f l s m g)) hl (hk.old HB0.out)
  rw [hr] at hcall
  have HC := Lib.hid hcall
  clear hl hk hr hcall
  obtain ⟨a0, a1, a2, a3, a4, a5, a6, a7⟩ := head8 HU0.out
  unfold headObj at a0 a1 a2 a3 a4 a5 a6 a7 HC
  cases r with
  | false =>
    have H : Hid (rightB false v z f l s m g = false) := Lib.hid (by unfold rightB; rfl)
    go_enter Tryd.func56, Tryd.ntmps56
    go_wp2_with fail
    refine HC.out.mono ?_
    rintro e w1 ⟨rfl, hb⟩
    have HU1 := Lib.hid (below_head hb HU0.out)
    have HB1 := Lib.hid (HB0.out.trans (hb.mono HB0.out.size))
    clear hb a0 a1 a2 a3 a4 a5 a6 a7
    obtain ⟨a0, a1, a2, a3, a4, a5, a6, a7⟩ := head8 HU1.out
    go_wp2_with (first
      | (go_at_call 66; refine (between_any _ _ _ _).mono ?_; rintro e w' ⟨rfl, hw'⟩; subst hw')
      | (go_at_call 67; refine (piece_any p v z f l s m _ _).mono ?_; rintro e w3 ⟨rfl, hb3⟩; obtain ⟨k0, k1, k2, k3, k4, k5, k6, k7⟩ := head8 (below_head hb3 HU1.out); have HB3 := Lib.hid (HB1.out.trans (hb3.mono HB1.out.size)); clear hb3))
    go_ret
    rw [H.out]
    first | exact ⟨rfl, HB3.out⟩ | exact ⟨rfl, HB1.out⟩
  | true =>
    cases q1 : btw v 1 1073741824 with
    | false =>
      have H : Hid (rightB true v z f l s m g = false) := Lib.hid (by unfold rightB; rw [q1]; rfl)
      go_enter Tryd.func56, Tryd.ntmps56
      go_wp2_with fail
      refine HC.out.mono ?_
      rintro e w1 ⟨rfl, hb⟩
      have HU1 := Lib.hid (below_head hb HU0.out)
      have HB1 := Lib.hid (HB0.out.trans (hb.mono HB0.out.size))
      clear hb a0 a1 a2 a3 a4 a5 a6 a7
      obtain ⟨a0, a1, a2, a3, a4, a5, a6, a7⟩ := head8 HU1.out
      go_wp2_with (first
        | (go_at_call 66; refine (between_any _ _ _ _).mono ?_; rintro e w' ⟨rfl, hw'⟩; subst hw')
        | (go_at_call 67; refine (piece_any p v z f l s m _ _).mono ?_; rintro e w3 ⟨rfl, hb3⟩; obtain ⟨k0, k1, k2, k3, k4, k5, k6, k7⟩ := head8 (below_head hb3 HU1.out); have HB3 := Lib.hid (HB1.out.trans (hb3.mono HB1.out.size)); clear hb3))
      go_ret
      rw [H.out]
      first | exact ⟨rfl, HB3.out⟩ | exact ⟨rfl, HB1.out⟩
    | true =>
      cases q2 : btw s 1 1073741824 with
      | false =>
        have H : Hid (rightB true v z f l s m g = false) := Lib.hid (by unfold rightB; rw [q1, q2]; rfl)
        go_enter Tryd.func56, Tryd.ntmps56
        go_wp2_with fail
        refine HC.out.mono ?_
        rintro e w1 ⟨rfl, hb⟩
        have HU1 := Lib.hid (below_head hb HU0.out)
        have HB1 := Lib.hid (HB0.out.trans (hb.mono HB0.out.size))
        clear hb a0 a1 a2 a3 a4 a5 a6 a7
        obtain ⟨a0, a1, a2, a3, a4, a5, a6, a7⟩ := head8 HU1.out
        go_wp2_with (first
          | (go_at_call 66; refine (between_any _ _ _ _).mono ?_; rintro e w' ⟨rfl, hw'⟩; subst hw')
          | (go_at_call 67; refine (piece_any p v z f l s m _ _).mono ?_; rintro e w3 ⟨rfl, hb3⟩; obtain ⟨k0, k1, k2, k3, k4, k5, k6, k7⟩ := head8 (below_head hb3 HU1.out); have HB3 := Lib.hid (HB1.out.trans (hb3.mono HB1.out.size)); clear hb3))
        go_ret
        rw [H.out]
        first | exact ⟨rfl, HB3.out⟩ | exact ⟨rfl, HB1.out⟩
      | true =>
        cases g with
        | false =>
          cases q3 : pieceB z f l with
          | false =>
            have H : Hid (rightB true v z f l s m false = false) := Lib.hid (by unfold rightB; rw [q1, q2, q3]; rfl)
            go_enter Tryd.func56, Tryd.ntmps56
            go_wp2_with fail
            refine HC.out.mono ?_
            rintro e w1 ⟨rfl, hb⟩
            have HU1 := Lib.hid (below_head hb HU0.out)
            have HB1 := Lib.hid (HB0.out.trans (hb.mono HB0.out.size))
            clear hb a0 a1 a2 a3 a4 a5 a6 a7
            obtain ⟨a0, a1, a2, a3, a4, a5, a6, a7⟩ := head8 HU1.out
            go_wp2_with (first
              | (go_at_call 66; refine (between_any _ _ _ _).mono ?_; rintro e w' ⟨rfl, hw'⟩; subst hw')
              | (go_at_call 67; refine (piece_any p v z f l s m _ _).mono ?_; rintro e w3 ⟨rfl, hb3⟩; obtain ⟨k0, k1, k2, k3, k4, k5, k6, k7⟩ := head8 (below_head hb3 HU1.out); have HB3 := Lib.hid (HB1.out.trans (hb3.mono HB1.out.size)); clear hb3))
            go_ret
            rw [H.out]
            first | exact ⟨rfl, HB3.out⟩ | exact ⟨rfl, HB1.out⟩
          | true =>
            have H : Hid (rightB true v z f l s m false = btw m 0 4294967295) := Lib.hid (by unfold rightB; rw [q1, q2, q3]; rfl)
            go_enter Tryd.func56, Tryd.ntmps56
            go_wp2_with fail
            refine HC.out.mono ?_
            rintro e w1 ⟨rfl, hb⟩
            have HU1 := Lib.hid (below_head hb HU0.out)
            have HB1 := Lib.hid (HB0.out.trans (hb.mono HB0.out.size))
            clear hb a0 a1 a2 a3 a4 a5 a6 a7
            obtain ⟨a0, a1, a2, a3, a4, a5, a6, a7⟩ := head8 HU1.out
            go_wp2_with (first
              | (go_at_call 66; refine (between_any _ _ _ _).mono ?_; rintro e w' ⟨rfl, hw'⟩; subst hw')
              | (go_at_call 67; refine (piece_any p v z f l s m _ _).mono ?_; rintro e w3 ⟨rfl, hb3⟩; obtain ⟨k0, k1, k2, k3, k4, k5, k6, k7⟩ := head8 (below_head hb3 HU1.out); have HB3 := Lib.hid (HB1.out.trans (hb3.mono HB1.out.size)); clear hb3))
            go_ret
            rw [H.out]
            first | exact ⟨rfl, HB3.out⟩ | exact ⟨rfl, HB1.out⟩
        | true =>
          cases q3 : (z == 0) with
          | false =>
            have H : Hid (rightB true v z f l s m true = false) := Lib.hid (by unfold rightB; rw [q1, q2, q3]; rfl)
            go_enter Tryd.func56, Tryd.ntmps56
            go_wp2_with fail
            refine HC.out.mono ?_
            rintro e w1 ⟨rfl, hb⟩
            have HU1 := Lib.hid (below_head hb HU0.out)
            have HB1 := Lib.hid (HB0.out.trans (hb.mono HB0.out.size))
            clear hb a0 a1 a2 a3 a4 a5 a6 a7
            obtain ⟨a0, a1, a2, a3, a4, a5, a6, a7⟩ := head8 HU1.out
            go_wp2_with (first
              | (go_at_call 66; refine (between_any _ _ _ _).mono ?_; rintro e w' ⟨rfl, hw'⟩; subst hw')
              | (go_at_call 67; refine (piece_any p v z f l s m _ _).mono ?_; rintro e w3 ⟨rfl, hb3⟩; obtain ⟨k0, k1, k2, k3, k4, k5, k6, k7⟩ := head8 (below_head hb3 HU1.out); have HB3 := Lib.hid (HB1.out.trans (hb3.mono HB1.out.size)); clear hb3))
            go_ret
            rw [H.out]
            first | exact ⟨rfl, HB3.out⟩ | exact ⟨rfl, HB1.out⟩
          | true =>
            cases q4 : (f == 0) with
            | false =>
              have H : Hid (rightB true v z f l s m true = false) := Lib.hid (by unfold rightB; rw [q1, q2, q3, q4]; rfl)
              go_enter Tryd.func56, Tryd.ntmps56
              go_wp2_with fail
              refine HC.out.mono ?_
              rintro e w1 ⟨rfl, hb⟩
              have HU1 := Lib.hid (below_head hb HU0.out)
              have HB1 := Lib.hid (HB0.out.trans (hb.mono HB0.out.size))
              clear hb a0 a1 a2 a3 a4 a5 a6 a7
              obtain ⟨a0, a1, a2, a3, a4, a5, a6, a7⟩ := head8 HU1.out
              go_wp2_with (first
                | (go_at_call 66; refine (between_any _ _ _ _).mono ?_; rintro e w' ⟨rfl, hw'⟩; subst hw')
                | (go_at_call 67; refine (piece_any p v z f l s m _ _).mono ?_; rintro e w3 ⟨rfl, hb3⟩; obtain ⟨k0, k1, k2, k3, k4, k5, k6, k7⟩ := head8 (below_head hb3 HU1.out); have HB3 := Lib.hid (HB1.out.trans (hb3.mono HB1.out.size)); clear hb3))
              go_ret
              rw [H.out]
              first | exact ⟨rfl, HB3.out⟩ | exact ⟨rfl, HB1.out⟩
            | true =>
              cases q5 : (l == 0) with
              | false =>
                have H : Hid (rightB true v z f l s m true = false) := Lib.hid (by unfold rightB; rw [q1, q2, q3, q4, q5]; rfl)
                go_enter Tryd.func56, Tryd.ntmps56
                go_wp2_with fail
                refine HC.out.mono ?_
                rintro e w1 ⟨rfl, hb⟩
                have HU1 := Lib.hid (below_head hb HU0.out)
                have HB1 := Lib.hid (HB0.out.trans (hb.mono HB0.out.size))
                clear hb a0 a1 a2 a3 a4 a5 a6 a7
                obtain ⟨a0, a1, a2, a3, a4, a5, a6, a7⟩ := head8 HU1.out
                go_wp2_with (first
                  | (go_at_call 66; refine (between_any _ _ _ _).mono ?_; rintro e w' ⟨rfl, hw'⟩; subst hw')
                  | (go_at_call 67; refine (piece_any p v z f l s m _ _).mono ?_; rintro e w3 ⟨rfl, hb3⟩; obtain ⟨k0, k1, k2, k3, k4, k5, k6, k7⟩ := head8 (below_head hb3 HU1.out); have HB3 := Lib.hid (HB1.out.trans (hb3.mono HB1.out.size)); clear hb3))
                go_ret
                rw [H.out]
                first | exact ⟨rfl, HB3.out⟩ | exact ⟨rfl, HB1.out⟩
              | true =>
                have H : Hid (rightB true v z f l s m true = (m == 0)) := Lib.hid (by unfold rightB; rw [q1, q2, q3, q4, q5]; rfl)
                go_enter Tryd.func56, Tryd.ntmps56
                go_wp2_with fail
                refine HC.out.mono ?_
                rintro e w1 ⟨rfl, hb⟩
                have HU1 := Lib.hid (below_head hb HU0.out)
                have HB1 := Lib.hid (HB0.out.trans (hb.mono HB0.out.size))
                clear hb a0 a1 a2 a3 a4 a5 a6 a7
                obtain ⟨a0, a1, a2, a3, a4, a5, a6, a7⟩ := head8 HU1.out
                go_wp2_with (first
                  | (go_at_call 66; refine (between_any _ _ _ _).mono ?_; rintro e w' ⟨rfl, hw'⟩; subst hw')
                  | (go_at_call 67; refine (piece_any p v z f l s m _ _).mono ?_; rintro e w3 ⟨rfl, hb3⟩; obtain ⟨k0, k1, k2, k3, k4, k5, k6, k7⟩ := head8 (below_head hb3 HU1.out); have HB3 := Lib.hid (HB1.out.trans (hb3.mono HB1.out.size)); clear hb3))
                go_ret
                rw [H.out]
                first | exact ⟨rfl, HB3.out⟩ | exact ⟨rfl, HB1.out⟩
theorem rightHead_any (p : Tx) (v z f l s m : Int) (g : Bool) (w : World) (hl : p.length ≤ maxLen) (hk : Kept w) :
    Calls Tryd.prog 56 #[.agg #[.string (tx p), .int .i64 v, .int .i64 z, .int .i64 f, .int .i64 l, .int .i64 s, .int .i64 m, .bool g]] w (AnsB (decide (Rc.Ok ⟨p, v, z, f, l, s, m, g⟩)) w) := by
  rw [← rightB_ok]; exact rightHead_way _ p v z f l s m g w rfl hl hk
end Go.Proofs.YtndofmoepjfnfaaDoor
