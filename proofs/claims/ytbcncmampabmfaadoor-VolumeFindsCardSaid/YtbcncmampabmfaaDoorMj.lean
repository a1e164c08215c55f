/- A head in memory; what between and flag answer. What rightPiece and RightHead of package record answer. What HeadBytes of package record answers. -/
import Derived.Test.YtbcncmampabmfaaDoorMa
import Derived.Test.YtbcncmampabmfaaDoorMb
import Derived.Test.YtbcncmampabmfaaDoorChecked
import Derived.OwnWalk
import Derived.Handy
import Derived.WalkSpells
import Derived.WalkLawsBesides
import Derived.Test.YtbcncmampabmfaaDoorMd
import Derived.Test.YtbcncmampabmfaaDoorMc
namespace Go.Proofs.YtbcncmampabmfaaDoor
open Go.RowKit
open Pt (Tx)

/-- the head in a block -/
def headObj (p : Tx) (v z f l s m : Int) (g : Bool) : Obj := .cells #[.string (tx p), .int .i64 v, .int .i64 z, .int .i64 f, .int .i64 l, .int .i64 s, .int .i64 m, .bool g] 23
theorem head8 {w : World} {B : Nat} {p : Tx} {v z f l s m : Int} {g : Bool} (h : w.heap[B]? = some (headObj p v z f l s m g)) :
    w.cell? ⟨B, 0, none⟩ = some (.string (tx p)) ∧ w.cell? ⟨B, 1, none⟩ = some (.int .i64 v) ∧ w.cell? ⟨B, 2, none⟩ = some (.int .i64 z) ∧ w.cell? ⟨B, 3, none⟩ = some (.int .i64 f)
      ∧ w.cell? ⟨B, 4, none⟩ = some (.int .i64 l) ∧ w.cell? ⟨B, 5, none⟩ = some (.int .i64 s) ∧ w.cell? ⟨B, 6, none⟩ = some (.int .i64 m) ∧ w.cell? ⟨B, 7, none⟩ = some (.bool g) :=
  ⟨heap_cell h, heap_cell h, heap_cell h, heap_cell h, heap_cell h, heap_cell h, heap_cell h, heap_cell h⟩
theorem head_free {w : World} {B : Nat} {p : Tx} {v z f l s m : Int} {g : Bool} (h : w.heap[B]? = some (headObj p v z f l s m g)) :
    w.frozen? ⟨B, 0, none⟩ = false ∧ w.frozen? ⟨B, 1, none⟩ = false ∧ w.frozen? ⟨B, 2, none⟩ = false ∧ w.frozen? ⟨B, 3, none⟩ = false
      ∧ w.frozen? ⟨B, 4, none⟩ = false ∧ w.frozen? ⟨B, 5, none⟩ = false ∧ w.frozen? ⟨B, 6, none⟩ = false ∧ w.frozen? ⟨B, 7, none⟩ = false :=
  ⟨heap_frozen h, heap_frozen h, heap_frozen h, heap_frozen h, heap_frozen h, heap_frozen h, heap_frozen h, heap_frozen h⟩
theorem below_head {p : Tx} {v z f l s m : Int} {g : Bool} {B : Nat} {x y : World} (hb : Below x.heap.size x y) (h : x.heap[B]? = some (headObj p v z f l s m g)) : y.heap[B]? = some (headObj p v z f l s m g) :=
  (hb.block B (heap_lt h)).trans h
/-- a Bool is answered; nothing that was there is written -/
def AnsB (b : Bool) (w : World) (e : Ending) (w' : World) : Prop := e = .returned (.bool b) ∧ Below w.heap.size w w'
theorem flag_any (g : Bool) (w : World) : Calls Tryd.prog 55 #[.bool g] w fun e w' => e = .returned (.int .u8 ((Rc.goneB g).toNat : Int)) ∧ w = w' := by
  cases g with
  | true =>
    go_enter Tryd.func55, Tryd.ntmps55
    go_wp2
    go_ret
    exact ⟨rfl, rfl⟩
  | false =>
    go_enter Tryd.func55, Tryd.ntmps55
    go_wp2
    go_ret
    exact ⟨rfl, rfl⟩
/-- a number from a to b -/
def btw (n a b : Int) : Bool := decide (a ≤ n) && decide (n ≤ b)
theorem btw_yes {n a b : Int} (h : btw n a b = true) : a ≤ n ∧ n ≤ b := by simpa [btw] using h
theorem btw_no {n a b : Int} (h : btw n a b = false) : n < a ∨ b < n := by
  have : ¬ (a ≤ n ∧ n ≤ b) := fun h' => by simp [btw, h'.1, h'.2] at h
  omega
theorem btw_of {n a b : Int} (h : a ≤ n ∧ n ≤ b) : btw n a b = true := by simp [btw, h.1, h.2]
theorem between_any (n a b : Int) (w : World) : Calls Tryd.prog 38 #[.int .i64 n, .int .i64 a, .int .i64 b] w fun e w' => e = .returned (.bool (btw n a b)) ∧ w = w' := by
  cases q1 : decide (a ≤ n) with
  | true =>
    have H : Hid (btw n a b = decide (n ≤ b)) := Lib.hid (by unfold btw; rw [q1]; rfl)
    go_enter Tryd.func38, Tryd.ntmps38
    go_wp2
    go_ret
    exact ⟨by rw [H.out]; rfl, rfl⟩
  | false =>
    have H : Hid (btw n a b = false) := Lib.hid (by unfold btw; rw [q1]; rfl)
    go_enter Tryd.func38, Tryd.ntmps38
    go_wp2
    go_ret
    exact ⟨by rw [H.out]; rfl, rfl⟩
end Go.Proofs.YtbcncmampabmfaaDoor
namespace Go.Proofs.YtbcncmampabmfaaDoor
open Go.RowKit
open Pt (Tx)

/-- size, from and len can be those of a part -/
def pieceB (z f l : Int) : Bool := btw z 0 4000 && (btw f 0 z && (btw l 0 (z - f) && (decide (0 < l) || z == 0)))
set_option maxHeartbeats 1000000 in
theorem piece_any (p : Tx) (v z f l s m : Int) (g : Bool) (w : World) :
    Calls Tryd.prog 39 #[.agg #[.string (tx p), .int .i64 v, .int .i64 z, .int .i64 f, .int .i64 l, .int .i64 s, .int .i64 m, .bool g]] w (AnsB (pieceB z f l) w) := by
  have HB : Hid (Below w.heap.size w (w.alloc (headObj p v z f l s m g))) := Lib.hid ((Below.refl _ _).alloc (Nat.le_refl _) _)
  unfold headObj at HB
  cases q1 : btw z 0 4000 with
  | false =>
    have H : Hid (pieceB z f l = false) := Lib.hid (by unfold pieceB; rw [q1]; rfl)
    go_enter Tryd.func39, Tryd.ntmps39
    go_wp2_with (go_at_call 38; refine (between_any _ _ _ _).mono ?_; rintro e w' ⟨rfl, hw'⟩; subst hw')
    go_ret
    rw [H.out]
    exact ⟨rfl, HB.out⟩
  | true =>
    cases q2 : btw f 0 z with
    | false =>
      have H : Hid (pieceB z f l = false) := Lib.hid (by unfold pieceB; rw [q1, q2]; rfl)
      go_enter Tryd.func39, Tryd.ntmps39
      go_wp2_with (go_at_call 38; refine (between_any _ _ _ _).mono ?_; rintro e w' ⟨rfl, hw'⟩; subst hw')
      go_ret
      rw [H.out]
      exact ⟨rfl, HB.out⟩
    | true =>
      have b1 := btw_yes q1
      have b2 := btw_yes q2
      have hz0 : 0 ≤ z := b1.1
      have hz1 : z ≤ 4000 := b1.2
      have hf0 : 0 ≤ f := b2.1
      have hf1 : f ≤ z := b2.2
      clear b1 b2
      cases q3 : btw l 0 (z - f) with
      | false =>
        have H : Hid (pieceB z f l = false) := Lib.hid (by unfold pieceB; rw [q1, q2, q3]; rfl)
        go_enter Tryd.func39, Tryd.ntmps39
        go_wp2_with (go_at_call 38; refine (between_any _ _ _ _).mono ?_; rintro e w' ⟨rfl, hw'⟩; subst hw')
        go_ret
        rw [H.out]
        exact ⟨rfl, HB.out⟩
      | true =>
        cases q4 : decide (0 < l) with
        | true =>
          have H : Hid (pieceB z f l = true) := Lib.hid (by unfold pieceB; rw [q1, q2, q3, q4]; rfl)
          go_enter Tryd.func39, Tryd.ntmps39
          go_wp2_with (go_at_call 38; refine (between_any _ _ _ _).mono ?_; rintro e w' ⟨rfl, hw'⟩; subst hw')
          go_ret
          rw [H.out]
          exact ⟨rfl, HB.out⟩
        | false =>
          have H : Hid (pieceB z f l = (z == 0)) := Lib.hid (by unfold pieceB; rw [q1, q2, q3, q4]; rfl)
          go_enter Tryd.func39, Tryd.ntmps39
          go_wp2_with (go_at_call 38; refine (between_any _ _ _ _).mono ?_; rintro e w' ⟨rfl, hw'⟩; subst hw')
          go_ret
          rw [H.out]
          exact ⟨rfl, HB.out⟩
/-- which heads are right, as RightHead asks -/
def rightB (r : Bool) (v z f l s m : Int) (g : Bool) : Bool :=
  r && (btw v 1 1073741824 && (btw s 1 1073741824 && (if g then (z == 0) && ((f == 0) && ((l == 0) && (m == 0))) else pieceB z f l && btw m 0 4294967295)))
theorem rightB_ok (p : Tx) (v z f l s m : Int) (g : Bool) : rightB (Pt.right p) v z f l s m g = decide (Rc.Ok ⟨p, v, z, f, l, s, m, g⟩) := by
  rw [Bool.eq_iff_iff, decide_eq_true_eq]
  unfold rightB pieceB btw Rc.Ok Rc.Nums
  cases g
  · simp only [Bool.and_eq_true, Bool.or_eq_true, decide_eq_true_eq, beq_iff_eq, Bool.false_eq_true, if_false]
    constructor
    · rintro ⟨h1, ⟨h2, h3⟩, ⟨h4, h5⟩, ⟨⟨h6, h7⟩, ⟨h8, h9⟩, ⟨h10, h11⟩, h12⟩, h13, h14⟩
      exact ⟨h1, ⟨h2, h3⟩, ⟨h4, h5⟩, ⟨h6, h7⟩, h8, h10, by omega, h12, ⟨h13, h14⟩, fun h => h.elim⟩
    · rintro ⟨h1, ⟨h2, h3⟩, ⟨h4, h5⟩, ⟨h6, h7⟩, h8, h10, h11, h12, ⟨h13, h14⟩, -⟩
      exact ⟨h1, ⟨h2, h3⟩, ⟨h4, h5⟩, ⟨⟨h6, h7⟩, ⟨h8, by omega⟩, ⟨h10, by omega⟩, h12⟩, h13, h14⟩
  · simp only [Bool.and_eq_true, decide_eq_true_eq, beq_iff_eq, if_true]
    constructor
    · rintro ⟨h1, ⟨h2, h3⟩, ⟨h4, h5⟩, rfl, rfl, rfl, rfl⟩
      exact ⟨h1, ⟨h2, h3⟩, ⟨h4, h5⟩, by decide, by decide, by decide, by decide, by decide, by decide, fun _ => ⟨rfl, rfl, rfl, rfl⟩⟩
    · rintro ⟨h1, ⟨h2, h3⟩, ⟨h4, h5⟩, -, -, -, -, -, -, h⟩
      exact ⟨h1, ⟨h2, h3⟩, ⟨h4, h5⟩, (h trivial).1, (h trivial).2.1, (h trivial).2.2.1, (h trivial).2.2.2⟩
set_option maxHeartbeats 4000000 in
theorem rightHead_way (r : Bool) (p : Tx) (v z f l s m : Int) (g : Bool) (w : World) (hr : Pt.right p = r) (hl : p.length ≤ maxLen) (hk : Kept w) :
    Calls Tryd.prog 18 #[.agg #[.string (tx p), .int .i64 v, .int .i64 z, .int .i64 f, .int .i64 l, .int .i64 s, .int .i64 m, .bool g]] w (AnsB (rightB r v z f l s m g) w) := by
  have HB0 : Hid (Below w.heap.size w (w.alloc (headObj p v z f l s m g))) := Lib.hid ((Below.refl _ _).alloc (Nat.le_refl _) _)
  have HU0 : Hid ((w.alloc (headObj p v z f l s m g)).heap[w.heap.size]? = some (headObj p v z f l s m g)) := Lib.hid (Go.Deep.blk_alloc_new _ _)
  have hcall := right_any p (w.alloc (headObj p v z f l s m g)) hl (hk.old HB0.out)
  rw [hr] at hcall
  have HC := Lib.hid hcall
  clear hl hk hr hcall
  obtain ⟨a0, a1, a2, a3, a4, a5, a6, a7⟩ := head8 HU0.out
  unfold headObj at a0 a1 a2 a3 a4 a5 a6 a7 HC
  cases r with
  | false =>
    have H : Hid (rightB false v z f l s m g = false) := Lib.hid (by unfold rightB; rfl)
    go_enter Tryd.func18, Tryd.ntmps18
    go_wp2_with fail
    refine HC.out.mono ?_
    rintro e w1 ⟨rfl, hb⟩
    have HU1 := Lib.hid (below_head hb HU0.out)
    have HB1 := Lib.hid (HB0.out.trans (hb.mono HB0.out.size))
    clear hb a0 a1 a2 a3 a4 a5 a6 a7
    obtain ⟨a0, a1, a2, a3, a4, a5, a6, a7⟩ := head8 HU1.out
    go_wp2_with (first
      | (go_at_call 38; refine (between_any _ _ _ _).mono ?_; rintro e w' ⟨rfl, hw'⟩; subst hw')
      | (go_at_call 39; refine (piece_any p v z f l s m _ _).mono ?_; rintro e w3 ⟨rfl, hb3⟩; obtain ⟨k0, k1, k2, k3, k4, k5, k6, k7⟩ := head8 (below_head hb3 HU1.out); have HB3 := Lib.hid (HB1.out.trans (hb3.mono HB1.out.size)); clear hb3))
    go_ret
    rw [H.out]
    first | exact ⟨rfl, HB3.out⟩ | exact ⟨rfl, HB1.out⟩
  | true =>
    cases q1 : btw v 1 1073741824 with
    | false =>
      have H : Hid (rightB true v z f l s m g = false) := Lib.hid (by unfold rightB; rw [q1]; rfl)
      go_enter Tryd.func18, Tryd.ntmps18
      go_wp2_with fail
      refine HC.out.mono ?_
      rintro e w1 ⟨rfl, hb⟩
      have HU1 := Lib.hid (below_head hb HU0.out)
      have HB1 := Lib.hid (HB0.out.trans (hb.mono HB0.out.size))
      clear hb a0 a1 a2 a3 a4 a5 a6 a7
      obtain ⟨a0, a1, a2, a3, a4, a5, a6, a7⟩ := head8 HU1.out
      go_wp2_with (first
        | (go_at_call 38; refine (between_any _ _ _ _).mono ?_; rintro e w' ⟨rfl, hw'⟩; subst hw')
        | (go_at_call 39; refine (piece_any p v z f l s m _ _).mono ?_; rintro e w3 ⟨rfl, hb3⟩; obtain ⟨k0, k1, k2, k3, k4, k5, k6, k7⟩ := head8 (below_head hb3 HU1.out); have HB3 := Lib.hid (HB1.out.trans (hb3.mono HB1.out.size)); clear hb3))
      go_ret
      rw [H.out]
      first | exact ⟨rfl, HB3.out⟩ | exact ⟨rfl, HB1.out⟩
    | true =>
      cases q2 : btw s 1 1073741824 with
      | false =>
        have H : Hid (rightB true v z f l s m g = false) := Lib.hid (by unfold rightB; rw [q1, q2]; rfl)
        go_enter Tryd.func18, Tryd.ntmps18
        go_wp2_with fail
        refine HC.out.mono ?_
        rintro e w1 ⟨rfl, hb⟩
        have HU1 := Lib.hid (below_head hb HU0.out)
        have HB1 := Lib.hid (HB0.out.trans (hb.mono HB0.out.size))
        clear hb a0 a1 a2 a3 a4 a5 a6 a7
        obtain ⟨a0, a1, a2, a3, a4, a5, a6, a7⟩ := head8 HU1.out
        go_wp2_with (first
          | (go_at_call 38; refine (between_any _ _ _ _).mono ?_; rintro e w' ⟨rfl, hw'⟩; subst hw')
          | (go_at_call 39; refine (piece_any p v z f l s m _ _).mono ?_; rintro e w3 ⟨rfl, hb3⟩; obtain ⟨k0, k1, k2, k3, k4, k5, k6, k7⟩ := head8 (below_head hb3 HU1.out); have HB3 := Lib.hid (HB1.out.trans (hb3.mono HB1.out.size)); clear hb3))
        go_ret
        rw [H.out]
        first | exact ⟨rfl, HB3.out⟩ | exact ⟨rfl, HB1.out⟩
      | true =>
        cases g with
        | false =>
          cases q3 : pieceB z f l with
          | false =>
            have H : Hid (rightB true v z f l s m false = false) := Lib.hid (by unfold rightB; rw [q1, q2, q3]; rfl)
            go_enter Tryd.func18, Tryd.ntmps18
            go_wp2_with fail
            refine HC.out.mono ?_
            rintro e w1 ⟨rfl, hb⟩
            have HU1 := Lib.hid (below_head hb HU0.out)
            have HB1 := Lib.hid (HB0.out.trans (hb.mono HB0.out.size))
            clear hb a0 a1 a2 a3 a4 a5 a6 a7
            obtain ⟨a0, a1, a2, a3, a4, a5, a6, a7⟩ := head8 HU1.out
            go_wp2_with (first
              | (go_at_call 38; refine (between_any _ _ _ _).mono ?_; rintro e w' ⟨rfl, hw'⟩; subst hw')
              | (go_at_call 39; refine (piece_any p v z f l s m _ _).mono ?_; rintro e w3 ⟨rfl, hb3⟩; obtain ⟨k0, k1, k2, k3, k4, k5, k6, k7⟩ := head8 (below_head hb3 HU1.out); have HB3 := Lib.hid (HB1.out.trans (hb3.mono HB1.out.size)); clear hb3))
            go_ret
            rw [H.out]
            first | exact ⟨rfl, HB3.out⟩ | exact ⟨rfl, HB1.out⟩
          | true =>
            have H : Hid (rightB true v z f l s m false = btw m 0 4294967295) := Lib.hid (by unfold rightB; rw [q1, q2, q3]; rfl)
            go_enter Tryd.func18, Tryd.ntmps18
            go_wp2_with fail
            refine HC.out.mono ?_
            rintro e w1 ⟨rfl, hb⟩
            have HU1 := Lib.hid (below_head hb HU0.out)
            have HB1 := Lib.hid (HB0.out.trans (hb.mono HB0.out.size))
            clear hb a0 a1 a2 a3 a4 a5 a6 a7
            obtain ⟨a0, a1, a2, a3, a4, a5, a6, a7⟩ := head8 HU1.out
            go_wp2_with (first
              | (go_at_call 38; refine (between_any _ _ _ _).mono ?_; rintro e w' ⟨rfl, hw'⟩; subst hw')
              | (go_at_call 39; refine (piece_any p v z f l s m _ _).mono ?_; rintro e w3 ⟨rfl, hb3⟩; obtain ⟨k0, k1, k2, k3, k4, k5, k6, k7⟩ := head8 (below_head hb3 HU1.out); have HB3 := Lib.hid (HB1.out.trans (hb3.mono HB1.out.size)); clear hb3))
            go_ret
            rw [H.out]
            first | exact ⟨rfl, HB3.out⟩ | exact ⟨rfl, HB1.out⟩
        | true =>
          cases q3 : (z == 0) with
          | false =>
            have H : Hid (rightB true v z f l s m true = false) := Lib.hid (by unfold rightB; rw [q1, q2, q3]; rfl)
            go_enter Tryd.func18, Tryd.ntmps18
            go_wp2_with fail
            refine HC.out.mono ?_
            rintro e w1 ⟨rfl, hb⟩
            have HU1 := Lib.hid (below_head hb HU0.out)
            have HB1 := Lib.hid (HB0.out.trans (hb.mono HB0.out.size))
            clear hb a0 a1 a2 a3 a4 a5 a6 a7
            obtain ⟨a0, a1, a2, a3, a4, a5, a6, a7⟩ := head8 HU1.out
            go_wp2_with (first
              | (go_at_call 38; refine (between_any _ _ _ _).mono ?_; rintro e w' ⟨rfl, hw'⟩; subst hw')
              | (go_at_call 39; refine (piece_any p v z f l s m _ _).mono ?_; rintro e w3 ⟨rfl, hb3⟩; obtain ⟨k0, k1, k2, k3, k4, k5, k6, k7⟩ := head8 (below_head hb3 HU1.out); have HB3 := Lib.hid (HB1.out.trans (hb3.mono HB1.out.size)); clear hb3))
            go_ret
            rw [H.out]
            first | exact ⟨rfl, HB3.out⟩ | exact ⟨rfl, HB1.out⟩
          | true =>
            cases q4 : (f == 0) with
            | false =>
              have H : Hid (rightB true v z f l s m true = false) := Lib.hid (by unfold rightB; rw [q1, q2, q3, q4]; rfl)
              go_enter Tryd.func18, Tryd.ntmps18
              go_wp2_with fail
              refine HC.out.mono ?_
              rintro e w1 ⟨rfl, hb⟩
              have HU1 := Lib.hid (below_head hb HU0.out)
              have HB1 := Lib.hid (HB0.out.trans (hb.mono HB0.out.size))
              clear hb a0 a1 a2 a3 a4 a5 a6 a7
              obtain ⟨a0, a1, a2, a3, a4, a5, a6, a7⟩ := head8 HU1.out
              go_wp2_with (first
                | (go_at_call 38; refine (between_any _ _ _ _).mono ?_; rintro e w' ⟨rfl, hw'⟩; subst hw')
                | (go_at_call 39; refine (piece_any p v z f l s m _ _).mono ?_; rintro e w3 ⟨rfl, hb3⟩; obtain ⟨k0, k1, k2, k3, k4, k5, k6, k7⟩ := head8 (below_head hb3 HU1.out); have HB3 := Lib.hid (HB1.out.trans (hb3.mono HB1.out.size)); clear hb3))
              go_ret
              rw [H.out]
              first | exact ⟨rfl, HB3.out⟩ | exact ⟨rfl, HB1.out⟩
            | true =>
              cases q5 : (l == 0) with
              | false =>
                have H : Hid (rightB true v z f l s m true = false) := Lib.hid (by unfold rightB; rw [q1, q2, q3, q4, q5]; rfl)
                go_enter Tryd.func18, Tryd.ntmps18
                go_wp2_with fail
                refine HC.out.mono ?_
                rintro e w1 ⟨rfl, hb⟩
                have HU1 := Lib.hid (below_head hb HU0.out)
                have HB1 := Lib.hid (HB0.out.trans (hb.mono HB0.out.size))
                clear hb a0 a1 a2 a3 a4 a5 a6 a7
                obtain ⟨a0, a1, a2, a3, a4, a5, a6, a7⟩ := head8 HU1.out
                go_wp2_with (first
                  | (go_at_call 38; refine (between_any _ _ _ _).mono ?_; rintro e w' ⟨rfl, hw'⟩; subst hw')
                  | (go_at_call 39; refine (piece_any p v z f l s m _ _).mono ?_; rintro e w3 ⟨rfl, hb3⟩; obtain ⟨k0, k1, k2, k3, k4, k5, k6, k7⟩ := head8 (below_head hb3 HU1.out); have HB3 := Lib.hid (HB1.out.trans (hb3.mono HB1.out.size)); clear hb3))
                go_ret
                rw [H.out]
                first | exact ⟨rfl, HB3.out⟩ | exact ⟨rfl, HB1.out⟩
              | true =>
                have H : Hid (rightB true v z f l s m true = (m == 0)) := Lib.hid (by unfold rightB; rw [q1, q2, q3, q4, q5]; rfl)
                go_enter Tryd.func18, Tryd.ntmps18
                go_wp2_with fail
                refine HC.out.mono ?_
                rintro e w1 ⟨rfl, hb⟩
                have HU1 := Lib.hid (below_head hb HU0.out)
                have HB1 := Lib.hid (HB0.out.trans (hb.mono HB0.out.size))
                clear hb a0 a1 a2 a3 a4 a5 a6 a7
                obtain ⟨a0, a1, a2, a3, a4, a5, a6, a7⟩ := head8 HU1.out
                go_wp2_with (first
                  | (go_at_call 38; refine (between_any _ _ _ _).mono ?_; rintro e w' ⟨rfl, hw'⟩; subst hw')
                  | (go_at_call 39; refine (piece_any p v z f l s m _ _).mono ?_; rintro e w3 ⟨rfl, hb3⟩; obtain ⟨k0, k1, k2, k3, k4, k5, k6, k7⟩ := head8 (below_head hb3 HU1.out); have HB3 := Lib.hid (HB1.out.trans (hb3.mono HB1.out.size)); clear hb3))
                go_ret
                rw [H.out]
                first | exact ⟨rfl, HB3.out⟩ | exact ⟨rfl, HB1.out⟩
theorem rightHead_any (p : Tx) (v z f l s m : Int) (g : Bool) (w : World) (hl : p.length ≤ maxLen) (hk : Kept w) :
    Calls Tryd.prog 18 #[.agg #[.string (tx p), .int .i64 v, .int .i64 z, .int .i64 f, .int .i64 l, .int .i64 s, .int .i64 m, .bool g]] w (AnsB (decide (Rc.Ok ⟨p, v, z, f, l, s, m, g⟩)) w) := by
  rw [← rightB_ok]; exact rightHead_way _ p v z f l s m g w rfl hl hk
end Go.Proofs.YtbcncmampabmfaaDoor
namespace Go.Proofs.YtbcncmampabmfaaDoor
open Go.RowKit
open Pt (Tx)

theorem kp_head {B gr : Nat} {x y : World} {p : Tx} {v z f l s m : Int} {g : Bool} (hk : Kp (· = gr) x y) (hne : ¬ B = gr) (h : x.heap[B]? = some (headObj p v z f l s m g)) : y.heap[B]? = some (headObj p v z f l s m g) :=
  (hk.block B (heap_lt h) hne).trans h
set_option maxHeartbeats 1000000 in
theorem headBytes_no (p : Tx) (v z f l s m : Int) (g : Bool) (w : World) (hl : p.length ≤ maxLen) (hk : Kept w) (hok : ¬ Rc.Ok ⟨p, v, z, f, l, s, m, g⟩) :
    Calls Tryd.prog 40 #[.agg #[.string (tx p), .int .i64 v, .int .i64 z, .int .i64 f, .int .i64 l, .int .i64 s, .int .i64 m, .bool g]] w (AnsT (Rc.put ⟨p, v, z, f, l, s, m, g⟩) w) := by
  have HB0 : Hid (Below w.heap.size w (w.alloc (headObj p v z f l s m g))) := Lib.hid ((Below.refl _ _).alloc (Nat.le_refl _) _)
  have HU0 : Hid ((w.alloc (headObj p v z f l s m g)).heap[w.heap.size]? = some (headObj p v z f l s m g)) := Lib.hid (Go.Deep.blk_alloc_new _ _)
  have hcall := rightHead_any p v z f l s m g (w.alloc (headObj p v z f l s m g)) hl (hk.old HB0.out)
  rw [decide_eq_false hok] at hcall
  have HC := Lib.hid hcall
  have HP := Lib.hid (Rc.put_no hok)
  clear hl hk hok hcall
  obtain ⟨a0, a1, a2, a3, a4, a5, a6, a7⟩ := head8 HU0.out
  unfold headObj at a0 a1 a2 a3 a4 a5 a6 a7 HC
  go_enter Tryd.func40, Tryd.ntmps40
  go_wp2_with fail
  refine HC.out.mono ?_
  rintro e w1 ⟨rfl, hb⟩
  have HB1 := Lib.hid (HB0.out.trans (hb.mono HB0.out.size))
  clear hb a0 a1 a2 a3 a4 a5 a6 a7
  go_wp2
  go_ret
  rw [HP.out]
  exact AnsT.nil HB1.out
set_option maxHeartbeats 4000000 in
theorem headBytes_yes (p : Tx) (v z f l s m : Int) (g : Bool) (w : World) (hl : p.length ≤ maxLen) (hk : Kept w) (hok : Rc.Ok ⟨p, v, z, f, l, s, m, g⟩) :
    Calls Tryd.prog 40 #[.agg #[.string (tx p), .int .i64 v, .int .i64 z, .int .i64 f, .int .i64 l, .int .i64 s, .int .i64 m, .bool g]] w (AnsT (Rc.put ⟨p, v, z, f, l, s, m, g⟩) w) := by
  have HB0 : Hid (Below w.heap.size w (w.alloc (headObj p v z f l s m g))) := Lib.hid ((Below.refl _ _).alloc (Nat.le_refl _) _)
  have HU0 : Hid ((w.alloc (headObj p v z f l s m g)).heap[w.heap.size]? = some (headObj p v z f l s m g)) := Lib.hid (Go.Deep.blk_alloc_new _ _)
  have hcall := rightHead_any p v z f l s m g (w.alloc (headObj p v z f l s m g)) hl (hk.old HB0.out)
  rw [decide_eq_true hok] at hcall
  have HC := Lib.hid hcall
  have HP := Lib.hid (Rc.put_ok hok)
  have HS := Lib.hid hok.short
  have HL := Lib.hid hl
  clear hl hk hok hcall
  obtain ⟨a0, a1, a2, a3, a4, a5, a6, a7⟩ := head8 HU0.out
  unfold headObj at a0 a1 a2 a3 a4 a5 a6 a7 HC
  go_enter Tryd.func40, Tryd.ntmps40
  go_wp2_with fail
  refine HC.out.mono ?_
  rintro e w1 ⟨rfl, hb⟩
  obtain ⟨gr, hgr⟩ : ∃ gr, gr = w1.heap.size := ⟨_, rfl⟩
  obtain ⟨wb, hwb⟩ : ∃ wb, wb = w1.alloc (.cells #[.pointer none, .int .i64 0] 100) := ⟨_, rfl⟩
  have hU1 := below_head hb HU0.out
  have hB1 := HB0.out.trans (hb.mono HB0.out.size)
  have HNE : Hid (¬ w.heap.size = gr) := Lib.hid (by have := heap_lt hU1; omega)
  have HLO : Hid (w.heap.size ≤ gr) := Lib.hid (by have := heap_lt hU1; omega)
  have HB2 : Hid (Below w.heap.size w wb) := Lib.hid (by rw [hwb]; exact hB1.alloc hB1.size _)
  have HU2 : Hid (wb.heap[w.heap.size]? = some (headObj p v z f l s m g)) := Lib.hid (by rw [hwb]; exact (Below.heap_alloc _ _ _ (heap_lt hU1)).trans hU1)
  have HW2 : Hid (Wr wb gr []) := Lib.hid (by rw [hwb, hgr]; exact Wr.new w1)
  have HWB := Lib.hid hwb
  have HGR := Lib.hid hgr
  clear hb a0 a1 a2 a3 a4 a5 a6 a7 hU1 hB1 hwb hgr
  obtain ⟨a0, a1, a2, a3, a4, a5, a6, a7⟩ := head8 HU2.out
  rw [HWB.out] at a0 a1 a2 a3 a4 a5 a6 a7
  go_wp2_with fail
  rw [← HWB.out, ← HGR.out]
  refine (wtext_any gr [] p wb HW2.out (by simp) HL.out).mono ?_
  rintro e w3 ⟨rfl, hW, hK⟩
  have HW3 := Lib.hid hW
  have HU3 := Lib.hid (kp_head hK HNE.out HU2.out)
  have HB3 := Lib.hid (HB2.out.trans (lo_g hK HB2.out.size HLO.out))
  clear hW hK a0 a1 a2 a3 a4 a5 a6 a7
  obtain ⟨a0, a1, a2, a3, a4, a5, a6, a7⟩ := head8 HU3.out
  go_wp2_with fail
  refine (wint_any gr _ v w3 HW3.out (by simp [Cd.tb_len]; omega)).mono ?_
  rintro e w4 ⟨rfl, hW, hK⟩
  have HW4 := Lib.hid hW
  have HU4 := Lib.hid (kp_head hK HNE.out HU3.out)
  have HB4 := Lib.hid (HB3.out.trans (lo_g hK HB3.out.size HLO.out))
  clear hW hK a0 a1 a2 a3 a4 a5 a6 a7
  obtain ⟨a0, a1, a2, a3, a4, a5, a6, a7⟩ := head8 HU4.out
  go_wp2_with fail
  refine (wint_any gr _ z w4 HW4.out (by simp [Cd.be4_len, Cd.tb_len]; omega)).mono ?_
  rintro e w5 ⟨rfl, hW, hK⟩
  have HW5 := Lib.hid hW
  have HU5 := Lib.hid (kp_head hK HNE.out HU4.out)
  have HB5 := Lib.hid (HB4.out.trans (lo_g hK HB4.out.size HLO.out))
  clear hW hK a0 a1 a2 a3 a4 a5 a6 a7
  obtain ⟨a0, a1, a2, a3, a4, a5, a6, a7⟩ := head8 HU5.out
  go_wp2_with fail
  refine (wint_any gr _ f w5 HW5.out (by simp [Cd.be4_len, Cd.tb_len]; omega)).mono ?_
  rintro e w6 ⟨rfl, hW, hK⟩
  have HW6 := Lib.hid hW
  have HU6 := Lib.hid (kp_head hK HNE.out HU5.out)
  have HB6 := Lib.hid (HB5.out.trans (lo_g hK HB5.out.size HLO.out))
  clear hW hK a0 a1 a2 a3 a4 a5 a6 a7
  obtain ⟨a0, a1, a2, a3, a4, a5, a6, a7⟩ := head8 HU6.out
  go_wp2_with fail
  refine (wint_any gr _ l w6 HW6.out (by simp [Cd.be4_len, Cd.tb_len]; omega)).mono ?_
  rintro e w7 ⟨rfl, hW, hK⟩
  have HW7 := Lib.hid hW
  have HU7 := Lib.hid (kp_head hK HNE.out HU6.out)
  have HB7 := Lib.hid (HB6.out.trans (lo_g hK HB6.out.size HLO.out))
  clear hW hK a0 a1 a2 a3 a4 a5 a6 a7
  obtain ⟨a0, a1, a2, a3, a4, a5, a6, a7⟩ := head8 HU7.out
  go_wp2_with fail
  refine (wint_any gr _ s w7 HW7.out (by simp [Cd.be4_len, Cd.tb_len]; omega)).mono ?_
  rintro e w8 ⟨rfl, hW, hK⟩
  have HW8 := Lib.hid hW
  have HU8 := Lib.hid (kp_head hK HNE.out HU7.out)
  have HB8 := Lib.hid (HB7.out.trans (lo_g hK HB7.out.size HLO.out))
  clear hW hK a0 a1 a2 a3 a4 a5 a6 a7
  obtain ⟨a0, a1, a2, a3, a4, a5, a6, a7⟩ := head8 HU8.out
  go_wp2_with fail
  refine (wint_any gr _ m w8 HW8.out (by simp [Cd.be4_len, Cd.tb_len]; omega)).mono ?_
  rintro e w9 ⟨rfl, hW, hK⟩
  have HW9 := Lib.hid hW
  have HU9 := Lib.hid (kp_head hK HNE.out HU8.out)
  have HB9 := Lib.hid (HB8.out.trans (lo_g hK HB8.out.size HLO.out))
  clear hW hK a0 a1 a2 a3 a4 a5 a6 a7
  obtain ⟨a0, a1, a2, a3, a4, a5, a6, a7⟩ := head8 HU9.out
  go_wp2_with fail
  refine (flag_any g w9).mono ?_
  rintro e wf ⟨rfl, hwf⟩
  subst hwf
  go_wp2_with fail
  refine (wbyte_any gr _ (Rc.goneB g) w9 HW9.out (by simp [Cd.be4_len, Cd.tb_len]; omega)).mono ?_
  rintro e w10 ⟨rfl, hW, hK⟩
  have HW10 := Lib.hid hW
  have HU10 := Lib.hid (kp_head hK HNE.out HU9.out)
  have HB10 := Lib.hid (HB9.out.trans (lo_g hK HB9.out.size HLO.out))
  clear hW hK a0 a1 a2 a3 a4 a5 a6 a7
  obtain ⟨a0, a1, a2, a3, a4, a5, a6, a7⟩ := head8 HU10.out
  go_wp2_with fail
  have HT : Hid ((((((((([] ++ Cd.tb p) ++ Cd.be4 v) ++ Cd.be4 z) ++ Cd.be4 f) ++ Cd.be4 l) ++ Cd.be4 s) ++ Cd.be4 m) ++ [Rc.goneB g]) = Rc.blk ⟨p, v, z, f, l, s, m, g⟩) := Lib.hid (by unfold Rc.blk; simp only [List.nil_append, List.append_assoc])
  have hW := HW10.out
  rw [HT.out] at hW
  have hlen : (Rc.blk ⟨p, v, z, f, l, s, m, g⟩).length ≤ 50 := by
    have := Rc.put_le ⟨p, v, z, f, l, s, m, g⟩
    rw [HP.out] at this; exact this
  have HE := Lib.hid hlen
  refine (bytes_own gr _ w10 hW (by omega)).mono ?_
  intro e w' h
  have h2 := AnsT.after HB10.out (AnsT.of_new (by unfold maxLen; have := HE.out; omega) h)
  obtain ⟨A, n, C, rfl, h1, h3, h4, h5, h6, h7⟩ := h2
  have HR : Hid (AnsT (Rc.blk ⟨p, v, z, f, l, s, m, g⟩) w (.returned (.slice A n C)) w') := Lib.hid ⟨A, n, C, rfl, h1, h3, h4, h5, h6, h7⟩
  clear h h1 h3 h4 h5 h6 h7 hW hlen
  go_wp2
  go_ret
  rw [HP.out]
  exact HR.out
theorem headBytes_any (p : Tx) (v z f l s m : Int) (g : Bool) (w : World) (hl : p.length ≤ maxLen) (hk : Kept w) :
    Calls Tryd.prog 40 #[.agg #[.string (tx p), .int .i64 v, .int .i64 z, .int .i64 f, .int .i64 l, .int .i64 s, .int .i64 m, .bool g]] w (AnsT (Rc.put ⟨p, v, z, f, l, s, m, g⟩) w) := by
  by_cases hok : Rc.Ok ⟨p, v, z, f, l, s, m, g⟩
  · exact headBytes_yes p v z f l s m g w hl hk hok
  · exact headBytes_no p v z f l s m g w hl hk hok
end Go.Proofs.YtbcncmampabmfaaDoor
