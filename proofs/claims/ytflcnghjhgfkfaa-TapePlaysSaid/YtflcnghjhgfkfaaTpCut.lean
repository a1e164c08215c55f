/- What Cut leaves. -/
import Derived.Test.YtflcnghjhgfkfaaTpB
import Derived.Test.YtflcnghjhgfkfaaShelf
import Derived.Deep.RegionHeld3
namespace Go.Proofs.Ytflcnghjhgfkfaa
open Go.RowKit
open Pt (Tx)

theorem cloned (s : Tx) (w : World) (hl : s.length ≤ 281474976710656) :
    Calls Try.prog 29 #[.string (tx s)] w fun e w' => e = .returned (.string (tx s)) ∧ Below w.heap.size w w' := by
  have es := tx_size s
  go_enter Try.func29, Try.ntmps29
  go_wp2_with fail
  refine (Try.stringslite_Clone (tx s) _ (by omega)).mono ?_
  rintro e w1 ⟨rfl, hb⟩
  have HB := Lib.hid hb
  clear hb
  go_wp2
  go_ret
  exact ⟨rfl, HB.out⟩
theorem cut_none (g : Nat) (lab most : Int) (bs : List Tx) (w : World) (h : Dr w g lab most bs) (n m : Int) (N : Nat) (hN : n.toNat = N) (hn : bs.length ≤ N) :
    Calls Try.prog 16 #[.pointer (some ⟨g, 0, none⟩), .int .i64 n, .int .i64 m] w (Turned (.tuple #[]) g lab most bs w) := by
  have hmx : max n 0 = (N : Int) := by omega
  have HS := Lib.hid h
  clear h hN
  go_enter Try.func16, Try.ntmps16
  go_wp2_with (go_at_call 27; refine (has_no g lab most bs w HS.out _ (.inr (by omega))).mono ?_; rintro e w' ⟨rfl, rfl⟩)
  go_end0
  exact ⟨rfl, HS.out, Kp.refl _ _⟩
theorem cut_gone (g : Nat) (lab most : Int) (bs : List Tx) (w : World) (h : Dr w g lab most bs) (n m : Int) (N : Nat) (hN : n.toNat = N) (hn : N < bs.length) (hm : m ≤ 0) :
    Calls Try.prog 16 #[.pointer (some ⟨g, 0, none⟩), .int .i64 n, .int .i64 m] w (Turned (.tuple #[]) g lab most (bs.take N) w) := by
  have hmx : max n 0 = (N : Int) := by omega
  have d1 : decide (0 < m) = false := decide_eq_false (by omega)
  have l3 : N < 64 := by have := h.len64; omega
  have l4 : (N : Int) < 64 := by omega
  have cn := h.mem.cs hn
  have HS := Lib.hid h
  clear h hN
  go_enter Try.func16, Try.ntmps16
  go_wp2_with (first
    | (go_at_call 27; refine (has_yes g lab most bs w HS.out N hn).mono ?_; rintro e w' ⟨rfl, rfl⟩)
    | (go_at_call 28; refine (keep_any g lab most bs w HS.out N (Nat.le_of_lt hn) l3).mono ?_; rintro e w1 ⟨rfl, hd, hk⟩; have HD := Lib.hid hd; have HK := Lib.hid hk; clear hd hk))
  go_end0
  exact ⟨rfl, HD.out, HK.out⟩
set_option maxHeartbeats 1000000 in
theorem cut_some (g : Nat) (lab most : Int) (bs : List Tx) (w : World) (h : Dr w g lab most bs) (n : Int) (m N : Nat) (hN : n.toNat = N) (hn : N < bs.length) (hm : 0 < m) :
    Calls Try.prog 16 #[.pointer (some ⟨g, 0, none⟩), .int .i64 n, .int .i64 (m : Int)] w (Turned (.tuple #[]) g lab most (bs.take N ++ [bs[N].take m]) w) := by
  have hmx : max n 0 = (N : Int) := by omega
  have d1 : decide (0 < (m : Int)) = true := decide_eq_true (by omega)
  have l3 : N < 64 := by have := h.len64; omega
  have l4 : (N : Int) < 64 := by omega
  have cn := h.mem.cs hn
  have hs94 := h.ok bs[N] (List.getElem_mem hn)
  have HS := Lib.hid h
  clear h hN
  obtain ⟨s, hs⟩ : ∃ s, s = bs[N] := ⟨_, rfl⟩
  rw [← hs] at cn hs94 ⊢
  clear hs
  have es := tx_size s
  obtain ⟨M, hM⟩ : ∃ M, M = min m s.length := ⟨_, rfl⟩
  have hmin : min (m : Int) (s.length : Int) = (M : Int) := by omega
  have HX : Hid ((s.take m).length = M) := Lib.hid (by rw [hM]; exact List.length_take)
  have hex : (tx s).extract 0 M = tx (s.take m) := by
    rw [tx_extract, List.drop_zero, Nat.sub_zero, hM]
    congr 1
    rcases Nat.le_total m s.length with hh | hh
    · rw [Nat.min_eq_left hh]
    · rw [Nat.min_eq_right hh, List.take_of_length_le hh, List.take_of_length_le (Nat.le_refl _)]
  have m1 : M ≤ s.length := by omega
  have m2 : 1 ≤ M := by omega
  clear hM
  go_enter Try.func16, Try.ntmps16
  go_wp2_with (first
    | (go_at_call 27; refine (has_yes g lab most bs w HS.out N hn).mono ?_; rintro e w' ⟨rfl, rfl⟩)
    | (go_at_call 28; refine (keep_any g lab most bs w HS.out N (Nat.le_of_lt hn) l3).mono ?_; rintro e w1 ⟨rfl, hd, hk⟩; have HD := Lib.hid hd; have HK := Lib.hid hk; clear hd hk))
  have hN' : (bs.take N).length = N := by simp; omega
  have HN' := Lib.hid hN'
  clear hN' cn
  have hbel : Below w1.heap.size w1 w1.drew := (Below.refl _ _).drew
  have Hs : Hid ((s.take m).length ≤ 281474976710656) := Lib.hid (by rw [HX.out]; omega)
  go_region_held3 (fun _ => True) (exact trivial)
    (first
      | (go_at_call 29; refine (cloned (s.take m) _ Hs.out).mono ?_; rintro e wn ⟨rfl, hbn⟩; have hbt : Below w1.heap.size w1 wn := hbel.trans hbn; obtain ⟨v, cx⟩ := (HD.out.old hbt).mem.cx l3; have fx := (HD.out.old hbt).mem.fr (3 + N); have f2 := (HD.out.old hbt).mem.fr 2; have c2 := (HD.out.old hbt).mem.c2; rw [HN'.out] at c2; clear hbn))
  have HBT := Lib.hid hbt
  clear hbt hbel
  go_wp2
  go_end0
  have hD := HD.out.old HBT.out
  have hP := (hD.mem.push (by rw [HN'.out]; exact l3) (s.take m) HN'.out.symm).setn ((N : Int) + 1)
  refine ⟨rfl, ⟨?_, hD.lo, hD.hi, ?_, ?_⟩, (((HK.out.trans (Kp.of_below HBT.out)).trans (Kp.store _ _ _ _)).trans (Kp.store _ _ _ _))⟩
  · rw [List.length_append, HN'.out]; exact hP
  · rw [List.length_append, HN'.out]; have := HS.out.fit; simp; omega
  · intro t ht
    rcases List.mem_append.1 ht with ht | ht
    · exact hD.ok t ht
    · rw [List.mem_singleton.1 ht, HX.out]; omega
theorem cut_any (g : Nat) (lab most : Int) (bs : List Tx) (w : World) (h : Dr w g lab most bs) (n m : Int) :
    Calls Try.prog 16 #[.pointer (some ⟨g, 0, none⟩), .int .i64 n, .int .i64 m] w (Turned (.tuple #[]) g lab most (Tp.cut bs n m) w) := by
  unfold Tp.cut
  rcases Nat.lt_or_ge n.toNat bs.length with hn | hn
  · rw [List.getElem?_eq_getElem hn]
    by_cases hm : 0 < m
    · obtain ⟨M, rfl⟩ := Int.eq_ofNat_of_zero_le (Int.le_of_lt hm)
      simp only [if_pos hm, Int.toNat_natCast]
      exact cut_some g lab most bs w h n M n.toNat rfl hn (by omega)
    · simp only [if_neg hm, List.append_nil]
      exact cut_gone g lab most bs w h n m n.toNat rfl hn (by omega)
  · rw [List.getElem?_eq_none hn]
    exact cut_none g lab most bs w h n m n.toNat rfl hn
/-- Read, of a block that is known -/
def ReadAs (s : Tx) (L : Nat) (w : World) (e : Ending) (w' : World) : Prop := ∃ b C, e = .returned (.tuple #[.slice (some ⟨b, 0, none⟩) L C, .int .i64 0]) ∧ L ≤ C ∧ w.heap.size ≤ b ∧ RdL w' (some ⟨b, 0, none⟩) s (· = b) ∧ Below w.heap.size w w'
theorem read_as (g : Nat) (lab most : Int) (bs : List Tx) (w : World) (h : Dr w g lab most bs) (n : Nat) (hn : n < bs.length) (s : Tx) (L : Nat) (hs : bs[n] = s) (hL : s.length = L) :
    Calls Try.prog 15 #[.pointer (some ⟨g, 0, none⟩), .int .i64 (n : Int)] w (ReadAs s L w) := by
  subst hs; subst hL
  exact read_yes g lab most bs w h n hn
end Go.Proofs.Ytflcnghjhgfkfaa
