/- What Rot turns. -/
import Derived.Test.YtflcnghjhgfkfaaTpB
import Derived.Test.YtflcnghjhgfkfaaGfInts
namespace Go.Proofs.Ytflcnghjhgfkfaa
open Go.RowKit
open Pt (Tx)

theorem xor_b (a b : UInt8) : bits BinOp.xor IntKind.u8 (a.toNat : Int) (b.toNat : Int) = ((a ^^^ b).toNat : Int) := by
  rw [bits_xor_u8 _ _ (UInt8.toNat_lt a) (UInt8.toNat_lt b), UInt8.toNat_xor]
theorem Tp.rot_step (s t : Tx) (k : Nat) (hs : k < s.length) (ht : k < t.length) : (Tp.rot s (t.take k)).set k (s[k] ^^^ t[k]) = Tp.rot s (t.take (k + 1)) := by
  apply List.ext_getElem
  · simp [Tp.rot_len]
  · intro j h1 h2
    rw [List.length_set, Tp.rot_len] at h1
    rw [List.getElem_set, Tp.rot_at s _ j h1, Tp.rot_at s _ j h1]
    by_cases e : k = j
    · subst e
      have a2 : k < (t.take (k + 1)).length := by simp; omega
      rw [if_pos rfl, dif_pos a2]; simp
    · rw [if_neg e]
      by_cases hj : j < k
      · have a1 : j < (t.take k).length := by simp; omega
        have a2 : j < (t.take (k + 1)).length := by simp; omega
        rw [dif_pos a1, dif_pos a2]; simp
      · have a1 : ¬ j < (t.take k).length := by simp; omega
        have a2 : ¬ j < (t.take (k + 1)).length := by simp; omega
        rw [dif_neg a1, dif_neg a2]
/-- byte k is not turned yet -/
theorem Tp.rot_keep (s t : Tx) (k : Nat) (hs : k < s.length) : (Tp.rot s (t.take k))[k]'(by rw [Tp.rot_len]; exact hs) = s[k] := by
  rw [Tp.rot_at s _ k hs, dif_neg (by simp; omega)]
theorem Tp.rot_full (s t : Tx) (k : Nat) (h : s.length ≤ k ∨ t.length ≤ k) : Tp.rot s (t.take k) = Tp.rot s t := by
  rcases h with h | h
  · apply List.ext_getElem
    · simp [Tp.rot_len]
    · intro j h1 h2
      rw [Tp.rot_len] at h1
      rw [Tp.rot_at s _ j h1, Tp.rot_at s _ j h1]
      by_cases hj : j < t.length
      · have a1 : j < (t.take k).length := by simp; omega
        rw [dif_pos a1, dif_pos hj]; simp
      · have a1 : ¬ j < (t.take k).length := by simp; omega
        rw [dif_neg a1, dif_neg hj]
  · rw [List.take_of_length_le h]
/-- a row of bytes in block b, whatever is marked behind it -/
def OwnF (w : World) (b : Nat) (s : Tx) : Prop :=
  ∃ c lo hi, w.heap[b]? = some (.cells c 5 (lo, hi)) ∧ s.length ≤ lo ∧ s.length ≤ c.size ∧ ∀ j (hj : j < s.length), c[j]? = some (.int .u8 (s[j].toNat : Int))
namespace OwnF
variable {w w' : World} {b : Nat} {s : Tx}
theorem cell (h : OwnF w b s) {j : Nat} (hj : j < s.length) : w.cell? ⟨b, j, none⟩ = some (.int .u8 (s[j].toNat : Int)) := by
  obtain ⟨c, lo, hi, hb, _, _, hc⟩ := h; rw [heap_cell hb, hc j hj]
theorem fr (h : OwnF w b s) {j : Nat} (hj : j < s.length) : w.frozen? ⟨b, j, none⟩ = false := by
  obtain ⟨c, lo, hi, hb, hl, _, hc⟩ := h
  simp only [World.frozen?, hb]
  simp; omega
theorem lt (h : OwnF w b s) : b < w.heap.size := by obtain ⟨c, lo, hi, hb, _⟩ := h; exact heap_lt hb
theorem set (h : OwnF w b s) (k : Nat) (x : UInt8) : OwnF (w.setCell ⟨b, k, none⟩ (.int .u8 (x.toNat : Int))) b (s.set k x) := by
  obtain ⟨c, lo, hi, hb, hl, hs, hc⟩ := h
  refine ⟨_, lo, hi, heap_set hb _, by simpa using hl, by simpa using hs, fun j hj => ?_⟩
  rw [List.length_set] at hj
  rw [Array.getElem?_setIfInBounds, List.getElem_set]
  by_cases e : k = j
  · subst e
    rw [if_pos rfl, if_pos (by omega), if_pos rfl]
  · rw [if_neg e, if_neg e]; exact hc j hj
theorem rd (h : OwnF w b s) : RdL w (some ⟨b, 0, none⟩) s (· = b) := fun _ => ⟨b, 0, rfl, rfl, fun j hj => by rw [Nat.zero_add]; exact h.cell hj⟩
theorem of_block (h : OwnF w b s) (e : w'.heap[b]? = w.heap[b]?) : OwnF w' b s := by obtain ⟨c, lo, hi, hb, hr⟩ := h; exact ⟨c, lo, hi, e.trans hb, hr⟩
end OwnF
theorem ownF_bytes (w : World) (s : Tx) : OwnF (Lib.bytesWorld w 5 (tx s)) w.heap.size s := by
  refine ⟨_, _, _, Lib.bytesWorld_at_new w _ _, ?_, ?_, fun j hj => ?_⟩
  · simp [Lib.bytesCells, tx]
  · simp [Lib.bytesCells, tx]
  · have := (rd_bytes w s).at_ hj
    obtain ⟨b, off, e, _, hc⟩ := this
    cases e
    rw [Nat.zero_add, heap_cell (Lib.bytesWorld_at_new w _ _)] at hc
    exact hc
theorem rot_no (g : Nat) (lab most : Int) (bs : List Tx) (w : World) (h : Dr w g lab most bs) (n : Int) (hn : n < 0 ∨ (bs.length : Int) ≤ n) (A : Option Addr) (L C : Nat) :
    Calls Try.prog 18 #[.pointer (some ⟨g, 0, none⟩), .int .i64 n, .slice A L C] w fun e w' => e = .returned (.int .i64 5) ∧ w = w' := by
  go_enter Try.func18, Try.ntmps18
  go_wp2_with (go_at_call 27; refine (has_no g lab most bs w h n hn).mono ?_; rintro e w' ⟨rfl, rfl⟩)
  go_ret
  exact ⟨rfl, rfl⟩
set_option maxHeartbeats 1000000 in
theorem rot_yes (g : Nat) (lab most : Int) (bs : List Tx) (w : World) (h : Dr w g lab most bs) (n : Nat) (hn : n < bs.length) (A : Option Addr) (t : Tx) (L C : Nat) (G : Nat → Prop) (hL : t.length = L) (hl : L ≤ 1000000) (hr : RdL w A t G) :
    Calls Try.prog 18 #[.pointer (some ⟨g, 0, none⟩), .int .i64 (n : Int), .slice A L C] w (Turned (.int .i64 0) g lab most (bs.set n (Tp.rot bs[n] t)) w) := by
  have hlt := h.lt
  have l3 : n < 64 := by have := h.len64; omega
  have l4 : (n : Int) < 64 := by omega
  have cn := h.mem.cs hn
  have hs94 := h.ok bs[n] (List.getElem_mem hn)
  obtain ⟨s, hs⟩ : ∃ s, s = bs[n] := ⟨_, rfl⟩
  rw [← hs] at cn hs94 ⊢
  obtain ⟨D, hD, hcv⟩ := bytes_conv w s
  have HE := Lib.hid hs
  have HS := Lib.hid h
  have HR : Hid (RdL w A t (· < w.heap.size)) := Lib.hid (hr.in_.mono fun _ h => h.2)
  have hw := below_bytes w 5 (tx s)
  have HF := Lib.hid (ownF_bytes w s)
  generalize Lib.bytesWorld w 5 (tx s) = w1 at hcv hw HF
  have HB := Lib.hid hw
  obtain ⟨S, hS⟩ : ∃ S, S = s.length := ⟨_, rfl⟩
  rw [← hS] at hcv hs94 hD
  have HSL := Lib.hid hS
  have HTL := Lib.hid hL
  obtain ⟨M, hM⟩ : ∃ M, M = min S L := ⟨_, rfl⟩
  have m1 : M ≤ S := by omega
  have m2 : M ≤ L := by omega
  have HM := Lib.hid hM
  have hif : (if L < S then (L : Int) else (S : Int)) = (M : Int) := by split <;> omega
  clear h hr hs hw hS hL hM
  go_enter Try.func18, Try.ntmps18
  go_wp2_with (go_at_call 27; refine (has_yes g lab most bs w HS.out n hn).mono ?_; rintro e w' ⟨rfl, rfl⟩)
  go_loopw [25] (fun i wr => ∃ k : Nat, k ≤ M ∧ i = .int .i64 (k : Int) ∧ Hid (OwnF wr w.heap.size (Tp.rot s (t.take k))) ∧ Hid (Below w.heap.size w wr)) (fun i _ => M - (intOf i).toNat)
  case atStart => exact ⟨0, by omega, rfl, Lib.hid (by rw [List.take_zero, Tp.rot_nil]; exact HF.out), HB⟩
  case round =>
    clear HF HB
    obtain ⟨k, hk, rfl, HF, HB⟩ := hrel
    by_cases hlt' : k < M
    · have ks : k < s.length := by rw [← HSL.out]; omega
      have kt : k < t.length := by rw [HTL.out]; omega
      have kr : k < (Tp.rot s (t.take k)).length := by rw [Tp.rot_len]; exact ks
      obtain ⟨b, off, rfl, hbl, ct⟩ := (HR.out.below HB.out).at_ kt
      have cb := HF.out.cell kr
      rw [Tp.rot_keep s t k ks] at cb
      have fb := HF.out.fr kr
      have hx := xor_b s[k] t[k]
      have HN : Hid (OwnF (wr.setCell ⟨w.heap.size, k, none⟩ (.int .u8 ((s[k] ^^^ t[k]).toNat : Int))) w.heap.size (Tp.rot s (t.take (k + 1)))) := Lib.hid (by rw [← Tp.rot_step s t k ks kt]; exact HF.out.set k _)
      have hbr : w.heap.size < wr.heap.size := HF.out.lt
      have kS : k < S := by omega
      have kL : k < L := by omega
      clear kr
      generalize s[k] = x at *
      generalize t[k] = y at *
      go_wp2
      refine wp_region_still_tail 10 (by kernel_rfl) (by kernel_rfl) ?_
      simp only [List.take_succ_cons, List.take_zero, List.drop_succ_cons, List.drop_zero]
      repeat (first | still_step)
      refine wpStill_nil ?_
      change wpList _ _ _ _ _ wr.drew
      go_wp2
      go_roundw
      case rel => exact ⟨k + 1, by omega, by go_num, Lib.hid (HN.out.of_block rfl), Lib.hid ((HB.out.setCell (Nat.le_refl _) _).drew)⟩
      case measure => simp [intOf]; omega
    · have HQ : Hid (Tp.rot s (t.take k) = Tp.rot s t) := Lib.hid (Tp.rot_full s t k (by rw [← HSL.out, HTL.out]; have := HM.out; omega))
      have hD1 := HS.out.old HB.out
      have hst := RdL.str (w := wr.drew) (HF.out.rd.keep fun _ _ _ h => h) D
      rw [HQ.out, Tp.rot_len, ← HSL.out] at hst
      obtain ⟨v, cx⟩ := hD1.mem.cx l3
      have fx := hD1.mem.fr (3 + n)
      have HD1 := Lib.hid hD1
      clear hD1 cn
      go_wp2
      refine wp_region_still_tail 7 (by kernel_rfl) (by kernel_rfl) ?_
      simp only [List.take_succ_cons, List.take_zero, List.drop_succ_cons, List.drop_zero]
      repeat (first | still_step)
      refine wpStill_nil ?_
      change wpList _ _ _ _ _ wr.drew
      go_wp2
      go_ret
      refine ⟨rfl, ⟨?_, HS.out.lo, HS.out.hi, ?_, ?_⟩, ((Kp.of_below HB.out).trans (Kp.store _ _ _ _)).drew⟩
      · have := (HD1.out.mem.set (Tp.rot s t) n).of_block (w' := (wr.setCell ⟨g, 3 + n, none⟩ (.string (tx (Tp.rot s t)))).drew) rfl
        rw [List.length_set]; exact this
      · rw [List.length_set]; exact HS.out.fit
      · intro x hx
        rcases List.mem_or_eq_of_mem_set hx with hx | hx
        · exact HS.out.ok x hx
        · rw [hx, Tp.rot_len, ← HSL.out]; exact hs94
end Go.Proofs.Ytflcnghjhgfkfaa
