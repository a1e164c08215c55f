/- What a drive's keep, Erase, Append and Read do. -/
import Derived.Test.YtflcnghjhgfkfaaTpA
import Derived.Laws.IdiomCopy
import Derived.Lib.ConvBytes
namespace Go.Proofs.Ytflcnghjhgfkfaa
open Go.RowKit
open Pt (Tx)

theorem DrK.setb {w : World} {g : Nat} {lab most cnt : Int} {bs : List Tx} (h : DrK w g lab most cnt bs) {o : Nat} (ho : 3 + bs.length ≤ o) (v : Value) : DrK (w.setCell ⟨g, o, none⟩ v) g lab most cnt bs := by
  obtain ⟨c, hb, hs, h0, h1, h2, h3⟩ := h
  refine ⟨_, heap_set hb _, by simpa using hs, ?_, ?_, ?_, fun j hj => ?_⟩
  · rw [Array.getElem?_setIfInBounds, if_neg (by omega)]; exact h0
  · rw [Array.getElem?_setIfInBounds, if_neg (by omega)]; exact h1
  · rw [Array.getElem?_setIfInBounds, if_neg (by omega)]; exact h2
  · rw [Array.getElem?_setIfInBounds, if_neg (by omega)]; exact h3 j hj
theorem DrK.sets {g : Nat} {lab most cnt : Int} {bs : List Tx} : ∀ (vs : List Value) (o : Nat) (w : World), DrK w g lab most cnt bs → 3 + bs.length ≤ o → DrK (w.setCells g o vs) g lab most cnt bs
  | [], _, _, h, _ => h
  | v :: vs, o, _, h, ho => DrK.sets vs (o + 1) _ (h.setb ho v) (by omega)
theorem Kp.sets {S : Nat → Prop} {g : Nat} (hg : S g) : ∀ (vs : List Value) (o : Nat) (a w : World), Kp S a w → Kp S a (w.setCells g o vs)
  | [], _, _, _, h => h
  | v :: vs, o, a, _, h => Kp.sets hg vs (o + 1) a _ (h.setCell (p := ⟨g, o, none⟩) hg v)
/-- a call has turned the drive at g, and of what was there nothing else -/
def Turned (v : Value) (g : Nat) (lab most : Int) (bs : List Tx) (w : World) (e : Ending) (w' : World) : Prop := e = .returned v ∧ Dr w' g lab most bs ∧ Kp (· = g) w w'
theorem slice_from (g n : Nat) (w : World) (hn : n < 64) : (Instr.sliceAt 55 (.pointer (some ⟨g, 3, none⟩)) (some (.int .i64 (n : Int))) none none).run Try.prog w = .ok (.slice (some ⟨g, 3 + n, none⟩) (64 - n) (64 - n)) w := by
  have ha : Try.prog.arrayLen 55 = 64 := by kernel_rfl
  rw [run_sliceAt_array_l w 55 ⟨g, 3, none⟩ (by kernel_rfl) .i64 (n : Int) (by omega) (by rw [ha]; omega)]
  have hs : (sizeOf (Try.prog.elem 55)).run Try.prog w = .ok 1 w := rfl
  rw [hs, ha]
  simp only [Result.andThen, slicedAt, Int.toNat_natCast, Nat.mul_one]
  rw [if_neg (by omega), addr_add]
theorem keep_any (g : Nat) (lab most : Int) (bs : List Tx) (w : World) (h : Dr w g lab most bs) (n : Nat) (hn : n ≤ bs.length) (hn' : n < 64) :
    Calls Try.prog 28 #[.pointer (some ⟨g, 0, none⟩), .int .i64 (n : Int)] w (Turned (.tuple #[]) g lab most (bs.take n) w) := by
  have hlt := h.lt
  have c2 := h.mem.c2
  have f2 := h.mem.fr 2
  have hcl := Lib.run_clear_slice (P := Try.prog) w 64 9 0 (.string ⟨#[]⟩) Try.underlying64 (fun _ => rfl) rfl rfl g (3 + n) (64 - n) (64 - n) (by omega) (fun j hj => by
    obtain ⟨v, hv⟩ := h.mem.cx (j := n + j) (by omega)
    rw [Nat.add_assoc, hv]; rfl) (fun j _ => h.mem.fr _)
  have hsl := slice_from g n w hn'
  have HS : Hid (Dr w g lab most bs) := Lib.hid h
  clear h
  obtain ⟨w1, hw1⟩ : ∃ w1, w1 = w.setCells g (3 + n) (List.replicate (64 - n) (.string ⟨#[]⟩)) := ⟨_, rfl⟩
  have hlen : (bs.take n).length = n := by simp; omega
  have d1 : DrK w1 g lab most (bs.length : Int) (bs.take n) := by rw [hw1]; exact DrK.sets _ _ _ (HS.out.mem.take n) (by omega)
  have k1 : Kp (· = g) w w1 := by rw [hw1]; exact Kp.sets (S := (· = g)) rfl _ _ _ _ (Kp.refl _ _)
  rw [← hw1] at hcl
  have c2' := d1.c2
  have f2' := d1.fr 2
  have HD := Lib.hid d1
  have HK := Lib.hid k1
  have HL := Lib.hid hlen
  clear hw1 d1 k1 hlen
  go_enter Try.func28, Try.ntmps28
  go_wp2
  go_end0
  refine ⟨rfl, ⟨?_, HS.out.lo, HS.out.hi, ?_, fun s hs => HS.out.ok s (List.mem_of_mem_take hs)⟩, HK.out.trans (Kp.store _ _ _ _)⟩
  · rw [HL.out]; exact HD.out.setn _
  · rw [HL.out]; have := HS.out.fit; omega
theorem erase_any (g : Nat) (lab most : Int) (bs : List Tx) (w : World) (h : Dr w g lab most bs) :
    Calls Try.prog 20 #[.pointer (some ⟨g, 0, none⟩)] w (Turned (.int .i64 0) g lab most [] w) := by
  go_enter Try.func20, Try.ntmps20
  go_wp2_with (go_at_call 28; refine (keep_any g lab most bs w h 0 (Nat.zero_le _) (by decide)).mono ?_; rintro e w' ⟨rfl, hd, hk⟩; have HD := Lib.hid hd; have HK := Lib.hid hk; clear hd hk)
  go_ret
  exact ⟨rfl, HD.out, HK.out⟩
theorem rightBlock_yes (A : Option Addr) (n c : Nat) (w : World) (h1 : 1 ≤ n) (h2 : n ≤ 94) :
    Calls Try.prog 26 #[.slice A n c] w fun e w' => e = .returned (.bool true) ∧ w = w' := by
  have d1 : decide (1 ≤ (n : Int)) = true := decide_eq_true (by omega)
  have d2 : decide ((n : Int) ≤ 94) = true := decide_eq_true (by omega)
  go_enter Try.func26, Try.ntmps26
  go_wp2
  go_ret
  exact ⟨rfl, rfl⟩
theorem rightBlock_no (A : Option Addr) (n c : Nat) (w : World) (h : n < 1 ∨ 94 < n) :
    Calls Try.prog 26 #[.slice A n c] w fun e w' => e = .returned (.bool false) ∧ w = w' := by
  by_cases h1 : n < 1
  · have d1 : decide (1 ≤ (n : Int)) = false := decide_eq_false (by omega)
    go_enter Try.func26, Try.ntmps26
    go_wp2
    go_ret
    exact ⟨rfl, rfl⟩
  · have d1 : decide (1 ≤ (n : Int)) = true := decide_eq_true (by omega)
    have d2 : decide ((n : Int) ≤ 94) = false := decide_eq_false (by omega)
    go_enter Try.func26, Try.ntmps26
    go_wp2
    go_ret
    exact ⟨rfl, rfl⟩
theorem append_bad (g : Nat) (A : Option Addr) (n c : Nat) (w : World) (h : n < 1 ∨ 94 < n) :
    Calls Try.prog 13 #[.pointer (some ⟨g, 0, none⟩), .slice A n c] w fun e w' => e = .returned (.int .i64 1) ∧ w = w' := by
  go_enter Try.func13, Try.ntmps13
  go_wp2_with (go_at_call 26; refine (rightBlock_no A n c w h).mono ?_; rintro e w' ⟨rfl, rfl⟩)
  go_ret
  exact ⟨rfl, rfl⟩
theorem append_full (g : Nat) (lab most : Int) (bs : List Tx) (A : Option Addr) (n c : Nat) (w : World) (h : Dr w g lab most bs) (h1 : 1 ≤ n) (h2 : n ≤ 94) (hf : most ≤ (bs.length : Int)) :
    Calls Try.prog 13 #[.pointer (some ⟨g, 0, none⟩), .slice A n c] w fun e w' => e = .returned (.int .i64 6) ∧ ∃ n, w' = w.drewN n := by
  have c1 := h.mem.c1
  have c2 := h.mem.c2
  have d1 : decide (most ≤ (bs.length : Int)) = true := decide_eq_true hf
  go_enter Try.func13, Try.ntmps13
  go_wp2_with (go_at_call 26; refine (rightBlock_yes A n c w h1 h2).mono ?_; rintro e w' ⟨rfl, rfl⟩)
  go_quiet (fail)
  go_wp2
  go_ret
  exact ⟨rfl, _, rfl⟩
theorem append_ok (g : Nat) (lab most : Int) (bs : List Tx) (A : Option Addr) (s : Tx) (n c : Nat) (G : Nat → Prop) (w : World) (h : Dr w g lab most bs) (hn : s.length = n) (h1 : 1 ≤ n) (h2 : n ≤ 94) (hf : (bs.length : Int) < most) (hr : RdL w A s G) :
    Calls Try.prog 13 #[.pointer (some ⟨g, 0, none⟩), .slice A n c] w (Turned (.int .i64 0) g lab most (bs ++ [s]) w) := by
  subst hn
  have hlt := h.lt
  have c1 := h.mem.c1
  have c2 := h.mem.c2
  have l1 := h.lo
  have l2 := h.hi
  have l3 : bs.length < 64 := by omega
  have l4 : (bs.length : Int) < 64 := by omega
  have d1 : decide (most ≤ (bs.length : Int)) = false := decide_eq_false (by omega)
  have HS := Lib.hid h
  clear h
  go_enter Try.func13, Try.ntmps13
  go_wp2_with (go_at_call 26; refine (rightBlock_yes A s.length c w h1 h2).mono ?_; rintro e w' ⟨rfl, rfl⟩)
  go_quiet (fail)
  go_wp2
  have hD : Dr (w.drewN nq) g lab most bs := HS.out.of_block rfl
  have hR : RdL (w.drewN nq) A s G := hr.keep fun _ _ _ h => h
  have hK : Kp (· = g) w (w.drewN nq) := (Kp.refl _ _).drewN _
  clear c1 c2 hr
  generalize w.drewN nq = wr at hD hR hK ⊢
  have c2 := hD.mem.c2
  obtain ⟨v, cx⟩ := hD.mem.cx l3
  have fx := hD.mem.fr (3 + bs.length)
  have f2 := hD.mem.fr 2
  have hst := RdL.str (w := wr.drew) (hR.keep fun _ _ _ h => h) c
  have HD := Lib.hid hD
  have HK := Lib.hid hK
  clear hD hR hK
  refine wp_region_still_tail 10 (by kernel_rfl) (by kernel_rfl) ?_
  simp only [List.take_succ_cons, List.take_zero, List.drop_succ_cons, List.drop_zero]
  repeat (first | still_step)
  refine wpStill_nil ?_
  change wpList _ _ _ _ _ wr.drew
  go_wp2
  go_ret
  refine ⟨rfl, ⟨?_, l1, l2, ?_, ?_⟩, ((HK.out.trans (Kp.store _ _ _ _)).trans (Kp.store _ _ _ _)).drew⟩
  · have := ((HD.out.mem.push l3 s rfl).setn ((bs.length : Int) + 1)).of_block (w' := ((wr.setCell ⟨g, 3 + bs.length, none⟩ (.string (tx s))).setCell ⟨g, 2, none⟩ (.int .i64 ((bs.length : Int) + 1))).drew) rfl
    simpa using this
  · simp; omega
  · intro t ht
    rcases List.mem_append.1 ht with ht | ht
    · exact HS.out.ok t ht
    · rw [List.mem_singleton.1 ht]; exact ⟨h1, h2⟩
/-- the world behind []byte(s) -/
theorem below_bytes (w : World) (e : TypeId) (s : ByteArray) : Below w.heap.size w (Lib.bytesWorld w e s) :=
  ⟨by simp [Lib.bytesWorld, World.freeze]; rfl, by simp [Lib.bytesWorld, World.freeze], by simp [Lib.bytesWorld, World.freeze]; rfl, by rw [Lib.bytesWorld_size]; omega, fun k hk => Lib.bytesWorld_at_old w e s k hk⟩
theorem rd_bytes (w : World) (s : Tx) : RdL (Lib.bytesWorld w 5 (tx s)) (some ⟨w.heap.size, 0, none⟩) s (· = w.heap.size) := fun _ =>
  ⟨w.heap.size, 0, rfl, rfl, fun j hj => by
    rw [Nat.zero_add, Lib.bytesWorld_cell w _ _ j (by rw [tx_size]; exact hj), tx_data]
    simp [List.getD, hj]⟩
theorem bytes_conv (w : World) (s : Tx) : ∃ C, s.length ≤ C ∧ (convert 9 35 (.string (tx s))).run Try.prog w = .ok (.slice (some ⟨w.heap.size, 0, none⟩) s.length C) (Lib.bytesWorld w 5 (tx s)) := by
  refine ⟨grownCap w (tx s).size 0 5, ?_, ?_⟩
  · have := grownCap_ge w (tx s).size 0 5
    rw [tx_size] at this ⊢; omega
  · rw [← tx_size s]
    exact Lib.run_convert_string_bytes (P := Try.prog) w 9 35 5 (tx s) Try.underlying9 Try.underlying35 Try.underlying5
/-- what Read answers: a block, in new memory -/
def ReadAns (s : Tx) (w : World) (e : Ending) (w' : World) : Prop := ∃ b C, e = .returned (.tuple #[.slice (some ⟨b, 0, none⟩) s.length C, .int .i64 0]) ∧ s.length ≤ C ∧ w.heap.size ≤ b ∧ RdL w' (some ⟨b, 0, none⟩) s (· = b) ∧ Below w.heap.size w w'
theorem read_no (g : Nat) (lab most : Int) (bs : List Tx) (w : World) (h : Dr w g lab most bs) (n : Int) (hn : n < 0 ∨ (bs.length : Int) ≤ n) :
    Calls Try.prog 15 #[.pointer (some ⟨g, 0, none⟩), .int .i64 n] w fun e w' => e = .returned (.tuple #[.slice none 0 0, .int .i64 5]) ∧ w = w' := by
  go_enter Try.func15, Try.ntmps15
  go_wp2_with (go_at_call 27; refine (has_no g lab most bs w h n hn).mono ?_; rintro e w' ⟨rfl, rfl⟩)
  go_ret2
  exact ⟨rfl, rfl⟩
theorem read_yes (g : Nat) (lab most : Int) (bs : List Tx) (w : World) (h : Dr w g lab most bs) (n : Nat) (hn : n < bs.length) :
    Calls Try.prog 15 #[.pointer (some ⟨g, 0, none⟩), .int .i64 (n : Int)] w (ReadAns bs[n] w) := by
  have l3 : n < 64 := by have := h.len64; omega
  have l4 : (n : Int) < 64 := by omega
  have cn := h.mem.cs hn
  obtain ⟨s, hs⟩ : ∃ s, s = bs[n] := ⟨_, rfl⟩
  rw [← hs] at cn ⊢
  obtain ⟨C, hC, hcv⟩ := bytes_conv w s
  have HC := Lib.hid hC
  clear hs hC
  go_enter Try.func15, Try.ntmps15
  go_wp2_with (go_at_call 27; refine (has_yes g lab most bs w h n hn).mono ?_; rintro e w' ⟨rfl, rfl⟩)
  go_ret2
  exact ⟨w.heap.size, C, rfl, HC.out, Nat.le_refl _, rd_bytes w s, below_bytes w _ _⟩
end Go.Proofs.Ytflcnghjhgfkfaa
