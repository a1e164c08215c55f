/- What the law on one bit that is turned answers: true; nothing that was there is written. -/
import Derived.Test.YtbaeoglgagiafaaCrJoins
namespace Go.Proofs.Ytbaeoglgagiafaa
open Go.RowKit Mx

/-- a row of which byte p is another -/
def put (r : Nat → Fe) (p : Nat) (a : Fe) : Nat → Fe := fun k => if k = p then a else r k
theorem crc_put (r : Nat → Fe) (n p : Nat) (a : Fe) (hp : p < n) (ha : a ≠ r p) : crc 0#32 (put r p a) n ≠ crc 0#32 r n := by
  intro h
  unfold crc at h
  have h' : Cr.ups (~~~0#32) (fun i => (put r p a i).nat) n = Cr.ups (~~~0#32) (fun i => (r i).nat) n := by
    have := congrArg (fun x => ~~~x) h
    simpa using this
  refine Cr.ups_one hp (put r p a p).nat_lt (r p).nat_lt ?_ (fun i _ hi => ?_) h'
  · show (put r p a p).nat ≠ (r p).nat
    unfold put
    rw [if_pos rfl]
    exact fun e => ha (Fe.ext e)
  · show (put r p a i).nat = (r i).nat
    unfold put
    rw [if_neg hi]
/-- the bit k of a byte -/
def bitK (k : Nat) : Fe := mk (2 ^ k % 256) (Nat.mod_lt _ (by decide))
theorem bitK_ne : ∀ k, k < 8 → bitK k ≠ 0 := by
  intro k hk
  rcases (show k = 0 ∨ k = 1 ∨ k = 2 ∨ k = 3 ∨ k = 4 ∨ k = 5 ∨ k = 6 ∨ k = 7 by omega) with rfl | rfl | rfl | rfl | rfl | rfl | rfl | rfl <;> exact fun e => absurd (congrArg Fe.nat e) (by decide)
theorem bit7 (b : Int) : ∃ k : Nat, k < 8 ∧ bits BinOp.and IntKind.i64 b 7 = (k : Int) := by
  refine ⟨((BitVec.ofInt 64 b) &&& (BitVec.ofInt 64 7)).toNat, ?_, ?_⟩
  · rw [BitVec.toNat_and, show (BitVec.ofInt 64 7).toNat = 2 ^ 3 - 1 by decide, Nat.and_two_pow_sub_one_eq_mod]
    exact Nat.mod_lt _ (by decide)
  · show IntKind.i64.wrap ((BitVec.ofInt 64 b &&& BitVec.ofInt 64 7).toNat : Int) = _
    have : ((BitVec.ofInt 64 b) &&& (BitVec.ofInt 64 7)).toNat < 8 := by
      rw [BitVec.toNat_and, show (BitVec.ofInt 64 7).toNat = 2 ^ 3 - 1 by decide, Nat.and_two_pow_sub_one_eq_mod]
      exact Nat.mod_lt _ (by decide)
    rw [IntKind.wrap_i64]
    omega
theorem turn_bit (a : Fe) (k : Nat) : bits BinOp.xor IntKind.u8 (fi a) (2 ^ k % 256) = fi (a + bitK k) := by
  have h : ((2 : Int) ^ k % 256) = fi (bitK k) := by
    unfold fi bitK; rw [nat_mk]; simp
  rw [h, xor_fi]
set_option maxRecDepth 100000 in
set_option maxHeartbeats 2000000 in
theorem sumBit_walk (A : Option Addr) (n C : Nat) (r : Nat → Fe) (at_ bit : Int) (w : World) (hn : n ≤ maxLen) (hat : at_ ≤ 9223372036854775807) (hA : A = none → n = 0 ∧ C = 0) (hr : Rd w A n r (fun _ => True)) :
    Calls Try.prog 5 #[.slice A n C, .int .i64 at_, .int .i64 bit] w fun e w' => e = .returned (.bool true) ∧ Below w.heap.size w w' := by
  have HN := Lib.hid hn
  have HA := Lib.hid hA
  unfold maxLen at hn
  have HR := Lib.hid hr
  clear hr hA
  by_cases h0 : n < 1
  · clear HR HN HA
    go_enter Try.func5, Try.ntmps5
    go_wp2_with fail
    refine (alive4_true _).mono ?_
    rintro e w1 ⟨rfl, hB⟩
    have HB := Lib.hid hB
    clear hB
    go_wp2
    go_ret
    exact ⟨rfl, HB.out⟩
  by_cases hbig : 1000 < n
  · clear HR HN HA
    go_enter Try.func5, Try.ntmps5
    go_wp2_with fail
    refine (alive4_true _).mono ?_
    rintro e w1 ⟨rfl, hB⟩
    have HB := Lib.hid hB
    clear hB
    go_wp2
    go_ret
    exact ⟨rfl, HB.out⟩
  by_cases hneg : at_ < 0
  · clear HR HN HA
    go_enter Try.func5, Try.ntmps5
    go_wp2_with fail
    refine (alive4_true _).mono ?_
    rintro e w1 ⟨rfl, hB⟩
    have HB := Lib.hid hB
    clear hB
    go_wp2
    go_ret
    exact ⟨rfl, HB.out⟩
  obtain ⟨k, hk, ek⟩ := bit7 bit
  obtain ⟨q, rfl⟩ := Int.eq_ofNat_of_zero_le (show 0 ≤ at_ by omega)
  obtain ⟨p, hp, EM⟩ : ∃ p : Nat, p < n ∧ Hid (((q : Int)).tmod (n : Int) = (p : Int)) := ⟨q % n, Nat.mod_lt _ (by omega), Lib.hid (by rw [Int.tmod_eq_emod_of_nonneg (by omega)]; exact (Int.natCast_emod q n).symm)⟩
  have HX := Lib.hid (crc_put r n p (r p + bitK k) hp (fun e => bitK_ne k hk (by
    have := congrArg (fun x => r p + x) e
    simpa [← Mx.add_assoc, Mx.add_self, Mx.zero_add] using this)))
  have HK := Lib.hid ek
  clear ek
  go_enter Try.func5, Try.ntmps5
  go_wp2_with fail
  refine (alive4_true _).mono ?_
  rintro e w1 ⟨rfl, hB⟩
  have HB := Lib.hid hB
  have HR1 := Lib.hid (HR.out.old hB)
  clear hB HR
  go_wp2_with (at_builtin; refine wpList_append_by _ rfl _ _ rfl w1.heap.size _ 0 r rfl (OwnB.nil _ _ _) A n C r _ rfl HA.out HR1.out (by omega) (Nat.le_refl _) ?_)
  intro v2 w2 hown hgrow
  have hb2 := (Below.refl w1.heap.size w1).grown hgrow (Nat.le_refl _) (fun k hk => (own_none k hk).elim)
  have hsz := hb2.size
  obtain ⟨g, C2, rfl, hg, hC2, hrow⟩ := hown.first.row (by omega)
  have HO := Lib.hid hrow
  have HR2 := Lib.hid (HR1.out.in_.below hb2)
  have HB2 := Lib.hid hb2
  clear hown hgrow hb2 HR1
  have hcell := hrow.cell hp
  have hfr := hrow.frozen p
  clear hrow
  have em := EM.out
  have hz : ¬ (n = 0) := by omega
  have hz' : ((n : Int) == 0) = false := by simp; omega
  have ew2 : IntKind.i64.wrap (p : Int) = (p : Int) := IntWalk.i64_in _ (by omega)
  have ek := HK.out
  have ew : IntKind.u64.wrap (k : Int) = (k : Int) := by simp [IntKind.wrap, IntKind.bits, IntKind.signed]; omega
  go_wp2_with fail
  refine wp_region_still_tail 18 (by kernel_rfl) (by kernel_rfl) ?_
  simp only [List.take_succ_cons, List.take_zero, List.drop_succ_cons, List.drop_zero]
  repeat still_step
  refine wpStill_nil ?_
  change wpList _ _ _ _ _ w2.drew
  go_wp2_with fail
  rw [turn_bit]
  clear em hz hz' ew2 ek ew
  have hr3 : RowAt (w2.setCell ⟨g, p, none⟩ (.int .u8 (fi (r p + bitK k)))).drew g n (put r p (r p + bitK k)) := HO.out.set p _
  have HR3 : Hid (Rd (w2.setCell ⟨g, p, none⟩ (.int .u8 (fi (r p + bitK k)))).drew A n r (fun x => x < w1.heap.size)) := Lib.hid (HR2.out.kp (Kp.store w2 g p _).drew (fun b hb e => by subst e; omega))
  have HB3 : Hid (Below w1.heap.size w1 (w2.setCell ⟨g, p, none⟩ (.int .u8 (fi (r p + bitK k)))).drew) := Lib.hid ((HB2.out.setCell (p := ⟨g, p, none⟩) hg _).drew)
  have H3 := Lib.hid hr3
  clear hr3 hcell hfr HO HR2 HB2
  generalize (w2.setCell ⟨g, p, none⟩ (.int .u8 (fi (r p + bitK k)))).drew = w3 at H3 HR3 HB3 ⊢
  have ht : (bi (crc 0#32 (put r p (r p + bitK k)) n) != bi (crc 0#32 r n)) = true := by
    simp only [bne_iff_ne, ne_eq]
    exact fun e => HX.out (bi_inj e)
  refine (sum_any _ n C2 (put r p (r p + bitK k)) (fun _ => True) w3 HN.out (H3.out.rd _ trivial)).mono ?_
  rintro e w' ⟨rfl, rfl⟩
  go_wp2_with fail
  refine (sum_any A n C r _ w3 HN.out HR3.out).mono ?_
  rintro e w' ⟨rfl, rfl⟩
  go_wp2
  go_ret
  exact ⟨rfl, HB.out.trans (HB3.out.mono HB.out.size)⟩
end Go.Proofs.Ytbaeoglgagiafaa
