/- What the laws on two rows one behind the other, and on bytes with their own sum behind, answer: true; nothing that was there is written. -/
import Derived.Test.YtbaeoglgagiafaaCrAlive
import Derived.Test.YtbaeoglgagiafaaByOpen
import Derived.Test.YtbaeoglgagiafaaByWords
namespace Go.Proofs.Ytbaeoglgagiafaa
open Go.RowKit Mx

theorem crc_join (s : Cr.W) (n m : Nat) (r r' : Nat → Fe) : crc (crc s r n) r' m = crc s (jn n r r') (n + m) := by
  unfold crc
  rw [BitVec.not_not, Cr.ups_join, Cr.ups_congr (s := ~~~s) (r := fun i => (jn n r r' i).nat) (r' := fun i => (r i).nat) n (fun i hi => by rw [jn_lo r r' hi])]
  congr 1
  exact Cr.ups_congr m fun i _ => by rw [jn_at]
/-- byte j of a word, from the lowest on -/
def byK (x : Cr.W) (j : Nat) : Fe := mk (x.toNat / 256 ^ j % 256) (Nat.mod_lt _ (by decide))
theorem nat_byK (x : Cr.W) (j : Nat) : (byK x j).nat = x.toNat / 256 ^ j % 256 := nat_mk _ _
theorem crc_end (r : Nat → Fe) (n : Nat) : bi (crc 0#32 (jn n r (byK (crc 0#32 r n))) (n + 4)) = 1214729159 := by
  have h := Cr.at_end (Cr.ups (~~~0#32) (fun i => (r i).nat) n)
  rw [← crc_join]
  show bi (~~~(Cr.ups (~~~(crc 0#32 r n)) (fun i => (byK (crc 0#32 r n) i).nat) 4)) = _
  have e : ~~~(crc 0#32 r n) = Cr.ups (~~~0#32) (fun i => (r i).nat) n := BitVec.not_not
  rw [e]
  simp only [nat_byK]
  have e2 : crc 0#32 r n = ~~~(Cr.ups (~~~0#32) (fun i => (r i).nat) n) := rfl
  rw [e2]
  have e3 : Cr.ups (Cr.ups (~~~0#32) (fun i => (r i).nat) n) (fun i => (~~~(Cr.ups (~~~0#32) (fun i => (r i).nat) n)).toNat / 256 ^ i % 256) 4 = 0xB798B438#32 := by
    rw [← h]
    simp only [Cr.ups]
    simp
  rw [e3]
  decide
theorem mask_u32 (x : Int) (h0 : 0 ≤ x) (h1 : x < 4294967296) : bits BinOp.and IntKind.u32 x 255 = x % 256 :=
  bits_mask .u32 32 (by decide) (fun m h0 h1 => by rw [IntKind.wrap_u32]; omega) 8 (by decide) x h0 h1
theorem byte0 (x : Cr.W) : bits BinOp.and IntKind.u32 (bi x) 255 = fi (byK x 0) := by
  have h0 := bi_lo x
  have h1 := bi_hi x
  rw [mask_u32 _ h0 h1]; unfold fi; rw [nat_byK]; unfold bi; simp
theorem byte1 (x : Cr.W) : bits BinOp.and IntKind.u32 (bi x / 256) 255 = fi (byK x 1) := by
  have h0 := bi_lo x
  have h1 := bi_hi x
  rw [mask_u32 _ (by omega) (by omega)]; unfold fi; rw [nat_byK]; unfold bi; simp
theorem byte2 (x : Cr.W) : bits BinOp.and IntKind.u32 (bi x / 65536) 255 = fi (byK x 2) := by
  have h0 := bi_lo x
  have h1 := bi_hi x
  rw [mask_u32 _ (by omega) (by omega)]; unfold fi; rw [nat_byK]; unfold bi; simp
theorem byte3 (x : Cr.W) : bi x / 16777216 = fi (byK x 3) := by
  have h1 := x.isLt
  unfold fi; rw [nat_byK]; unfold bi
  show ((x.toNat : Int) / 16777216) = (((x.toNat / 16777216 % 256 : Nat)) : Int)
  omega
theorem lit4 (w : World) (f : Nat → Fe) : Rd (w.alloc (.cells #[.int .u8 (fi (f 0)), .int .u8 (fi (f 1)), .int .u8 (fi (f 2)), .int .u8 (fi (f 3))] 5)) (some ⟨w.heap.size, 0, none⟩) 4 f (fun _ => True) := by
  intro _
  refine ⟨w.heap.size, 0, rfl, trivial, fun j hj => ?_⟩
  rw [Nat.zero_add, cell_of_row _ _ _ _ _ _ (heap_alloc_new w _)]
  rcases (show j = 0 ∨ j = 1 ∨ j = 2 ∨ j = 3 by omega) with rfl | rfl | rfl | rfl <;> rfl
theorem OwnB.first {w : World} {base n : Nat} {v : Value} {r0 r : Nat → Fe} (h : OwnB w base v n (jn 0 r0 r)) : OwnB w base v n r := by
  exact h.congr fun i _ => jn_hi r0 r (Nat.zero_le i)
theorem own_none : ∀ k, (Value.slice none 0 0).ownBlock = some k → False := fun k h => by cases h

set_option maxHeartbeats 1000000 in
theorem sumJoins_walk (A : Option Addr) (n C : Nat) (r : Nat → Fe) (A' : Option Addr) (m C' : Nat) (r' : Nat → Fe) (w : World) (hn : n ≤ maxLen) (hm : m ≤ maxLen) (hA : A = none → n = 0 ∧ C = 0) (hA' : A' = none → m = 0 ∧ C' = 0) (hr : Rd w A n r (fun _ => True)) (hr' : Rd w A' m r' (fun _ => True)) :
    Calls Try.prog 4 #[.slice A n C, .slice A' m C'] w fun e w' => e = .returned (.bool true) ∧ Below w.heap.size w w' := by
  have HN := Lib.hid hn
  have HM := Lib.hid hm
  have HA := Lib.hid hA
  have HA' := Lib.hid hA'
  unfold maxLen at hn hm
  have HR := Lib.hid hr
  have HR' := Lib.hid hr'
  clear hr hr' hA hA'
  by_cases hbig : 1000 < n
  · clear HR HR' HN HM HA HA'
    go_enter Try.func4, Try.ntmps4
    go_wp2_with fail
    refine (alive4_true _).mono ?_
    rintro e w1 ⟨rfl, hB⟩
    have HB := Lib.hid hB
    clear hB
    go_wp2
    go_ret
    exact ⟨rfl, HB.out⟩
  by_cases hbig' : 1000 < m
  · clear HR HR' HN HM HA HA'
    go_enter Try.func4, Try.ntmps4
    go_wp2_with fail
    refine (alive4_true _).mono ?_
    rintro e w1 ⟨rfl, hB⟩
    have HB := Lib.hid hB
    clear hB
    go_wp2
    go_ret
    exact ⟨rfl, HB.out⟩
  go_enter Try.func4, Try.ntmps4
  go_wp2_with fail
  refine (alive4_true _).mono ?_
  rintro e w1 ⟨rfl, hB⟩
  have HB := Lib.hid hB
  have HR1 := Lib.hid (HR.out.old hB)
  have HR1' := Lib.hid (HR'.out.old hB)
  clear hB HR HR'
  go_wp2_with fail
  refine (sum_any A n C r _ _ HN.out HR1.out).mono ?_
  rintro e w' ⟨rfl, rfl⟩
  go_wp2_with fail
  refine (more_any (crc 0#32 r n) A' m C' r' _ _ HM.out HR1'.out).mono ?_
  rintro e w' ⟨rfl, rfl⟩
  go_wp2_with (at_builtin; refine wpList_append_by _ rfl _ _ rfl w1.heap.size _ 0 r rfl (OwnB.nil _ _ _) A n C r _ rfl HA.out HR1.out (by omega) (Nat.le_refl _) ?_)
  intro v2 w2 hown hgrow
  have hb2 := (Below.refl w1.heap.size w1).grown hgrow (Nat.le_refl _) (fun k hk => (own_none k hk).elim)
  have hsz := hb2.size
  have HO := Lib.hid hown.first
  have HR2 := Lib.hid (HR1'.out.old hb2)
  have HB2 := Lib.hid hb2
  clear hown hgrow hb2
  go_wp2_with (at_builtin; refine wpList_append_by _ rfl _ _ rfl w1.heap.size _ n r rfl HO.out A' m C' r' _ rfl HA'.out HR2.out (by omega) hsz ?_)
  intro v3 w3 hown3 hgrow3
  have HB3 := Lib.hid (HB2.out.grown hgrow3 hsz HO.out.lo)
  obtain ⟨A3, C3, rfl, _, hr3⟩ := hown3.rd
  have hc := sum_any A3 (n + m) C3 (jn n r r') _ w3 (by unfold maxLen; omega) hr3
  rw [← crc_join] at hc
  have HC := Lib.hid hc
  clear hc hr3 hown3 hgrow3 HO HR2 HR1 HR1' hsz
  go_wp2_with fail
  refine HC.out.mono ?_
  rintro e w' ⟨rfl, rfl⟩
  go_wp2
  go_ret
  exact ⟨rfl, HB.out.trans (HB3.out.mono HB.out.size)⟩
end Go.Proofs.Ytbaeoglgagiafaa
