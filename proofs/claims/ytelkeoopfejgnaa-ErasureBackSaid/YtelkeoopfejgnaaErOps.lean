/- What the small functions of package erasure answer: alike, places, picked, asTheyAre. -/
import Derived.Test.YtelkeoopfejgnaaErWords
import Derived.Test.YtelkeoopfejgnaaMxOwn
namespace Go.Proofs.Ytelkeoopfejgnaa
open Go.RowKit Mx

def alikeB (n : Nat) (L : Nat → Nat) : Bool := decide (∀ i, i < n → L i = L 0)
theorem alikeB_true {n : Nat} {L : Nat → Nat} : alikeB n L = true ↔ ∀ i, i < n → L i = L 0 := decide_eq_true_iff
theorem alikeB_false {n : Nat} {L : Nat → Nat} {k : Nat} (hk : k < n) (h : L k ≠ L 0) : alikeB n L = false := decide_eq_false fun hh => h (hh k hk)
set_option maxHeartbeats 1000000 in
theorem alike_any (A : Option Addr) (n C : Nat) (L : Nat → Nat) (M : Mat) (G : Nat → Prop) (w : World) (hm : n ≤ maxLen) (h : RdM w A n L M G) :
    Calls Try.prog 14 #[.slice A n C] w fun e w' => e = .returned (.bool (alikeB n L)) ∧ w = w' := by
  unfold maxLen at hm
  have H := Lib.hid h
  clear h
  go_enter Try.func14, Try.ntmps14
  go_wp2
  go_loop [7, 4] (fun vi _ => ∃ k : Nat, k ≤ n ∧ vi = .int .i64 (k : Int) ∧ Hid (∀ i, i < k → L i = L 0)) (fun vi _ => n - (intOf vi).toNat)
  case atStart => exact ⟨0, by omega, rfl, Lib.hid (fun i hi => absurd hi (by omega))⟩
  case round =>
    obtain ⟨k, hk, rfl, HL⟩ := hrel
    by_cases hlt : k < n
    · obtain ⟨b, off, A0, C0, rfl, _, hc0, _⟩ := H.out.row (i := 0) (by omega)
      rw [Nat.add_zero] at hc0
      obtain ⟨b', off', Ak, Ck, e, _, hck, _⟩ := H.out.row hlt
      obtain ⟨rfl, rfl⟩ : b = b' ∧ off = off' := by simpa using e
      clear e
      by_cases he : L k = L 0
      · have hb : ((L k : Int) != (L 0 : Int)) = false := by rw [he]; simp
        have HE := Lib.hid he
        clear he
        go_wp2
        go_round
        case rel => exact ⟨k + 1, by omega, by go_num, Lib.hid (fun i hi => by
          by_cases e : i = k
          · rw [e]; exact HE.out
          · exact HL.out i (by omega))⟩
        case measure => simp [intOf]; omega
      · have hb : ((L k : Int) != (L 0 : Int)) = true := by rw [bne_iff_ne]; omega
        have HF := Lib.hid (alikeB_false (n := n) (L := L) hlt he)
        clear he
        go_wp2
        go_ret
        exact ⟨ret_bool HF.out.symm, rfl⟩
    · have HF := Lib.hid (alikeB_true (n := n) (L := L) |>.2 fun i hi => HL.out i (by omega))
      go_wp2
      go_ret
      exact ⟨ret_bool HF.out.symm, rfl⟩
theorem alike_is (A : Option Addr) (n C : Nat) (L : Nat → Nat) (M : Mat) (G : Nat → Prop) (w : World) (r : Bool) (hm : n ≤ maxLen) (h : RdM w A n L M G) (hr : alikeB n L = r) :
    Calls Try.prog 14 #[.slice A n C] w fun e w' => e = .returned (.bool r) ∧ w = w' := hr ▸ alike_any A n C L M G w hm h

/-- a row of places -/
def ResP (P : Nat → Bool) (n : Nat) (w : World) (e : Ending) (w' : World) : Prop :=
  ∃ A C, e = .returned (.slice A (plsN P n) C) ∧ plsN P n ≤ C ∧ (∀ a, A = some a → w.heap.size ≤ a.block) ∧ RdI w' A (plsN P n) (fun j => (plsAt P n j : Int)) ∧ Below w.heap.size w w'
set_option maxHeartbeats 1000000 in
theorem places_any (A : Option Addr) (n C : Nat) (L : Nat → Nat) (M : Mat) (G : Nat → Prop) (t : Bool) (w : World) (hn : n ≤ 255) (h : RdM w A n L M G) :
    Calls Try.prog 19 #[.slice A n C, .bool t] w (ResP (fun x => decide (0 < L x) == t) n w) := by
  have H := Lib.hid h
  clear h
  obtain ⟨P, hP⟩ : ∃ P : Nat → Bool, P = fun x => decide (0 < L x) == t := ⟨_, rfl⟩
  rw [← hP]
  have HP := Lib.hid hP
  clear hP
  go_enter Try.func19, Try.ntmps19
  go_wp2
  go_loopw [10, 5] (fun vi vo wr => ∃ i : Nat, i ≤ n ∧ vi = .int .i64 (i : Int) ∧ Hid (wr.ownsRow w.heap.size 3 1 vo (pls P i).length (intsOf (pls P i))) ∧ Hid (Below w.heap.size w wr)) (fun vi _ _ => n - (intOf vi).toNat)
  case atStart => exact ⟨0, by omega, rfl, Lib.hid (World.ownsRow_nil _ _ _ _), Lib.hid (Below.refl _ _)⟩
  case round =>
    obtain ⟨i, hi, rfl, HO, HB⟩ := hrel
    by_cases hlt : i < n
    · obtain ⟨b, off, Ai, Ci, rfl, _, hc, _⟩ := (H.out.old HB.out).row hlt
      have hPi : (decide (0 < L i) == t) = P i := by rw [HP.out]
      have hPj : (decide ((0 : Int) < (L i : Int)) == t) = P i := by rw [← hPi, show decide ((0 : Int) < (L i : Int)) = decide (0 < L i) from by simp]
      cases hh : P i with
      | true =>
        have HN : Hid (pls P (i + 1) = pls P i ++ [i]) := Lib.hid (pls_yes hh)
        have hlen : (pls P i).length ≤ i := plsN_le P i
        rw [hh] at hPi hPj
        obtain ⟨i0, hi0, hz0, hz1, hz2⟩ := info_parts infoInt
        have hown := HO.out
        have hlow : w.heap.size ≤ wr.heap.size := HB.out.size
        go_wp2_with (at_builtin; refine wpList_append_own _ rfl _ _ 33 rfl w.heap.size 3 i0 (.int .i64 0) 1 8 Try.underlying33 hi0 hz0 hz1 hz2 rfl (by decide) _ _ _ rfl (hown.alloc _) ⟨wr.heap.size, 0, none⟩ 1 1 [.int .i64 (i : Int)] rfl rfl (oneCell _ _ _) (oneInt _) (by unfold maxLen; omega) (by omega) (by simp; omega) ?_)
        intro v' w3 hown' hgrow _
        have HO3 : Hid (w3.ownsRow w.heap.size 3 1 v' (pls P (i + 1)).length (intsOf (pls P (i + 1)))) := by
          rw [HN.out, List.length_append]
          unfold intsOf
          rw [List.map_append]
          exact Lib.hid hown'
        have HB3 := Lib.hid ((HB.out.alloc hlow _).grown hgrow (by simp; omega) (fun x hx => (HO.out.lt x hx).1))
        clear hown' hgrow hown
        go_wp2
        go_roundw
        case rel => exact ⟨i + 1, by omega, by go_num, HO3, HB3⟩
        case measure => simp [intOf]; omega
      | false =>
        have HO3 := HO
        rw [← pls_no hh] at HO3
        rw [hh] at hPi hPj
        clear HO hh
        go_wp2
        go_roundw
        case rel => exact ⟨i + 1, by omega, by go_num, HO3, HB⟩
        case measure => simp [intOf]; omega
    · have hin : i = n := by omega
      have hO := HO.out
      rw [hin] at hO
      obtain ⟨Ao, Co, rfl, hC, hlo, hr⟩ := RdI.of_owns hO
      have HLo := Lib.hid hlo
      have HR := Lib.hid hr
      have HC := Lib.hid hC
      clear hr hO HO hC hlo
      go_wp2
      go_ret
      exact ⟨Ao, Co, rfl, HC.out, HLo.out, HR.out, HB.out⟩

/-- new memory that holds those rows -/
def ResT (n : Nat) (L : Nat → Nat) (M : Mat) (w : World) (e : Ending) (w' : World) : Prop :=
  ∃ b, e = .returned (.slice (some ⟨b, 0, none⟩) n n) ∧ w.heap.size ≤ b ∧ (∃ A C, TopR w' b n A L C M) ∧ Below w.heap.size w w'
set_option maxHeartbeats 1000000 in
theorem picked_any (A : Option Addr) (n C : Nat) (L : Nat → Nat) (M : Mat) (G : Nat → Prop) (A' : Option Addr) (k C' : Nat) (at_ : Nat → Nat) (w : World) (hk : k ≤ 255) (h : RdM w A n L M G) (h' : RdI w A' k (fun j => (at_ j : Int))) (hat : ∀ j, j < k → at_ j < n) :
    Calls Try.prog 20 #[.slice A n C, .slice A' k C'] w (ResT k (fun j => L (at_ j)) (fun j => M (at_ j)) w) := by
  have H := Lib.hid h
  have H' := Lib.hid h'
  have HA := Lib.hid hat
  clear h h' hat
  have hmk := run_make_row' (P := Try.prog) 22 34 (.slice none 0 0) 24 Try.underlying22 infoRow rfl .i64 .i64 k (by omega) (by omega)
  go_enter Try.func20, Try.ntmps20
  go_wp2
  clear hmk
  go_loopw [13] (fun vi wr => ∃ i : Nat, i ≤ k ∧ vi = .int .i64 (i : Int) ∧ Hid (∃ A C, TopR wr w.heap.size k A (fun j => if j < i then L (at_ j) else 0) C (fun j => M (at_ j))) ∧ Hid (Below w.heap.size w wr)) (fun vi _ => k - (intOf vi).toNat)
  case atStart => exact ⟨0, by omega, rfl, Lib.hid ⟨_, _, (TopR.start w k _).congr (fun i _ => by rw [if_neg (by omega)]) (fun _ _ _ _ => rfl)⟩, Lib.hid ((Below.refl _ _).alloc (Nat.le_refl _) _)⟩
  case round =>
    obtain ⟨i, hi, rfl, HO, HB⟩ := hrel
    obtain ⟨Ax, Cx, hO⟩ := HO.out
    have HO' := Lib.hid hO
    clear hO HO
    by_cases hlt : i < k
    · obtain ⟨b1, off1, rfl, d1⟩ := (H'.out.old HB.out).at hlt
      have hp := HA.out i hlt
      obtain ⟨b2, off2, A2, C2, rfl, _, d2, hr2⟩ := (H.out.old HB.out).row hp
      have HR2 : Hid (Rd wr A2 (L (at_ i)) (M (at_ i)) (· ≠ w.heap.size)) := by
        obtain ⟨b3, off3, A3, C3, e3, _, d3, hr3⟩ := H.out.row hp
        obtain ⟨rfl, rfl⟩ : b2 = b3 ∧ off2 = off3 := by simpa using e3
        have := (HB.out.cell (World.block_lt_of_cell? _ _ d3)).trans d3
        rw [d2] at this
        simp only [Option.some.injEq, Value.slice.injEq] at this
        obtain ⟨rfl, _, _⟩ := this
        exact Lib.hid ((hr3.ne (Nat.le_refl _)).old HB.out)
      obtain ⟨p, hpe⟩ : ∃ p, p = at_ i := ⟨_, rfl⟩
      rw [← hpe] at d1 d2 hp
      have hct := HO'.out.top.cell hlt
      have hft := HO'.out.top.frozen i
      have HP := Lib.hid (HO'.out.lay i (c := C2) HR2.out)
      have HB2 := Lib.hid (HB.out.setCell (p := ⟨w.heap.size, i, none⟩) (Nat.le_refl _) (.slice A2 (L (at_ i)) C2))
      rw [← hpe] at HP HB2
      have HE := Lib.hid hpe
      clear hr2 HR2 hpe
      go_wp2
      go_roundw
      case rel => exact ⟨i + 1, by omega, by go_num, Lib.hid ⟨_, _, HP.out.congr (fun j _ => by
        by_cases e : j = i
        · rw [if_pos e, if_pos (by omega), e, HE.out]
        · by_cases e' : j < i
          · rw [if_neg e, if_pos e', if_pos (by omega)]
          · rw [if_neg e, if_neg e', if_neg (by omega)]) (fun _ _ _ _ => rfl)⟩, HB2⟩
      case measure => simp [intOf]; omega
    · have HF : Hid (∃ A C, TopR wr w.heap.size k A (fun j => L (at_ j)) C (fun j => M (at_ j))) := Lib.hid ⟨Ax, Cx, HO'.out.congr (fun j hj => by rw [if_pos (by omega)]) (fun _ _ _ _ => rfl)⟩
      clear HO'
      go_wp2
      go_ret
      exact ⟨_, rfl, Nat.le_refl _, HF.out, HB.out⟩
end Go.Proofs.Ytelkeoopfejgnaa
