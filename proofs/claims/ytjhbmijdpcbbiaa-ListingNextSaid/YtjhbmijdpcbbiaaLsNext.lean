/- What Next and Serial of package listing answer. -/
import Derived.Test.YtjhbmijdpcbbiaaLsGreat
namespace Go.Proofs.Ytjhbmijdpcbbiaa
open Go.RowKit
open Pt (Tx)

/-- one more than such a number is a number -/
def Low (v : Int) : Prop := -9223372036854775808 ≤ v ∧ v ≤ 1099511627776
theorem Low.wrap {v : Int} (h : Low v) : IntKind.i64.wrap (v + 1) = v + 1 := by
  obtain ⟨h1, h2⟩ := h
  exact IntWalk.i64_in _ (by omega)
theorem retZ {a b : Int} (h : a = b) : Ending.returned (Value.int .i64 a) = Ending.returned (Value.int .i64 b) := by rw [h]
set_option maxRecDepth 100000 in
set_option maxHeartbeats 4000000 in
theorem next_any (xs : List Fx) (n C : Nat) (A : Option Addr) (G : Nat → Prop) (p : Tx) (w : World) (hn : n = xs.length) (hm : n ≤ 1000000) (hr : encF.Rd w A xs G) (hv : ∀ x ∈ xs, Low x.f.version) :
    Calls Try.prog 12 #[.slice A n C, .string (tx p)] w fun e w' => e = .returned (.int .i64 (Ls.next (filesOf xs) p)) ∧ Below w.heap.size w w' := by
  have HG := Lib.hid (greatest_any xs n C A G p w hn hm hr)
  have HN := Lib.hid hn
  have HR := Lib.hid hr
  have HV := Lib.hid hv
  have HL : Hid ((filesOf xs).length = n) := Lib.hid (by rw [filesOf_len, hn])
  clear hn hr hv
  go_enter Try.func12, Try.ntmps12
  go_wp2_with fail
  refine HG.out.mono ?_
  rintro e w1 ⟨rfl, hb1⟩
  have HB1 := Lib.hid hb1
  clear hb1 HG
  cases ht : Ls.told (filesOf xs) n p with
  | none =>
    rw [pv_none]
    have HX := Lib.hid (Ls.next_none (by rw [HL.out]; exact ht))
    clear ht
    go_wp2
    go_ret
    exact ⟨retZ HX.out.symm, HB1.out⟩
  | some k =>
    rw [pv_some]
    have hkf : k < (filesOf xs).length := (Ls.pl_lt ht).2
    have hkn : k < n := by rw [← HL.out]; exact hkf
    have hkx : k < xs.length := by rw [← HN.out]; exact hkn
    have f0 : decide ((k : Int) < 0) = false := decide_eq_false (by omega)
    have f1 : decide (k < n) = true := decide_eq_true hkn
    obtain ⟨⟨⟨P, v, z, s, r, b, pl⟩, A1, C1⟩, hx⟩ : ∃ x, x = xs[k] := ⟨_, rfl⟩
    have HX : Hid (Ls.next (filesOf xs) p = v + 1) := Lib.hid (by
      rw [Ls.next_at (by rw [HL.out]; exact ht) hkf, filesOf_get hkx hkf, ← hx])
    have s1 : IntKind.i64.wrap (v + 1) = v + 1 := by
      have := HV.out xs[k] (List.getElem_mem hkx)
      rw [← hx] at this
      exact this.wrap
    obtain ⟨g, o, rfl, c⟩ := seven_at (HR.out.old HB1.out) hkx hx
    obtain ⟨-, c1, -, -, -, -, -⟩ := c
    clear ht hx hkf hkx
    go_wp2
    go_ret
    exact ⟨retZ HX.out.symm, HB1.out⟩
theorem serial_nil : Ls.serial [] = 1 := rfl
set_option maxRecDepth 100000 in
set_option maxHeartbeats 4000000 in
theorem serial_any (xs : List Fx) (n C : Nat) (A : Option Addr) (G : Nat → Prop) (w : World) (hn : n = xs.length) (hm : n ≤ 1000000) (hr : encF.Rd w A xs G) (hv : ∀ x ∈ xs, Low x.f.serial) :
    Calls Try.prog 14 #[.slice A n C] w fun e w' => e = .returned (.int .i64 (Ls.serial (filesOf xs))) ∧ Below w.heap.size w w' := by
  have HN := Lib.hid hn
  have HR := Lib.hid hr
  have HV := Lib.hid hv
  have HL : Hid ((filesOf xs).length = n) := Lib.hid (by rw [filesOf_len, hn])
  by_cases h0 : n = 0
  · subst h0
    have HX : Hid (Ls.serial (filesOf xs) = 1) := Lib.hid (by
      rw [List.length_eq_zero_iff.1 HL.out]; rfl)
    clear hn hr hv
    go_enter Try.func14, Try.ntmps14
    go_wp2
    go_ret
    exact ⟨retZ HX.out.symm, Below.refl _ _⟩
  · have hnx : 0 < xs.length := by omega
    have hnf : 0 < (filesOf xs).length := by rw [HL.out]; omega
    have e1 : ((n : Int) == 0) = false := beq_eq_false_iff_ne.2 (by omega)
    have e2 : decide (0 < n) = true := decide_eq_true (by omega)
    have h0n : 0 < n := by omega
    obtain ⟨⟨⟨P0, v0, z0, s0, r0, b0, pl0⟩, A0, C0⟩, hx0⟩ : ∃ x, x = xs[0] := ⟨_, rfl⟩
    have HX : Hid (Ls.serial (filesOf xs) = Ls.top (fun f => f.serial) (filesOf xs) r0 n + 1) := Lib.hid (by
      have := Ls.serial_top (l := filesOf xs) (f := ⟨P0, v0, z0, s0, r0, b0, pl0⟩) (by rw [List.getElem?_eq_getElem hnf, filesOf_get hnx hnf, ← hx0])
      rw [this, HL.out])
    have hlow : Low (Ls.top (fun f => f.serial) (filesOf xs) r0 n) := by
      have h0 := HV.out xs[0] (List.getElem_mem hnx)
      rw [← hx0] at h0
      refine ⟨Ls.top_ge h0.1 _, Ls.top_le h0.2 (fun f hf => ?_) _⟩
      obtain ⟨x, hx, rfl⟩ := List.mem_map.1 hf
      exact (HV.out x hx).2
    have HWR := Lib.hid hlow.wrap
    obtain ⟨g, o, rfl, c⟩ := seven_at HR.out hnx hx0
    rw [Nat.zero_mul, Nat.add_zero] at c
    obtain ⟨-, -, -, -, c4, -, -⟩ := c
    clear hn hr hv hx0 hlow h0
    go_enter Try.func14, Try.ntmps14
    go_wp2
    clear c4
    go_loopw [3, 15] (fun vp vi wr => ∃ i : Nat, i ≤ n ∧ vi = .int .i64 (i : Int) ∧ vp = .int .i64 (Ls.top (fun f => f.serial) (filesOf xs) r0 i) ∧ Hid (Below w.heap.size w wr)) (fun _ vi _ => n - (intOf vi).toNat)
    case atStart => exact ⟨0, Nat.zero_le _, rfl, rfl, Lib.hid (Below.refl _ _)⟩
    case round =>
      obtain ⟨i, hi, rfl, rfl, HB⟩ := hrel
      by_cases hlt : i < n
      · have e0 : decide (i < n) = true := decide_eq_true hlt
        have hix : i < xs.length := by rw [← HN.out]; exact hlt
        have hif : i < (filesOf xs).length := by rw [HL.out]; exact hlt
        obtain ⟨⟨⟨P, v, z, s, r, b, pl⟩, A1, C1⟩, hx⟩ : ∃ x, x = xs[i] := ⟨_, rfl⟩
        have HT : Hid (Ls.top (fun f => f.serial) (filesOf xs) r0 (i + 1) = max (Ls.top (fun f => f.serial) (filesOf xs) r0 i) r) := Lib.hid (by
          rw [Ls.top_step hif, filesOf_get hix hif, ← hx])
        obtain ⟨T, hT⟩ : ∃ T, T = Ls.top (fun f => f.serial) (filesOf xs) r0 i := ⟨_, rfl⟩
        rw [← hT] at HT ⊢
        obtain ⟨g', o', hA, c⟩ := seven_at (HR.out.old HB.out) hix hx
        cases hA
        obtain ⟨M, hM⟩ : ∃ M, M = pl.length := ⟨_, rfl⟩
        rw [← hM] at c
        obtain ⟨wp, hwp⟩ : ∃ y, y = wr.alloc (fileO P v z s r b A1 M C1) := ⟨_, rfl⟩
        have hbp : Below wr.heap.size wr wp := by rw [hwp]; exact (Below.refl _ _).alloc (Nat.le_refl _) _
        have hkp : wp.heap[wr.heap.size]? = some (fileO P v z s r b A1 M C1) := by rw [hwp]; exact Go.Deep.blk_alloc_new _ _
        have HBP := Lib.hid (HB.out.trans (hbp.mono HB.out.size))
        have KP := Lib.hid hkp
        have HW : Hid (wp = wr.alloc (.cells #[.string (tx P), .int .i64 v, .int .i64 z, .int .i64 s, .int .i64 r, .bool b, .slice A1 M C1] 26)) := Lib.hid hwp
        obtain ⟨c0, c1, c2, c3, c4, c5, c6⟩ := c
        clear hx hM hwp hbp hkp hT
        go_upto_region 7 with fail
        rw [← HW.out]
        clear c0 c1 c2 c3 c4 c5 c6
        obtain ⟨-, -, -, -, d4, -, -⟩ := file7 KP.out
        go_wp2
        go_roundw
        case rel => exact ⟨i + 1, by omega, by go_num, by rw [HT.out], HBP⟩
        case measure => simp [intOf]; omega
      · have hin : i = n := by omega
        have e0 : decide (i < n) = false := decide_eq_false hlt
        rw [hin]
        have s1 := HWR.out
        obtain ⟨T, hT⟩ : ∃ T, T = Ls.top (fun f => f.serial) (filesOf xs) r0 n := ⟨_, rfl⟩
        rw [← hT] at s1 ⊢
        have HX2 : Hid (Ls.serial (filesOf xs) = T + 1) := Lib.hid (by rw [HX.out, hT])
        clear hT
        go_wp2
        go_ret
        exact ⟨retZ HX2.out.symm, HB.out⟩
end Go.Proofs.Ytjhbmijdpcbbiaa
