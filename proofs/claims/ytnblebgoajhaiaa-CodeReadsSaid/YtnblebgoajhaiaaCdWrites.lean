/- What CodeWrites answers. -/
import Derived.Test.YtnblebgoajhaiaaCdLaws
import Derived.Deep.RegionHeld3
import Derived.Deep.RegionWith
import Derived.Deep.DeepFit
import Derived.IntWalk
namespace Go.Proofs.Ytnblebgoajhaiaa
open Go.RowKit
open Pt (Tx)

theorem and255 (b : Int) : bits BinOp.and IntKind.i64 b 255 = ((Cd.b8 b).toNat : Int) := by
  show IntKind.i64.wrap ((BitVec.ofInt 64 b &&& BitVec.ofInt 64 255).toNat : Int) = _
  have h : ((BitVec.ofInt 64 b) &&& (BitVec.ofInt 64 255)).toNat = (BitVec.ofInt 64 b).toNat % 256 := by
    rw [BitVec.toNat_and, show (BitVec.ofInt 64 255).toNat = 2 ^ 8 - 1 by decide, Nat.and_two_pow_sub_one_eq_mod]
  rw [h, Cd.b8_nat, BitVec.toNat_ofInt, IntKind.wrap_i64]
  have : ((b % (2 ^ 64 : Nat)).toNat : Int) = b % (2 ^ 64 : Nat) := Int.toNat_of_nonneg (Int.emod_nonneg _ (by decide))
  have e2 : ((2 ^ 64 : Nat) : Int) = 18446744073709551616 := by decide
  rw [e2] at *
  omega
/-- two Writers that hold the same -/
structure Bo (w0 w : World) (gw gv : Nat) (L : Tx) : Prop where
  wr : Wr w gw L
  rw_ : ∃ v, Rw w gv w0.heap.size v L
  lo : w0.heap.size ≤ gw
  lo' : w0.heap.size ≤ gv
  bel : Below w0.heap.size w0 w
theorem Wr.type {w : World} {g : Nat} {l : Tx} (h : Wr w g l) : ∃ c, w.heap[g]? = some (.cells c 27 (0, 0)) := by
  obtain ⟨P, ss, h1, _⟩ := h; exact ⟨_, h1⟩
theorem unlike {w : World} {g g' : Nat} {c c' : Array Value} {t t' : TypeId} {f f' : Nat × Nat} (h : w.heap[g]? = some (.cells c t f)) (h' : w.heap[g']? = some (.cells c' t' f')) (ht : t ≠ t') : g ≠ g' := by
  rintro rfl
  rw [h] at h'
  injection h' with h'
  injection h' with _ e
  exact ht e
theorem Bo.first {w0 w w1 : World} {gw gv : Nat} {L : Tx} (h : Bo w0 w gw gv L) (hk : Kp (· = gw) w w1) : ∃ v, Rw w1 gv w0.heap.size v L := by
  obtain ⟨v, hv⟩ := h.rw_
  obtain ⟨c, hc⟩ := h.wr.type
  refine ⟨v, hv.kp hk (fun e => unlike hv.1 hc (by decide) e) fun k hk' e => ?_⟩
  obtain ⟨c', hc'⟩ := hv.2.block k hk'
  exact unlike hc' hc (by decide) e
theorem Bo.step {w0 w w1 w2 : World} {gw gv : Nat} {L L' : Tx} (h : Bo w0 w gw gv L) (hW : Wr w1 gw L') (hk : Kp (· = gw) w w1) (hF : ∃ v, Rw w2 gv w0.heap.size v L') (hT : Turned gv w0.heap.size w1 w2) : Bo w0 w2 gw gv L' := by
  obtain ⟨v, hv⟩ := h.first hk
  obtain ⟨c, hc⟩ := hW.type
  refine ⟨hW.kp hT (fun hs => ?_) (fun k c' hs hc' => ?_), hF, h.lo, h.lo', ?_⟩
  · rcases hs with e | ⟨_, c', hc'⟩
    · exact unlike hc hv.1 (by decide) e
    · exact unlike hc hc' (by decide) rfl
  · rcases hs with e | ⟨_, c2, hc2⟩
    · exact unlike hc' hv.1 (by decide) e
    · exact unlike hc' hc2 (by decide) rfl
  · have h1 := h.bel.trans (lo_g hk h.bel.size h.lo)
    exact h1.trans (hT.below h1.size h.lo' (Nat.le_refl _))
theorem reads_len (A AI : Option Addr) (l : Tx) (m c n cI : Nat) (way num : Nat → Int) (st : Nat → Tx) (G : Nat → Prop) (w : World) (hm : l.length = m) (hA : A = none → l.length = 0 ∧ c = 0) (hc : l.length ≤ c) (hc' : c ≤ maxLen) (hr : RdL w A l G) (hl : l.length ≤ 1000000) (hi : ItR w AI n way num st w.heap.size) (hn : n ≤ 1000) :
    Calls Try.prog 14 #[.slice A m c, .slice AI n cI] w fun e w' => e = .returned (.bool true) ∧ Below w.heap.size w w' := by
  subst hm; exact reads_any A AI l c n cI way num st G w hA hc hc' hr hl hi hn
theorem ItR.up {w : World} {A : Option Addr} {n : Nat} {way num : Nat → Int} {st : Nat → Tx} {B B' : Nat} (h : ItR w A n way num st B) (hb : B ≤ B') : ItR w A n way num st B' := fun h0 => by
  obtain ⟨b, off, e, hB, hcs⟩ := h h0
  exact ⟨b, off, e, Nat.lt_of_lt_of_le hB hb, hcs⟩
set_option maxRecDepth 100000 in
set_option maxHeartbeats 4000000 in
set_option linter.unusedSimpArgs false in
theorem codeWrites_main (AI : Option Addr) (n cI : Nat) (way num : Nat → Int) (st : Nat → Tx) (w : World) (hi : ItR w AI n way num st w.heap.size) (hs : ∀ i, i < n → (st i).length ≤ maxLen) (hn : n ≤ 60) :
    Calls Try.prog 3 #[.slice AI n cI] w fun e w' => e = .returned (.bool true) ∧ Below w.heap.size w w' := by
  have HI := Lib.hid hi
  have HS := Lib.hid hs
  clear hi hs
  have q1 : decide (60 < n) = false := decide_eq_false (by omega)
  have q2 : decide (60 < (n : Int)) = false := decide_eq_false (by omega)
  go_enter Try.func3, Try.ntmps3
  go_wp2_with (go_at_call 6; refine (alive6_true w).mono ?_; rintro e wa ⟨rfl, hB⟩; have HB := Lib.hid hB; clear hB)
  have hza : w.heap.size ≤ wa.heap.size := HB.out.size
  have H0 : Hid (Bo w ((wa.alloc (.cells #[.pointer none, .int .i64 0] 27)).alloc (.cells #[.slice none 0 0] 31)) wa.heap.size (wa.heap.size + 1) []) := Lib.hid (by
    have e : (wa.alloc (.cells #[.pointer none, .int .i64 0] 27)).heap.size = wa.heap.size + 1 := by simp
    refine ⟨(Wr.new wa).old ((Below.refl _ _).alloc (Nat.le_refl _) _), ⟨.slice none 0 0, ?_, OwnL.nil _ _⟩, hza, by omega, (HB.out.alloc hza _).alloc (by rw [e]; omega) _⟩
    rw [← e]; exact Go.Deep.blk_alloc_new _ _)
  generalize hgw : wa.heap.size = gw at H0 hza ⊢
  clear HB hgw
  generalize hw0 : ((wa.alloc (.cells #[.pointer none, .int .i64 0] 27)).alloc (.cells #[.slice none 0 0] 31)) = wb at H0 ⊢
  clear hw0
  generalize hgv : gw + 1 = gv at H0 ⊢
  clear hgv
  go_loopw [6] (fun vi wr => ∃ (k : Nat) (L : Tx), k ≤ n ∧ vi = .int .i64 (k : Int) ∧ Hid (Bo w wr gw gv L) ∧ Hid (L.length ≤ k * 256)) (fun vi _ => n - (intOf vi).toNat)
  case atStart => exact ⟨0, [], Nat.zero_le _, rfl, H0, Lib.hid (by simp)⟩
  case round =>
    obtain ⟨k, L, hk, rfl, HT, HL⟩ := hrel
    by_cases hlt : k < n
    · obtain ⟨b, off, rfl, hb, hcs⟩ := (HI.out.below HT.out.bel) (by omega)
      obtain ⟨hw, hnn, hss⟩ := hcs k hlt
      clear hcs
      have hll : L.length ≤ 999990000 := Nat.le_trans HL.out (by omega)
      obtain ⟨y, hy⟩ : ∃ y, y = way k := ⟨_, rfl⟩
      rw [← hy] at hw
      clear hy
      obtain ⟨m, hm⟩ : ∃ m, m = num k := ⟨_, rfl⟩
      rw [← hm] at hnn
      clear hm
      obtain ⟨s, hs⟩ : ∃ s, s = st k := ⟨_, rfl⟩
      have hsl : s.length ≤ maxLen := by rw [hs]; exact HS.out k hlt
      rw [← hs] at hss
      clear hs
      have HSL := Lib.hid hsl
      unfold maxLen at hsl
      have es := tx_size s
      have et := tx_toList s
      by_cases h4 : 400 < s.length
      · have p1 : decide (400 < s.length) = true := decide_eq_true h4
        have p2 : decide (400 < (s.length : Int)) = true := decide_eq_true (by omega)
        go_wp2
        go_ret
        exact ⟨rfl, HT.out.bel⟩
      have p1 : decide (400 < s.length) = false := decide_eq_false h4
      have p2 : decide (400 < (s.length : Int)) = false := decide_eq_false (by omega)
      by_cases h0 : y = 0
      · subst h0
        go_wp2_with (first
          | (go_at_call 7; refine (wint_any gw L m wr HT.out.wr (by omega)).mono ?_; rintro e v1 ⟨rfl, hW1, hK1⟩; have HW1 := Lib.hid hW1; have HK1 := Lib.hid hK1; have HF1 := Lib.hid (HT.out.first hK1); have hn1 : v1.cell? ⟨b, off + k * 3 + 1, none⟩ = _ := ((lo_g hK1 HT.out.bel.size HT.out.lo).cell (p := ⟨b, off + k * 3 + 1, none⟩) hb).trans hnn; clear hW1 hK1)
          | (go_at_call 8; obtain ⟨vv, hvv⟩ := HF1.out; refine (vint_any gv w.heap.size vv L m v1 hvv (Nat.le_trans HT.out.bel.size HK1.out.size) (by omega)).mono ?_; rintro e v2 ⟨rfl, hF2, hK2⟩; have HT2 := Lib.hid (HT.out.step HW1.out HK1.out hF2 hK2); clear hvv hF2 hK2))
        go_roundw
        case rel => exact ⟨k + 1, L ++ Cd.be4 m, by omega, by go_num, HT2, Lib.hid (by have := HL.out; rw [List.length_append]; rw [Cd.be4_len]; omega)⟩
        case measure => simp [intOf]; omega
      by_cases h1 : y = 1
      · subst h1
        have ha := and255 m
        have hc8 := (Cd.b8 m).toNat_lt
        have hc9 : (Cd.b8 m).toNat < 256 := by omega
        clear hc8
        go_wp2_with (first
          | (go_at_call 9; refine (wbyte_any gw L (Cd.b8 m) wr HT.out.wr (by omega)).mono ?_; rintro e v1 ⟨rfl, hW1, hK1⟩; have HW1 := Lib.hid hW1; have HK1 := Lib.hid hK1; have HF1 := Lib.hid (HT.out.first hK1); have hn1 : v1.cell? ⟨b, off + k * 3 + 1, none⟩ = _ := ((lo_g hK1 HT.out.bel.size HT.out.lo).cell (p := ⟨b, off + k * 3 + 1, none⟩) hb).trans hnn; clear hW1 hK1)
          | (go_at_call 10; obtain ⟨vv, hvv⟩ := HF1.out; refine (vbyte_any gv w.heap.size vv L (Cd.b8 m) v1 hvv (Nat.le_trans HT.out.bel.size HK1.out.size) (by omega)).mono ?_; rintro e v2 ⟨rfl, hF2, hK2⟩; have HT2 := Lib.hid (HT.out.step HW1.out HK1.out hF2 hK2); clear hvv hF2 hK2))
        go_roundw
        case rel => exact ⟨k + 1, L ++ [Cd.b8 m], by omega, by go_num, HT2, Lib.hid (by have := HL.out; rw [List.length_append]; simp; omega)⟩
        case measure => simp [intOf]; omega
      by_cases h2 : y = 2
      · subst h2
        go_wp2_with (first
          | (go_at_call 11; refine (wtext_any gw L s wr HT.out.wr (by omega) HSL.out).mono ?_; rintro e v1 ⟨rfl, hW1, hK1⟩; have HW1 := Lib.hid hW1; have HK1 := Lib.hid hK1; have HF1 := Lib.hid (HT.out.first hK1); have hn1 : v1.cell? ⟨b, off + k * 3 + 2, none⟩ = _ := ((lo_g hK1 HT.out.bel.size HT.out.lo).cell (p := ⟨b, off + k * 3 + 2, none⟩) hb).trans hss; clear hW1 hK1)
          | (go_at_call 12; obtain ⟨vv, hvv⟩ := HF1.out; refine (vtext_any gv w.heap.size vv L s v1 hvv (Nat.le_trans HT.out.bel.size HK1.out.size) (by omega) HSL.out).mono ?_; rintro e v2 ⟨rfl, hF2, hK2⟩; have HT2 := Lib.hid (HT.out.step HW1.out HK1.out hF2 hK2); clear hvv hF2 hK2))
        go_roundw
        case rel => exact ⟨k + 1, L ++ Cd.tb s, by omega, by go_num, HT2, Lib.hid (by have := HL.out; rw [List.length_append]; rw [Cd.tb_len]; omega)⟩
        case measure => simp [intOf]; omega
      have z0 : (y == 0) = false := beq_eq_false_iff_ne.2 h0
      have z1 : (y == 1) = false := beq_eq_false_iff_ne.2 h1
      have z2 : (y == 2) = false := beq_eq_false_iff_ne.2 h2
      go_wp2
      go_roundw
      case rel => exact ⟨k + 1, L, by omega, by go_num, HT, Lib.hid (by have := HL.out; omega)⟩
      case measure => simp [intOf]; omega
    · obtain ⟨v, hv⟩ := HT.out.rw_
      obtain ⟨A, C, rfl, hc1, hc2, hcA, hrd⟩ := hv.2.rd
      have HCA := Lib.hid hcA
      have HRD := Lib.hid hrd
      have HC2 := Lib.hid hc2
      have c0 : wr.cell? ⟨gv, 0, none⟩ = some (.slice A L.length C) := heap_cell hv.1
      have hgv : gv < wr.heap.size := heap_lt hv.1
      have hll : L.length ≤ 1000000 := Nat.le_trans HL.out (by omega)
      have HI2 : Hid (ItR wr AI n way num st wr.heap.size) := Lib.hid ((HI.out.below HT.out.bel).up HT.out.bel.size)
      have D1 : ∀ wn, Below wr.heap.size wr wn → wn.cell? ⟨gv, 0, none⟩ = some (.slice A L.length C) := fun wn hb => (hb.cell (p := ⟨gv, 0, none⟩) hgv).trans c0
      have D2 : ∀ wn, Below wr.heap.size wr wn → (convert 29 9 (.slice A L.length C)).run Try.prog wn = .ok (.string (tx L)) wn := fun wn hb => (HRD.out.old hb).str C
      have HD1 := Lib.hid D1
      have HD2 := Lib.hid D2
      have hbel : Below wr.heap.size wr wr.drew := ⟨rfl, rfl, rfl, Nat.le_refl _, fun _ _ => rfl⟩
      have d1 := HD1.out _ hbel
      have d2 := HD2.out _ hbel
      clear hv hcA hrd hc2 D1 D2 c0
      by_cases hz : L.length = 0
      · have hL : L = [] := List.length_eq_zero_iff.1 hz
        subst hL
        clear hz
        have d1' : wr.drew.cell? ⟨gv, 0, none⟩ = some (.slice A 0 C) := d1
        have hcv : ∀ (A' : Option Addr) (c' : Nat) (w' : World), (convert 29 9 (.slice A' 0 c')).run Try.prog w' = .ok (.string (tx [])) w' := fun A' c' w' => (RdL.empty w' A' (fun _ => True)).str c'
        clear d1 d2
        go_wp2_with fail
        refine wp_region_held_drew (S := fun w' => w'.cell? ⟨gv, 0, none⟩ = some (.slice A 0 C) ∧ Below wr.heap.size wr w') (by kernel_rfl) ⟨d1', hbel⟩ (fun hHeld => ?_)
        refine wpAnyH_take (i := 0) (oi := ⟨some 90, _, _, _, _, _⟩) (v := ?_) rfl (by kernel_rfl) (by kernel_rfl) (by kernel_rfl) (fun _ _ _ h => h) (Or.inl ⟨by rfl, ?_⟩) (by assumption) ?_
        rotate_left
        · (intro w' hSw; (try dsimp only at hSw); go_simp; try (with_reducible rfl))
        try simp only [Act.put, List.setIfInBounds_toArray, List.set_cons_zero, List.set_cons_succ]
        refine wpAnyH_take (i := 3) (oi := ⟨some 93, _, _, _, _, _⟩) (v := ?_) rfl (by kernel_rfl) (by kernel_rfl) (by kernel_rfl) (fun _ _ _ h => h) (Or.inl ⟨by rfl, ?_⟩) (by assumption) ?_
        rotate_left
        · (intro w' hSw; (try dsimp only at hSw); go_simp; try (with_reducible rfl))
        try simp only [Act.put, List.setIfInBounds_toArray, List.set_cons_zero, List.set_cons_succ]
        refine wpAnyH_take (i := 4) (oi := ⟨some 94, _, _, _, _, _⟩) (v := ?_) rfl (by kernel_rfl) (by kernel_rfl) (by kernel_rfl) (fun _ _ _ h => h) (Or.inl ⟨by rfl, ?_⟩) (by assumption) ?_
        rotate_left
        · (intro w' hSw; (try dsimp only at hSw); go_simp; try (with_reducible rfl))
        try simp only [Act.put, List.setIfInBounds_toArray, List.set_cons_zero, List.set_cons_succ]
        refine wpAnyH_take (i := 5) (oi := ⟨some 95, _, _, _, _, _⟩) (v := ?_) rfl (by kernel_rfl) (by kernel_rfl) (by kernel_rfl) (fun _ _ _ h => h) (Or.inl ⟨by rfl, ?_⟩) (by assumption) ?_
        rotate_left
        · (intro w' hSw; (try dsimp only at hSw); go_simp; try (with_reducible rfl))
        try simp only [Act.put, List.setIfInBounds_toArray, List.set_cons_zero, List.set_cons_succ]
        refine wpAnyH_take (i := 6) (oi := ⟨some 96, _, _, _, _, _⟩) (v := ?_) rfl (by kernel_rfl) (by kernel_rfl) (by kernel_rfl) (fun _ _ _ h => h) (Or.inl ⟨by rfl, ?_⟩) (by assumption) ?_
        rotate_left
        · (intro w' hSw; (try dsimp only at hSw); go_simp; try (with_reducible rfl))
        try simp only [Act.put, List.setIfInBounds_toArray, List.set_cons_zero, List.set_cons_succ]
        refine wpAnyH_take (i := 7) (oi := ⟨some 97, _, _, _, _, _⟩) (v := ?_) rfl (by kernel_rfl) (by kernel_rfl) (by kernel_rfl) (fun _ _ _ h => h) (Or.inl ⟨by rfl, ?_⟩) (by assumption) ?_
        rotate_left
        · (intro w' hSw; (try dsimp only at hSw); go_simp; try (with_reducible rfl))
        try simp only [Act.put, List.setIfInBounds_toArray, List.set_cons_zero, List.set_cons_succ]
        refine wpAnyH_ready (rs := [1]) (by kernel_rfl) (by simp) ?_
        refine AllReadyH.cons rfl (fun K hK => ?_) AllReadyH.nil
        go_simp
        refine (bytes_any gw [] _ (HT.out.wr.old hbel) (by simp)).mono ?_; rintro e wn ⟨bb, rfl, -, -, hbn⟩; have hbt : Below wr.heap.size wr wn := hbel.trans (hbn.mono hbel.size); have e1 : wn.cell? ⟨gv, 0, none⟩ = some (.slice A 0 C) := HD1.out _ hbt; clear hbn hHeld
        go_wp2_with fail
        refine hK.out _ _ ⟨e1, hbt⟩ (fun hHeld => ?_)
        clear hK K
        try simp only [Act.put, List.setIfInBounds_toArray, List.set_cons_zero, List.set_cons_succ]
        refine wpAnyH_take (i := 2) (oi := ⟨some 92, _, _, _, _, _⟩) (v := ?_) rfl (by kernel_rfl) (by kernel_rfl) (by kernel_rfl) (fun _ _ _ h => h) (Or.inl ⟨by rfl, ?_⟩) (by assumption) ?_
        rotate_left
        · (intro w' hSw; (try dsimp only at hSw); go_simp; try (with_reducible rfl))
        try simp only [Act.put, List.setIfInBounds_toArray, List.set_cons_zero, List.set_cons_succ]
        refine wpAnyH_take (i := 8) (oi := ⟨some 98, _, _, _, _, _⟩) (v := ?_) rfl (by kernel_rfl) (by kernel_rfl) (by kernel_rfl) (fun _ _ _ h => h) (Or.inl ⟨by rfl, ?_⟩) (by assumption) ?_
        rotate_left
        · (intro w' hSw; (try dsimp only at hSw); go_simp; try (with_reducible rfl))
        try simp only [Act.put, List.setIfInBounds_toArray, List.set_cons_zero, List.set_cons_succ]
        refine wpAnyH_take (i := 9) (oi := ⟨some 99, _, _, _, _, _⟩) (v := ?_) rfl (by kernel_rfl) (by kernel_rfl) (by kernel_rfl) (fun _ _ _ h => h) (Or.inl ⟨by rfl, ?_⟩) (by assumption) ?_
        rotate_left
        · (intro w' hSw; (try dsimp only at hSw); go_simp; try (with_reducible rfl))
        try simp only [Act.put, List.setIfInBounds_toArray, List.set_cons_zero, List.set_cons_succ]
        refine wpAnyH_take (i := 10) (oi := ⟨some 100, _, _, _, _, _⟩) (v := ?_) rfl (by kernel_rfl) (by kernel_rfl) (by kernel_rfl) (fun _ _ _ h => h) (Or.inl ⟨by rfl, ?_⟩) (by assumption) ?_
        rotate_left
        · (intro w' hSw; (try dsimp only at hSw); go_simp; try (with_reducible rfl))
        try simp only [Act.put, List.setIfInBounds_toArray, List.set_cons_zero, List.set_cons_succ]
        refine wpAnyH_take (i := 11) (oi := ⟨some 101, _, _, _, _, _⟩) (v := ?_) rfl (by kernel_rfl) (by kernel_rfl) (by kernel_rfl) (fun _ _ _ h => h) (Or.inl ⟨by rfl, ?_⟩) (by assumption) ?_
        rotate_left
        · (intro w' hSw; (try dsimp only at hSw); go_simp; try (with_reducible rfl))
        try simp only [Act.put, List.setIfInBounds_toArray, List.set_cons_zero, List.set_cons_succ]
        refine wpAnyH_take (i := 12) (oi := ⟨some 102, _, _, _, _, _⟩) (v := ?_) rfl (by kernel_rfl) (by kernel_rfl) (by kernel_rfl) (fun _ _ _ h => h) (Or.inl ⟨by rfl, ?_⟩) (by assumption) ?_
        rotate_left
        · (intro w' hSw; (try dsimp only at hSw); go_simp; try (with_reducible rfl))
        try simp only [Act.put, List.setIfInBounds_toArray, List.set_cons_zero, List.set_cons_succ]
        refine wpAnyH_take (i := 13) (oi := ⟨some 103, _, _, _, _, _⟩) (v := ?_) rfl (by kernel_rfl) (by kernel_rfl) (by kernel_rfl) (fun _ _ _ h => h) (Or.inl ⟨by rfl, ?_⟩) (by assumption) ?_
        rotate_left
        · (intro w' hSw; (try dsimp only at hSw); go_simp; try (with_reducible rfl))
        try simp only [Act.put, List.setIfInBounds_toArray, List.set_cons_zero, List.set_cons_succ]
        refine wpAnyH_take (i := 14) (oi := ⟨some 104, _, _, _, _, _⟩) (v := ?_) rfl (by kernel_rfl) (by kernel_rfl) (by kernel_rfl) (fun _ _ _ h => h) (Or.inl ⟨by rfl, ?_⟩) (by assumption) ?_
        rotate_left
        · (intro w' hSw; (try dsimp only at hSw); go_simp; try (with_reducible rfl))
        try simp only [Act.put, List.setIfInBounds_toArray, List.set_cons_zero, List.set_cons_succ]
        refine wpAnyH_ready (rs := [15]) (by kernel_rfl) (by simp) ?_
        refine AllReadyH.cons rfl (fun K hK => ?_) AllReadyH.nil
        go_simp
        refine (reads_len A AI [] 0 C n cI way num st _ _ rfl HCA.out hc1 HC2.out (HRD.out.old hbt) (by simp) ((HI2.out.below hbt).up hbt.size) (by omega)).mono ?_; rintro e wn2 ⟨rfl, hbn2⟩; have hbt2 : Below wr.heap.size wr wn2 := hbt.trans (hbn2.mono hbt.size); clear hbt e1 hbn2 hHeld; have e1 : wn2.cell? ⟨gv, 0, none⟩ = some (.slice A 0 C) := HD1.out _ hbt2
        go_wp2_with fail
        refine hK.out _ _ ⟨e1, hbt2⟩ (fun hHeld => ?_)
        clear hK K
        try simp only [Act.put, List.setIfInBounds_toArray, List.set_cons_zero, List.set_cons_succ]
        refine wpAnyH_take (i := 16) (oi := ⟨some 106, _, _, _, _, _⟩) (v := ?_) rfl (by kernel_rfl) (by kernel_rfl) (by kernel_rfl) (fun _ _ _ h => h) (Or.inl ⟨by rfl, ?_⟩) (by assumption) ?_
        rotate_left
        · (intro w' hSw; (try dsimp only at hSw); go_simp; try (with_reducible rfl))
        try simp only [Act.put, List.setIfInBounds_toArray, List.set_cons_zero, List.set_cons_succ]
        refine wpAnyH_take (i := 17) (oi := ⟨some 107, _, _, _, _, _⟩) (v := ?_) rfl (by kernel_rfl) (by kernel_rfl) (by kernel_rfl) (fun _ _ _ h => h) (Or.inl ⟨by rfl, ?_⟩) (by assumption) ?_
        rotate_left
        · (intro w' hSw; (try dsimp only at hSw); go_simp; try (with_reducible rfl))
        try simp only [Act.put, List.setIfInBounds_toArray, List.set_cons_zero, List.set_cons_succ]
        refine wpAnyH_take (i := 18) (oi := ⟨some 108, _, _, _, _, _⟩) (v := ?_) rfl (by kernel_rfl) (by kernel_rfl) (by kernel_rfl) (fun _ _ _ h => h) (Or.inl ⟨by rfl, ?_⟩) (by assumption) ?_
        rotate_left
        · (intro w' hSw; (try dsimp only at hSw); go_simp; try (with_reducible rfl))
        try simp only [Act.put, List.setIfInBounds_toArray, List.set_cons_zero, List.set_cons_succ]
        refine wpAnyH_take (i := 19) (oi := ⟨some 109, _, _, _, _, _⟩) (v := ?_) rfl (by kernel_rfl) (by kernel_rfl) (by kernel_rfl) (fun _ _ _ h => h) (Or.inl ⟨by rfl, ?_⟩) (by assumption) ?_
        rotate_left
        · (intro w' hSw; (try dsimp only at hSw); go_simp; try (with_reducible rfl))
        try simp only [Act.put, List.setIfInBounds_toArray, List.set_cons_zero, List.set_cons_succ]
        refine wpAnyH_take (i := 20) (oi := ⟨some 110, _, _, _, _, _⟩) (v := ?_) rfl (by kernel_rfl) (by kernel_rfl) (by kernel_rfl) (fun _ _ _ h => h) (Or.inl ⟨by rfl, ?_⟩) (by assumption) ?_
        rotate_left
        · (intro w' hSw; (try dsimp only at hSw); go_simp; try (with_reducible rfl))
        try simp only [Act.put, List.setIfInBounds_toArray, List.set_cons_zero, List.set_cons_succ]
        refine wpAnyH_take (i := 21) (oi := ⟨some 111, _, _, _, _, _⟩) (v := ?_) rfl (by kernel_rfl) (by kernel_rfl) (by kernel_rfl) (fun _ _ _ h => h) (Or.inl ⟨by rfl, ?_⟩) (by assumption) ?_
        rotate_left
        · (intro w' hSw; (try dsimp only at hSw); go_simp; try (with_reducible rfl))
        try simp only [Act.put, List.setIfInBounds_toArray, List.set_cons_zero, List.set_cons_succ]
        refine wpAnyH_take (i := 22) (oi := ⟨some 112, _, _, _, _, _⟩) (v := ?_) rfl (by kernel_rfl) (by kernel_rfl) (by kernel_rfl) (fun _ _ _ h => h) (Or.inl ⟨by rfl, ?_⟩) (by assumption) ?_
        rotate_left
        · (intro w' hSw; (try dsimp only at hSw); go_simp; try (with_reducible rfl))
        try simp only [Act.put, List.setIfInBounds_toArray, List.set_cons_zero, List.set_cons_succ]
        refine wpAnyH_take (i := 23) (oi := ⟨some 113, _, _, _, _, _⟩) (v := ?_) rfl (by kernel_rfl) (by kernel_rfl) (by kernel_rfl) (fun _ _ _ h => h) (Or.inl ⟨by rfl, ?_⟩) (by assumption) ?_
        rotate_left
        · (intro w' hSw; (try dsimp only at hSw); go_simp; try (with_reducible rfl))
        try simp only [Act.put, List.setIfInBounds_toArray, List.set_cons_zero, List.set_cons_succ]
        refine wpAnyH_take (i := 24) (oi := ⟨some 114, _, _, _, _, _⟩) (v := ?_) rfl (by kernel_rfl) (by kernel_rfl) (by kernel_rfl) (fun _ _ _ h => h) (Or.inl ⟨by rfl, ?_⟩) (by assumption) ?_
        rotate_left
        · (intro w' hSw; (try dsimp only at hSw); go_simp; try (with_reducible rfl))
        try simp only [Act.put, List.setIfInBounds_toArray, List.set_cons_zero, List.set_cons_succ]
        refine wpAnyH_take (i := 25) (oi := ⟨some 115, _, _, _, _, _⟩) (v := undef) rfl (by kernel_rfl) (by kernel_rfl) (by kernel_rfl) (fun _ _ _ h => h) (Or.inr ⟨by rfl, rfl⟩) (by assumption) ?_
        try simp only [Act.put, List.setIfInBounds_toArray, List.set_cons_zero, List.set_cons_succ]
        refine wpAnyH_take (i := 26) (oi := ⟨some 116, _, _, _, _, _⟩) (v := undef) rfl (by kernel_rfl) (by kernel_rfl) (by kernel_rfl) (fun _ _ _ h => h) (Or.inr ⟨by rfl, rfl⟩) (by assumption) ?_
        try simp only [Act.put, List.setIfInBounds_toArray, List.set_cons_zero, List.set_cons_succ]
        refine wpAnyH_take (i := 27) (oi := ⟨some 117, _, _, _, _, _⟩) (v := undef) rfl (by kernel_rfl) (by kernel_rfl) (by kernel_rfl) (fun _ _ _ h => h) (Or.inr ⟨by rfl, rfl⟩) (by assumption) ?_
        try simp only [Act.put, List.setIfInBounds_toArray, List.set_cons_zero, List.set_cons_succ]
        refine wpAnyH_take (i := 28) (oi := ⟨some 118, _, _, _, _, _⟩) (v := undef) rfl (by kernel_rfl) (by kernel_rfl) (by kernel_rfl) (fun _ _ _ h => h) (Or.inr ⟨by rfl, rfl⟩) (by assumption) ?_
        try simp only [Act.put, List.setIfInBounds_toArray, List.set_cons_zero, List.set_cons_succ]
        refine wpAnyH_take (i := 29) (oi := ⟨some 119, _, _, _, _, _⟩) (v := undef) rfl (by kernel_rfl) (by kernel_rfl) (by kernel_rfl) (fun _ _ _ h => h) (Or.inr ⟨by rfl, rfl⟩) (by assumption) ?_
        try simp only [Act.put, List.setIfInBounds_toArray, List.set_cons_zero, List.set_cons_succ]
        refine wpAnyH_take (i := 30) (oi := ⟨some 120, _, _, _, _, _⟩) (v := undef) rfl (by kernel_rfl) (by kernel_rfl) (by kernel_rfl) (fun _ _ _ h => h) (Or.inr ⟨by rfl, rfl⟩) (by assumption) ?_
        try simp only [Act.put, List.setIfInBounds_toArray, List.set_cons_zero, List.set_cons_succ]
        refine wpAnyH_take (i := 31) (oi := ⟨some 121, _, _, _, _, _⟩) (v := undef) rfl (by kernel_rfl) (by kernel_rfl) (by kernel_rfl) (fun _ _ _ h => h) (Or.inr ⟨by rfl, rfl⟩) (by assumption) ?_
        try simp only [Act.put, List.setIfInBounds_toArray, List.set_cons_zero, List.set_cons_succ]
        refine wpAnyH_take (i := 32) (oi := ⟨some 122, _, _, _, _, _⟩) (v := undef) rfl (by kernel_rfl) (by kernel_rfl) (by kernel_rfl) (fun _ _ _ h => h) (Or.inr ⟨by rfl, rfl⟩) (by assumption) ?_
        try simp only [Act.put, List.setIfInBounds_toArray, List.set_cons_zero, List.set_cons_succ]
        refine wpAnyH_take (i := 33) (oi := ⟨some 123, _, _, _, _, _⟩) (v := undef) rfl (by kernel_rfl) (by kernel_rfl) (by kernel_rfl) (fun _ _ _ h => h) (Or.inr ⟨by rfl, rfl⟩) (by assumption) ?_
        try simp only [Act.put, List.setIfInBounds_toArray, List.set_cons_zero, List.set_cons_succ]
        refine wpAnyH_take (i := 34) (oi := ⟨some 124, _, _, _, _, _⟩) (v := undef) rfl (by kernel_rfl) (by kernel_rfl) (by kernel_rfl) (fun _ _ _ h => h) (Or.inr ⟨by rfl, rfl⟩) (by assumption) ?_
        try simp only [Act.put, List.setIfInBounds_toArray, List.set_cons_zero, List.set_cons_succ]
        refine wpAnyH_take (i := 35) (oi := ⟨some 125, _, _, _, _, _⟩) (v := undef) rfl (by kernel_rfl) (by kernel_rfl) (by kernel_rfl) (fun _ _ _ h => h) (Or.inr ⟨by rfl, rfl⟩) (by assumption) ?_
        try simp only [Act.put, List.setIfInBounds_toArray, List.set_cons_zero, List.set_cons_succ]
        refine wpAnyH_take (i := 36) (oi := ⟨some 126, _, _, _, _, _⟩) (v := undef) rfl (by kernel_rfl) (by kernel_rfl) (by kernel_rfl) (fun _ _ _ h => h) (Or.inr ⟨by rfl, rfl⟩) (by assumption) ?_
        try simp only [Act.put, List.setIfInBounds_toArray, List.set_cons_zero, List.set_cons_succ]
        refine wpAnyH_take (i := 37) (oi := ⟨some 127, _, _, _, _, _⟩) (v := undef) rfl (by kernel_rfl) (by kernel_rfl) (by kernel_rfl) (fun _ _ _ h => h) (Or.inr ⟨by rfl, rfl⟩) (by assumption) ?_
        try simp only [Act.put, List.setIfInBounds_toArray, List.set_cons_zero, List.set_cons_succ]
        refine wpAnyH_take (i := 38) (oi := ⟨some 128, _, _, _, _, _⟩) (v := ?_) rfl (by kernel_rfl) (by kernel_rfl) (by kernel_rfl) (fun _ _ _ h => h) (Or.inl ⟨by rfl, ?_⟩) (by assumption) ?_
        rotate_left
        · (intro w' hSw; (try dsimp only at hSw); go_simp; try (with_reducible rfl))
        try simp only [Act.put, List.setIfInBounds_toArray, List.set_cons_zero, List.set_cons_succ]
        refine wpAnyH_take (i := 39) (oi := ⟨some 129, _, _, _, _, _⟩) (v := ?_) rfl (by kernel_rfl) (by kernel_rfl) (by kernel_rfl) (fun _ _ _ h => h) (Or.inl ⟨by rfl, ?_⟩) (by assumption) ?_
        rotate_left
        · (intro w' hSw; (try dsimp only at hSw); go_simp; try (with_reducible rfl))
        try simp only [Act.put, List.setIfInBounds_toArray, List.set_cons_zero, List.set_cons_succ]
        refine wpAnyH_take (i := 40) (oi := ⟨some 2, _, _, _, _, _⟩) (v := ?_) rfl (by kernel_rfl) (by kernel_rfl) (by kernel_rfl) (fun _ _ _ h => h) (Or.inl ⟨by rfl, ?_⟩) (by assumption) ?_
        rotate_left
        · (intro w' hSw; (try dsimp only at hSw); go_simp; try (with_reducible rfl))
        try simp only [Act.put, List.setIfInBounds_toArray, List.set_cons_zero, List.set_cons_succ]
        refine wpAnyH_done (by kernel_rfl) ?_ _
        go_wp2
        go_ret
        exact ⟨rfl, HT.out.bel.trans (hbt2.mono HT.out.bel.size)⟩
      · have z1 : ((L.length : Int) == 0) = false := beq_eq_false_iff_ne.2 (by omega)
        have z2 : IntKind.i64.wrap ((L.length : Int) - 1) = (L.length : Int) - 1 := IntWalk.i64_in _ (by omega)
        have z3 : ((L.length : Int) - 1).toNat = L.length - 1 := by omega
        have z4 : (0 : Int) ≤ (L.length : Int) - 1 := by omega
        have z5 : (L.length : Int) - 1 ≤ (C : Int) := by omega
        have z6 : (1 : Int) ≤ (L.length : Int) := by omega
        have z7 : (L.length : Int) ≤ (C : Int) + 1 := by omega
        have z8 : 1 ≤ L.length := by omega
        go_wp2_with fail
        go_region_held (fun w' => w'.cell? ⟨gv, 0, none⟩ = some (.slice A L.length C) ∧ (convert 29 9 (.slice A L.length C)).run Try.prog w' = .ok (.string (tx L)) w' ∧ Below wr.heap.size wr w')
          (first
            | exact ⟨e1, e2, hbt⟩
            | exact ⟨d1, d2, hbel⟩)
          (first
            | (go_at_call 13; go_fit (bytes_any gw L _ (HT.out.wr.old hbel) (by omega)); rintro e wn ⟨bb, rfl, -, hrn, hbn⟩; have hcn := hrn.str L.length; have hbt : Below wr.heap.size wr wn := hbel.trans (hbn.mono hbel.size); have e1 := HD1.out _ hbt; have e2 := HD2.out _ hbt; clear hrn hbn)
            | (go_at_call 14; go_fit (reads_len A AI L L.length C n cI way num st _ _ rfl HCA.out hc1 HC2.out (HRD.out.old hbt) hll ((HI2.out.below hbt).up hbt.size) (by omega)); rintro e wn2 ⟨rfl, hbn2⟩; have hbt2 : Below wr.heap.size wr wn2 := hbt.trans (hbn2.mono hbt.size); clear hbt e1 e2 hbn2; have hbt := hbt2; have e1 := HD1.out _ hbt; have e2 := HD2.out _ hbt)
            | (go_at_call 14; go_fit (reads_len A AI (L.take (L.length - 1)) (L.length - 1) C n cI way num st _ _ (by simp) (fun h => by have := HCA.out h; omega) (by simp; omega) HC2.out ((HRD.out.old hbt).take _) (by simp; omega) ((HI2.out.below hbt).up hbt.size) (by omega)); rintro e wn3 ⟨rfl, hbn3⟩; have hbt3 : Below wr.heap.size wr wn3 := hbt.trans (hbn3.mono hbt.size); clear hbt e1 e2 hbn3; have hbt := hbt3; have e1 := HD1.out _ hbt; have e2 := HD2.out _ hbt))
        go_wp2
        go_ret
        exact ⟨rfl, HT.out.bel.trans (hbt.mono HT.out.bel.size)⟩
set_option maxRecDepth 100000 in
theorem codeWrites_any (AI : Option Addr) (n cI : Nat) (way num : Nat → Int) (st : Nat → Tx) (w : World) (hi : ItR w AI n way num st w.heap.size) (hs : ∀ i, i < n → (st i).length ≤ maxLen) (hn : n ≤ maxLen) :
    Calls Try.prog 3 #[.slice AI n cI] w fun e w' => e = .returned (.bool true) ∧ Below w.heap.size w w' := by
  by_cases h : 60 < n
  · have HI := Lib.hid hi
    have HS := Lib.hid hs
    clear hi hs
    unfold maxLen at hn
    have q1 : decide (60 < n) = true := decide_eq_true h
    have q2 : decide (60 < (n : Int)) = true := decide_eq_true (by omega)
    go_enter Try.func3, Try.ntmps3
    go_wp2_with (go_at_call 6; refine (alive6_true w).mono ?_; rintro e w1 ⟨rfl, hB⟩; have HB := Lib.hid hB; clear hB)
    go_ret
    exact ⟨rfl, HB.out⟩
  · exact codeWrites_main AI n cI way num st w hi hs (by omega)
end Go.Proofs.Ytnblebgoajhaiaa
