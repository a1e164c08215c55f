/- What a Reader of package code reads. What read of package frame answers: what bytes say where they say it. What bytes.Equal answers. -/
import Derived.Test.YtndofmoepjfnfaaDoorMai
import Derived.Test.YtndofmoepjfnfaaDoorChecked
import Derived.OwnWalk
import Derived.Handy
import Derived.WalkSpells
import Derived.WalkLawsBesides
import Derived.StillTailTactics
import Derived.Laws.BitsAllLaws
import Derived.Lib.SliceRun
import Derived.Test.YtndofmoepjfnfaaDoorMaj
namespace Go.Proofs.YtndofmoepjfnfaaDoor
open Go.RowKit
open Pt (Tx)

theorem or_byte (a c : Nat) (ha : a < 1099511627776) (hc : c < 256) : bits .or .i64 ((a : Int) * 256) (c : Int) = (a : Int) * 256 + (c : Int) := by
  show IntKind.i64.wrap ((BitVec.ofInt 64 ((a : Int) * 256) ||| BitVec.ofInt 64 (c : Int)).toNat : Int) = _
  have e1 : ((a : Int) * 256) = ((a * 256 : Nat) : Int) := by omega
  rw [e1, BitVec.ofInt_natCast, BitVec.ofInt_natCast, BitVec.toNat_or, BitVec.toNat_ofNat, BitVec.toNat_ofNat, Nat.mod_eq_of_lt (by omega), Nat.mod_eq_of_lt (by omega)]
  have h2 : a * 256 ||| c = a * 256 + c := by
    have := Nat.shiftLeft_add_eq_or_of_lt (i := 8) (b := c) (by omega) a
    rw [Nat.shiftLeft_eq, show (2 : Nat) ^ 8 = 256 from rfl] at this
    exact this.symm
  rw [h2, IntKind.wrap_i64]
  omega
theorem OwnL.lit0 (w : World) (base : Nat) (hb : base ≤ w.heap.size) : OwnL (w.alloc (.cells #[] 5)) base (.slice (some ⟨w.heap.size, 0, none⟩) 0 0) [] :=
  ⟨rfl, .inr ⟨w.heap.size, 0, #[], rfl, hb, Go.Deep.blk_alloc_new _ _, Nat.le_refl _, by decide, rfl, rfl⟩⟩
/-- bytes that are there now, in new memory -/
def AnsL (l : Tx) (w : World) (e : Ending) (w' : World) : Prop := ∃ A C, e = .returned (.slice A l.length C) ∧ l.length ≤ C ∧ (A = none → l.length = 0 ∧ C = 0) ∧ RdL w' A l (w.heap.size ≤ ·) ∧ Below w.heap.size w w'
theorem clone_any (A : Option Addr) (l : Tx) (c : Nat) (G : Nat → Prop) (w : World) (hA : A = none → l.length = 0 ∧ c = 0) (hr : RdL w A l G) (hl : l.length ≤ 1000000000) :
    Calls Tryd.prog 73 #[.slice A l.length c] w (AnsL l w) := by
  cases A with
  | none =>
    obtain ⟨h0, rfl⟩ := hA rfl
    have hl0 : l = [] := List.length_eq_zero_iff.1 h0
    subst hl0
    have hq := Lib.run_eql_slice_nil (P := Tryd.prog) w 26 5 none 0 0 0 0 Tryd.underlying26
    go_enter Tryd.func73, Tryd.ntmps73
    go_wp2
    go_ret
    exact ⟨none, 0, rfl, Nat.le_refl _, fun _ => ⟨rfl, rfl⟩, RdL.empty _ _ _, Below.refl _ _⟩
  | some a =>
    have hq := Lib.run_eql_slice_nil (P := Tryd.prog) w 26 5 (some a) l.length c 0 0 Tryd.underlying26
    go_enter Tryd.func73, Tryd.ntmps73
    go_wp2_with (at_builtin; refine wpList_append_bl _ rfl _ _ rfl w.heap.size _ [] rfl (OwnL.lit0 w _ (Nat.le_refl _)) (some a) l.length c l G rfl rfl (fun h => by cases h) (hr.old ((Below.refl _ _).alloc (Nat.le_refl _) _)) (by simp; omega) (by simp) ?_; intro v' w' hv hg; have HV := Lib.hid hv; have HG := Lib.hid hg; clear hv hg)
    go_ret
    have hv : OwnL w' w.heap.size v' l := HV.out
    obtain ⟨A', C', rfl, h1, -, h2, h3⟩ := hv.rd
    exact ⟨A', C', rfl, h1, h2, h3.mono (fun b h => h.1), ((Below.refl _ _).alloc (Nat.le_refl _) _).grown HG.out (by simp) (fun k h => by cases h; exact Nat.le_refl _)⟩
/-- a new Reader -/
def NewR (l : Tx) (w : World) (e : Ending) (w' : World) : Prop := ∃ g, e = .returned (.pointer (some ⟨g, 0, none⟩)) ∧ w.heap.size ≤ g ∧ Rr w' g (l, false) (fun b => w.heap.size ≤ b ∧ b < g) ∧ Below w.heap.size w w'
theorem newReader_any (A : Option Addr) (l : Tx) (c : Nat) (G : Nat → Prop) (w : World) (hA : A = none → l.length = 0 ∧ c = 0) (hr : RdL w A l G) (hl : l.length ≤ 1000000000) :
    Calls Tryd.prog 70 #[.slice A l.length c] w (NewR l w) := by
  go_enter Tryd.func70, Tryd.ntmps70
  go_wp2_with (go_at_call 73; refine (clone_any A l c G w hA hr hl).mono ?_; rintro e w' ⟨A', C', rfl, h1, h2, h3, h4⟩; have H2 := Lib.hid h2; clear h2)
  go_ret
  refine ⟨w'.heap.size, rfl, h4.size, ⟨⟨A', C', Go.Deep.blk_alloc_new _ _, h1, H2.out, ?_⟩, fun h => by have := h.2; omega⟩, h4.alloc h4.size _⟩
  exact (h3.in_.old ((Below.refl _ _).alloc (Nat.le_refl _) _)).mono fun b h => h
/-- a Reader whose slice is set -/
theorem Rr.set {w : World} {g : Nat} {v : Value} {bad : Bool} {G : Nat → Prop} (h1 : w.heap[g]? = some (.cells #[v, .bool bad] 136 (0, 0))) {A : Option Addr} {c m : Nat} {l : Tx} (hm : m = l.length) (hl : l.length ≤ c) (hA : A = none → l.length = 0 ∧ c = 0) (hr : RdL w A l G) (ng : ¬ G g) :
    Rr (w.setCell ⟨g, 0, none⟩ (.slice A m c)) g (l, bad) G := by
  subst hm
  refine ⟨⟨A, c, ?_, hl, hA, hr.kp (Kp.store w g 0 _) (fun b hb e => ng (e ▸ hb))⟩, ng⟩
  rw [heap_set h1]; simp
/-- what take answered, and left -/
def Took (n g : Nat) (s : Cd.St) (G : Nat → Prop) (w : World) (e : Ending) (w' : World) : Prop := ∃ A c, e = .returned (.slice A (Cd.tk n s).length c) ∧ RdL w' A (Cd.tk n s) G ∧ Rr w' g (Cd.af n s) G ∧ Kp (· = g) w w'
set_option maxRecDepth 100000 in
theorem take_any (g n : Nat) (s : Cd.St) (G : Nat → Prop) (w : World) (h : Rr w g s G) (hl : s.1.length ≤ 1000000000) (hn : n ≤ 1000) :
    Calls Tryd.prog 80 #[.pointer (some ⟨g, 0, none⟩), .int .i64 (n : Int)] w (Took n g s G w) := by
  obtain ⟨⟨A, c, h1, h2, h3, h4⟩, ng⟩ := h
  obtain ⟨l, bad⟩ := s
  simp only at h1 h2 h3 h4 hl
  have c0 : w.cell? ⟨g, 0, none⟩ = some (.slice A l.length c) := heap_cell h1
  have c1 : w.cell? ⟨g, 1, none⟩ = some (.bool bad) := heap_cell h1
  have f0 : w.frozen? ⟨g, 0, none⟩ = false := heap_frozen h1
  have f1 : w.frozen? ⟨g, 1, none⟩ = false := heap_frozen h1
  have H1 := Lib.hid h1
  have H3 := Lib.hid h3
  have H4 := Lib.hid h4
  clear h1 h3 h4
  by_cases hlt : l.length < n
  · go_enter Tryd.func80, Tryd.ntmps80
    go_wp2
    go_ret
    refine ⟨none, 0, by rw [Cd.tk_no hlt]; rfl, by rw [Cd.tk_no hlt]; exact RdL.empty _ _ _, ?_, (((Kp.refl (· = g) w).setCell (p := ⟨g, 0, none⟩) rfl _).setCell (p := ⟨g, 1, none⟩) rfl _)⟩
    rw [Cd.af_no hlt]
    refine ⟨⟨none, 0, ?_, Nat.le_refl _, fun _ => ⟨rfl, rfl⟩, RdL.empty _ _ _⟩, ng⟩
    rw [heap_set (heap_set H1.out _)]; simp
  · by_cases h0 : n = 0
    · subst h0
      go_enter Tryd.func80, Tryd.ntmps80
      go_wp2
      go_ret
      have ht : Cd.tk 0 (l, bad) = [] := by rw [Cd.tk_yes hlt]; rfl
      have ha : Cd.af 0 (l, bad) = (l, bad) := by rw [Cd.af_yes hlt]; rfl
      refine ⟨A, c, by rw [ht]; rfl, by rw [ht]; exact RdL.empty _ _ _, ?_, Kp.store w g 0 _⟩
      rw [ha]
      exact Rr.set H1.out rfl h2 H3.out H4.out ng
    · obtain ⟨b, off, rfl, hb, -⟩ := H4.out (by omega)
      have hmin : (l.take n).length = n := by simp; omega
      have ht : Cd.tk n (l, bad) = l.take n := Cd.tk_yes hlt
      have ha : Cd.af n (l, bad) = (l.drop n, bad) := Cd.af_yes hlt
      have HT := Lib.hid ht
      have HA := Lib.hid ha
      have HM := Lib.hid hmin
      clear ht ha hmin
      by_cases hc : c = n
      · subst hc
        have hll : c = l.length := by omega
        have HLL := Lib.hid hll
        clear hll
        have q1 : (c : Int) ≤ (l.length : Int) := by omega
        go_enter Tryd.func80, Tryd.ntmps80
        go_wp2
        go_ret
        have hd : (l.drop c).length = 0 := by have := HLL.out; simp; omega
        refine ⟨some ⟨b, off, none⟩, c, by rw [HT.out, HM.out]; rfl, by rw [HT.out]; exact (H4.out.take _).kp (Kp.store w g 0 _) (fun x hx e => ng (e ▸ hx)), ?_, Kp.store w g 0 _⟩
        rw [HA.out]
        exact Rr.set H1.out hd.symm (by omega) (fun h => by cases h) (fun h => by omega) ng
      · have q1 : n ≤ l.length := by omega
        have q2 : n ≤ c := by omega
        have q3 : ¬ n = c := fun h => hc h.symm
        go_enter Tryd.func80, Tryd.ntmps80
        go_wp2
        go_ret
        refine ⟨some ⟨b, off, none⟩, c, by rw [HT.out, HM.out]; rfl, by rw [HT.out]; exact (H4.out.take _).kp (Kp.store w g 0 _) (fun x hx e => ng (e ▸ hx)), ?_, Kp.store w g 0 _⟩
        rw [HA.out]
        exact Rr.set H1.out (by simp) (by simp; omega) (fun h => by cases h) (H4.out.drop n) ng
/-- the number -/
theorem take_num (l : Tx) (k : Nat) (h : k < l.length) : Cd.num (l.take (k + 1)) = Cd.num (l.take k) * 256 + (l[k].toNat : Int) := by
  rw [List.take_succ_eq_append_getElem h, Cd.num_snoc]
theorem num_small (l : Tx) (k : Nat) (hl : l.length ≤ 4) : 0 ≤ Cd.num (l.take k) ∧ Cd.num (l.take k) < 4294967296 := by
  refine ⟨Cd.num_lo _, ?_⟩
  have h := Cd.num_hi (l.take k)
  have h2 : (l.take k).length ≤ 4 := by simp; omega
  have h3 : (l.take k).length = 0 ∨ (l.take k).length = 1 ∨ (l.take k).length = 2 ∨ (l.take k).length = 3 ∨ (l.take k).length = 4 := by omega
  rcases h3 with e | e | e | e | e <;> rw [e] at h <;> simp only [Int.reducePow] at h <;> omega
set_option maxRecDepth 100000 in
theorem rint_any (g : Nat) (s : Cd.St) (G : Nat → Prop) (w : World) (h : Rr w g s G) (hl : s.1.length ≤ 1000000000) :
    Calls Tryd.prog 72 #[.pointer (some ⟨g, 0, none⟩)] w (Red (.int .i64 (Cd.num (Cd.tk 4 s))) g (Cd.af 4 s) G w) := by
  go_enter Tryd.func72, Tryd.ntmps72
  go_wp2_with (go_at_call 80; refine (take_any g 4 s G w h hl (by decide)).mono ?_; rintro e w1 ⟨A, c, rfl, hr, hR, hK⟩; have HR := Lib.hid hr; have HRR := Lib.hid hR; have HK := Lib.hid hK; clear hr hR hK)
  obtain ⟨t, ht⟩ : ∃ t, t = Cd.tk 4 s := ⟨_, rfl⟩
  have h4 : t.length ≤ 4 := by rw [ht]; exact Cd.tk_le 4 s
  rw [← ht] at HR ⊢
  have HT := Lib.hid ht
  clear ht
  go_loop [3, 9] (fun vn vi => ∃ k : Nat, k ≤ t.length ∧ vi = .int .i64 (k : Int) ∧ vn = .int .i64 (Cd.num (t.take k))) (fun _ vi => t.length - (intOf vi).toNat)
  case atStart => exact ⟨0, Nat.zero_le _, rfl, rfl⟩
  case round =>
    obtain ⟨k, hk, rfl, rfl⟩ := hrel
    by_cases hlt : k < t.length
    · obtain ⟨b, off, rfl, -, hc⟩ := HR.out.at_ hlt
      have hs := num_small t k h4
      obtain ⟨a, ha⟩ : ∃ a : Nat, Cd.num (t.take k) = (a : Int) := ⟨(Cd.num (t.take k)).toNat, by omega⟩
      have HN := Lib.hid (take_num t k hlt)
      rw [ha] at HN hs ⊢
      clear ha
      have ha' : a < 1099511627776 := by omega
      have hcl := t[k].toNat_lt
      have hor := or_byte a t[k].toNat ha' hcl
      clear ha'
      go_wp2
      go_round
      case rel => exact ⟨k + 1, by omega, by go_num, by rw [HN.out]⟩
      case measure => simp [intOf]; omega
    · go_wp2
      go_ret
      have e : t.take k = t := List.take_of_length_le (by omega)
      refine ⟨?_, HRR.out, HK.out⟩
      rw [← HT.out, e]; rfl
theorem byt_of {s : Cd.St} {t : Tx} (ht : t = Cd.tk 1 s) (h : t.length = 0) : Cd.byt s = 0 := by
  unfold Cd.byt; rw [← ht, List.length_eq_zero_iff.1 h]; rfl
theorem byt_at {s : Cd.St} {t : Tx} (ht : t = Cd.tk 1 s) (h : 0 < t.length) : Cd.byt s = t[0] := by
  unfold Cd.byt; rw [← ht]
  cases t with
  | nil => simp at h
  | cons c l => rfl
set_option maxRecDepth 100000 in
theorem rbyte_any (g : Nat) (s : Cd.St) (G : Nat → Prop) (w : World) (h : Rr w g s G) (hl : s.1.length ≤ 1000000000) :
    Calls Tryd.prog 71 #[.pointer (some ⟨g, 0, none⟩)] w (Red (.int .u8 ((Cd.byt s).toNat : Int)) g (Cd.af 1 s) G w) := by
  obtain ⟨t, ht⟩ : ∃ t, t = Cd.tk 1 s := ⟨_, rfl⟩
  have h1 : t.length ≤ 1 := by rw [ht]; exact Cd.tk_le 1 s
  have htake := take_any g 1 s G w h hl (by decide)
  unfold Took at htake
  rw [← ht] at htake
  have HT := Lib.hid ht
  clear ht
  by_cases h0 : t.length = 0
  · have q1 : ((t.length : Int) == 0) = true := by rw [h0]; rfl
    have HB := Lib.hid (byt_of HT.out h0)
    clear h0
    go_enter Tryd.func71, Tryd.ntmps71
    go_wp2_with (go_at_call 80; refine htake.mono ?_; rintro e w1 ⟨A, c, rfl, hr, hR, hK⟩; have HR := Lib.hid hr; have HRR := Lib.hid hR; have HK := Lib.hid hK; clear hr hR hK)
    go_ret
    refine ⟨?_, HRR.out, HK.out⟩
    rw [HB.out]; rfl
  · have q1 : ((t.length : Int) == 0) = false := beq_eq_false_iff_ne.2 (by omega)
    have hp : 0 < t.length := by omega
    have HB := Lib.hid (byt_at HT.out hp)
    have h0' : ¬ t.length = 0 := h0
    clear h0
    go_enter Tryd.func71, Tryd.ntmps71
    go_wp2_with (go_at_call 80; refine htake.mono ?_; rintro e w1 ⟨A, c, rfl, hr, hR, hK⟩; obtain ⟨b, off, rfl, -, hc⟩ := hr.at_ hp; rw [Nat.add_zero] at hc; have HRR := Lib.hid hR; have HK := Lib.hid hK; clear hr hR hK)
    go_ret
    refine ⟨?_, HRR.out, HK.out⟩
    rw [HB.out]; rfl
end Go.Proofs.YtndofmoepjfnfaaDoor
namespace Go.Proofs.YtndofmoepjfnfaaDoor
open Go.RowKit
open Pt (Tx)

/-- a unit that is answered by value, its load in new memory -/
def AnsU (u : Fm.U) (w : World) (e : Ending) (w' : World) : Prop :=
  ∃ A m C, e = .returned (.agg #[.int .i64 u.kind, .int .i64 u.label, .int .i64 u.number, .slice A m C]) ∧ m = u.load.length ∧ m ≤ C ∧ (A = none → m = 0 ∧ C = 0) ∧ RdL w' A u.load (w.heap.size ≤ ·) ∧ Below w.heap.size w w'
/-- a unit was stored into a block that is none of its load's -/
theorem AnsU.stored {w w7 : World} {B : Nat} {a0 a1 a2 a3 : Value} {u : Fm.U} {A : Option Addr} {m C : Nat} (hB : B = w.heap.size) (hr : RdL w7 A u.load (B < ·)) (hm : m = u.load.length) (hc : m ≤ C) (hn : A = none → m = 0 ∧ C = 0) (hb : Below w.heap.size w w7) :
    AnsU u w (.returned (.agg #[.int .i64 u.kind, .int .i64 u.label, .int .i64 u.number, .slice A m C])) ((((w7.setCell ⟨B, 0, none⟩ a0).setCell ⟨B, 1, none⟩ a1).setCell ⟨B, 2, none⟩ a2).setCell ⟨B, 3, none⟩ a3) := by
  subst hB
  have hk : Kp (· = w.heap.size) w7 ((((w7.setCell ⟨w.heap.size, 0, none⟩ a0).setCell ⟨w.heap.size, 1, none⟩ a1).setCell ⟨w.heap.size, 2, none⟩ a2).setCell ⟨w.heap.size, 3, none⟩ a3) := (((Kp.store _ _ _ _).trans (Kp.store _ _ _ _)).trans (Kp.store _ _ _ _)).trans (Kp.store _ _ _ _)
  exact ⟨A, m, C, rfl, hm, hc, hn, (hr.kp hk (fun x hx hx' => by omega)).mono (fun x hx => by omega), hb.trans (hk.below hb.size (fun x hx => by omega))⟩
set_option maxHeartbeats 2000000 in
theorem read_long (g off : Nat) (b : Tx) (D E : Nat) (G : Nat → Prop) (w : World) (hL : D + 11 = b.length) (hC : D ≤ E) (hl : D ≤ 1000000) (hr : RdL w (some ⟨g, off, none⟩) b G) :
    Calls Tryd.prog 59 #[.slice (some ⟨g, off, none⟩) (D + 11) (E + 11)] w (AnsU (Fm.parse b) w) := by
  have HB0 : Hid (Below w.heap.size w (w.alloc (unitObj 0 0 0 none 0 0))) := Lib.hid ((Below.refl _ _).alloc (Nat.le_refl _) _)
  have HR := Lib.hid hr
  have HL := Lib.hid hL
  have e11 : (b.take 11).length = 11 := by rw [List.length_take, ← hL]; omega
  have HN : Hid (∀ w', Below w.heap.size w w' → Calls Tryd.prog 70 #[.slice (some ⟨g, off, none⟩) 11 (E + 11)] w' (NewR (b.take 11) w')) := Lib.hid fun w' hb => by
    have := newReader_any (some ⟨g, off, none⟩) (b.take 11) (E + 11) _ w' (fun h => by cases h) ((hr.in_.old hb).take 11) (by rw [e11]; omega)
    rw [e11] at this; exact this
  clear hr hL
  have q0 : ¬ D + 11 < 11 := by omega
  have q1 : ¬ (D : Int) + 11 < 11 := by omega
  go_enter Tryd.func59, Tryd.ntmps59
  go_wp2_with fail
  refine (HN.out _ HB0.out).mono ?_
  rintro e w1 ⟨gr, rfl, hlo, hr1, hb1⟩
  have HR1 := Lib.hid hr1
  have HB1 := Lib.hid (HB0.out.trans (hb1.mono HB0.out.size))
  have HLO := Lib.hid (Nat.le_trans HB0.out.size hlo)
  have HNE : Hid (¬ w.heap.size = gr) := Lib.hid (by have : (w.alloc (unitObj 0 0 0 none 0 0)).heap.size ≤ gr := hlo; simp at this; omega)
  have HZ1 : Hid (w1.heap[w.heap.size]? = some (unitObj 0 0 0 none 0 0)) := Lib.hid ((hb1.block _ (by simp)).trans (Go.Deep.blk_alloc_new _ _))
  obtain ⟨T, hT⟩ : ∃ T, T = b.take 11 := ⟨_, rfl⟩
  rw [← hT] at HR1 e11
  have HT := Lib.hid hT
  obtain ⟨z1, z2, z3, z4, -⟩ := Fm.s_len T
  rw [e11] at z1 z2 z3 z4
  obtain ⟨n0, hn0⟩ : ∃ n, n = (Cd.byt (T, false)).toNat := ⟨_, rfl⟩
  obtain ⟨n3, hn3⟩ : ∃ n, n = (Cd.byt (Fm.s3 T)).toNat := ⟨_, rfl⟩
  obtain ⟨n4, hn4⟩ : ∃ n, n = (Cd.byt (Fm.s4 T)).toNat := ⟨_, rfl⟩
  obtain ⟨l1, hl1⟩ : ∃ l, l = Cd.num (Cd.tk 4 (Fm.s1 T)) := ⟨_, rfl⟩
  obtain ⟨l2, hl2⟩ : ∃ l, l = Cd.num (Cd.tk 4 (Fm.s2 T)) := ⟨_, rfl⟩
  have k0 : n0 < 256 := by rw [hn0]; exact (Cd.byt (T, false)).toNat_lt
  have k3 : n3 < 256 := by rw [hn3]; exact (Cd.byt (Fm.s3 T)).toNat_lt
  have k4 : n4 < 256 := by rw [hn4]; exact (Cd.byt (Fm.s4 T)).toNat_lt
  obtain ⟨Z, hZ⟩ : ∃ Z, Z = 256 * n3 + n4 := ⟨_, rfl⟩
  have hZs : (n3 : Int) * 256 + (n4 : Int) = (Z : Int) := by omega
  have hZl : Z < 65536 := by omega
  have HZZ : Hid (Fm.parse b = ⟨(n0 : Int), l1, l2, (b.drop 11).take Z⟩) := Lib.hid (by
    rw [hZ, hn0, hn3, hn4, hl1, hl2, hT]; rfl)
  have Hn0 := Lib.hid hn0
  have Hn3 := Lib.hid hn3
  have Hn4 := Lib.hid hn4
  have Hl1 := Lib.hid hl1
  have Hl2 := Lib.hid hl2
  clear hT HN hlo hb1 hr1 hn0 hn3 hn4 hl1 hl2 hZ
  go_wp2_with fail
  have hcall1 := rbyte_any gr (T, false) _ w1 HR1.out (by show T.length ≤ _; omega)
  rw [← Hn0.out] at hcall1
  refine hcall1.mono ?_
  clear hcall1
  rintro e w2 ⟨rfl, hr2, hk2⟩
  have HR2 : Hid (Rr w2 gr (Fm.s1 T) _) := Lib.hid hr2
  have HB2 := Lib.hid (HB1.out.trans (lo_g hk2 HB1.out.size HLO.out))
  have HZ2 := Lib.hid ((hk2.block _ (heap_lt HZ1.out) HNE.out).trans HZ1.out)
  clear hr2 hk2
  go_wp2_with fail
  have hcall2 := rint_any gr (Fm.s1 T) _ w2 HR2.out (by omega)
  rw [← Hl1.out] at hcall2
  refine hcall2.mono ?_
  clear hcall2
  rintro e w3 ⟨rfl, hr3, hk3⟩
  have HR3 : Hid (Rr w3 gr (Fm.s2 T) _) := Lib.hid hr3
  have HB3 := Lib.hid (HB2.out.trans (lo_g hk3 HB2.out.size HLO.out))
  have HZ3 := Lib.hid ((hk3.block _ (heap_lt HZ2.out) HNE.out).trans HZ2.out)
  clear hr3 hk3
  go_wp2_with fail
  have hcall3 := rint_any gr (Fm.s2 T) _ w3 HR3.out (by omega)
  rw [← Hl2.out] at hcall3
  refine hcall3.mono ?_
  clear hcall3
  rintro e w4 ⟨rfl, hr4, hk4⟩
  have HR4 : Hid (Rr w4 gr (Fm.s3 T) _) := Lib.hid hr4
  have HB4 := Lib.hid (HB3.out.trans (lo_g hk4 HB3.out.size HLO.out))
  have HZ4 := Lib.hid ((hk4.block _ (heap_lt HZ3.out) HNE.out).trans HZ3.out)
  clear hr4 hk4
  go_wp2_with fail
  have hcall4 := rbyte_any gr (Fm.s3 T) _ w4 HR4.out (by omega)
  rw [← Hn3.out] at hcall4
  refine hcall4.mono ?_
  clear hcall4
  rintro e w5 ⟨rfl, hr5, hk5⟩
  have HR5 : Hid (Rr w5 gr (Fm.s4 T) _) := Lib.hid hr5
  have HB5 := Lib.hid (HB4.out.trans (lo_g hk5 HB4.out.size HLO.out))
  have HZ5 := Lib.hid ((hk5.block _ (heap_lt HZ4.out) HNE.out).trans HZ4.out)
  clear hr5 hk5
  go_wp2_with fail
  have hcall5 := rbyte_any gr (Fm.s4 T) _ w5 HR5.out (by omega)
  rw [← Hn4.out] at hcall5
  refine hcall5.mono ?_
  clear hcall5
  rintro e w6 ⟨rfl, hr6, hk6⟩
  have HR6 : Hid (Rr w6 gr (Fm.s5 T) _) := Lib.hid hr6
  have HB6 := Lib.hid (HB5.out.trans (lo_g hk6 HB5.out.size HLO.out))
  have HZ6 := Lib.hid ((hk6.block _ (heap_lt HZ5.out) HNE.out).trans HZ5.out)
  clear hr6 hk6
  have hRb : RdL w6 (some ⟨g, off, none⟩) b (· < w.heap.size) := (HR.out.in_.old HB6.out).mono fun _ h => h.2
  obtain ⟨M, hM⟩ : ∃ M, M = min Z D := ⟨_, rfl⟩
  have hlen : ((b.drop 11).take Z).length = M := by rw [List.length_take, List.length_drop, ← HL.out, hM]; omega
  have hMD : M ≤ D := by omega
  have hif : (if D < Z then (D : Int) else (Z : Int)) = (M : Int) := by split <;> omega
  have HMM := Lib.hid hM
  have HLM := Lib.hid hlen
  obtain ⟨u0, u1, u2, u3⟩ := unit4 HZ6.out
  have y0 : w6.frozen? ⟨w.heap.size, 0, none⟩ = false := heap_frozen HZ6.out
  have y1 : w6.frozen? ⟨w.heap.size, 1, none⟩ = false := heap_frozen HZ6.out
  have y2 : w6.frozen? ⟨w.heap.size, 2, none⟩ = false := heap_frozen HZ6.out
  have y3 : w6.frozen? ⟨w.heap.size, 3, none⟩ = false := heap_frozen HZ6.out
  clear hM
  by_cases hE : E = 0
  · subst hE
    have hD : D = 0 := by omega
    subst hD
    have hM0 : M = 0 := by omega
    subst hM0
    have hz : Z = 0 ∨ 0 < Z := by omega
    have h0 : (b.drop 11).take Z = [] := List.length_eq_zero_iff.1 HLM.out
    have HE := Lib.hid h0
    clear hRb h0 hlen hif
    rcases hz with rfl | hz
    all_goals
      go_wp2_with fail
      refine (clone_any (some ⟨g, off, none⟩) [] 0 (fun _ => True) w6 (fun h => by cases h) (RdL.empty _ _ _) (by simp)).mono ?_
      rintro e w7 ⟨A7, C7, rfl, hc7, hn7, hr7, hb7⟩
      obtain ⟨v0, v1, v2, v3⟩ := unit4 ((hb7.block _ (heap_lt HZ6.out)).trans HZ6.out)
      have x0 : w7.frozen? ⟨w.heap.size, 0, none⟩ = false := heap_frozen ((hb7.block _ (heap_lt HZ6.out)).trans HZ6.out)
      have x1 : w7.frozen? ⟨w.heap.size, 1, none⟩ = false := heap_frozen ((hb7.block _ (heap_lt HZ6.out)).trans HZ6.out)
      have x2 : w7.frozen? ⟨w.heap.size, 2, none⟩ = false := heap_frozen ((hb7.block _ (heap_lt HZ6.out)).trans HZ6.out)
      have x3 : w7.frozen? ⟨w.heap.size, 3, none⟩ = false := heap_frozen ((hb7.block _ (heap_lt HZ6.out)).trans HZ6.out)
      have HB7 := Lib.hid (HB6.out.trans (hb7.mono HB6.out.size))
      have HR7 : Hid (RdL w7 A7 [] (w.heap.size < ·)) := Lib.hid (RdL.empty _ _ _)
      have HN7 := Lib.hid hn7
      clear hb7 hr7 hn7 u0 u1 u2 u3 y0 y1 y2 y3
      go_wp2
      rw [HZZ.out, HE.out]
      exact bodyPost_ret (v := .agg #[.int .i64 (n0 : Int), .int .i64 l1, .int .i64 l2, .slice A7 0 C7]) (by simp [results, Tryd.results59, go_sem, v0, v1, v2, v3]) rfl (AnsU.stored (u := ⟨(n0 : Int), l1, l2, []⟩) rfl HR7.out rfl (Nat.zero_le _) HN7.out HB7.out)
  · have hrd : RdL w6 (some ⟨g, off + 11, none⟩) ((b.drop 11).take Z) (· < w.heap.size) := (hRb.drop 11).take Z
    have hcl := clone_any (some ⟨g, off + 11, none⟩) ((b.drop 11).take Z) E _ w6 (fun h => by cases h) hrd (by rw [hlen]; omega)
    rw [hlen] at hcl
    have HCL := Lib.hid hcl
    have q2 : ¬ E + 11 = 11 := by omega
    have q3 : ¬ 11 = E + 11 := by omega
    clear hcl hrd hRb hlen
    go_wp2_with fail
    refine HCL.out.mono ?_
    rintro e w7 ⟨A7, C7, rfl, hc7, hn7, hr7, hb7⟩
    rw [HLM.out] at hc7 hn7
    obtain ⟨v0, v1, v2, v3⟩ := unit4 ((hb7.block _ (heap_lt HZ6.out)).trans HZ6.out)
    have x0 : w7.frozen? ⟨w.heap.size, 0, none⟩ = false := heap_frozen ((hb7.block _ (heap_lt HZ6.out)).trans HZ6.out)
    have x1 : w7.frozen? ⟨w.heap.size, 1, none⟩ = false := heap_frozen ((hb7.block _ (heap_lt HZ6.out)).trans HZ6.out)
    have x2 : w7.frozen? ⟨w.heap.size, 2, none⟩ = false := heap_frozen ((hb7.block _ (heap_lt HZ6.out)).trans HZ6.out)
    have x3 : w7.frozen? ⟨w.heap.size, 3, none⟩ = false := heap_frozen ((hb7.block _ (heap_lt HZ6.out)).trans HZ6.out)
    have HB7 := Lib.hid (HB6.out.trans (hb7.mono HB6.out.size))
    have HR7 : Hid (RdL w7 A7 ((b.drop 11).take Z) (w.heap.size < ·)) := Lib.hid (hr7.mono fun x hx => Nat.lt_of_lt_of_le (heap_lt HZ6.out) hx)
    have HN7 := Lib.hid hn7
    clear hb7 hr7 hn7 u0 u1 u2 u3 y0 y1 y2 y3
    go_wp2
    rw [HZZ.out]
    refine bodyPost_ret (v := .agg #[.int .i64 (n0 : Int), .int .i64 l1, .int .i64 l2, .slice A7 M C7]) (by simp [results, Tryd.results59, go_sem, v0, v1, v2, v3]; have h := HLM.out; simp at h; exact h) rfl ?_
    exact AnsU.stored (u := ⟨(n0 : Int), l1, l2, (b.drop 11).take Z⟩) rfl HR7.out HLM.out.symm hc7 HN7.out HB7.out
set_option maxHeartbeats 2000000 in
theorem read_none (A : Option Addr) (b : Tx) (C : Nat) (G : Nat → Prop) (w : World) (hL : 0 = b.length) (hA : A = none → b.length = 0 ∧ C = 0) (hr : RdL w A b G) :
    Calls Tryd.prog 59 #[.slice A 0 C] w (AnsU (Fm.parse b) w) := by
  have HB0 : Hid (Below w.heap.size w (w.alloc (unitObj 0 0 0 none 0 0))) := Lib.hid ((Below.refl _ _).alloc (Nat.le_refl _) _)
  have HTK : Hid (b.take 11 = b) := Lib.hid (List.take_of_length_le (by omega))
  have HDR : Hid (b.drop 11 = []) := Lib.hid (List.drop_of_length_le (by omega))
  have HN : Hid (∀ w', Below w.heap.size w w' → Calls Tryd.prog 70 #[.slice A 0 C] w' (NewR b w')) := Lib.hid fun w' hb => by
    have := newReader_any _ b _ _ w' hA (hr.in_.old hb) (by omega)
    rw [← hL] at this; exact this
  have e11 : b.length < 11 := by omega
  have HA := Lib.hid hA
  clear hr hL hA
  go_enter Tryd.func59, Tryd.ntmps59
  go_wp2_with fail
  refine (HN.out _ HB0.out).mono ?_
  rintro e w1 ⟨gr, rfl, hlo, hr1, hb1⟩
  have HR1 := Lib.hid hr1
  have HB1 := Lib.hid (HB0.out.trans (hb1.mono HB0.out.size))
  have HLO := Lib.hid (Nat.le_trans HB0.out.size hlo)
  have HNE : Hid (¬ w.heap.size = gr) := Lib.hid (by have : (w.alloc (unitObj 0 0 0 none 0 0)).heap.size ≤ gr := hlo; simp at this; omega)
  have HZ1 : Hid (w1.heap[w.heap.size]? = some (unitObj 0 0 0 none 0 0)) := Lib.hid ((hb1.block _ (by simp)).trans (Go.Deep.blk_alloc_new _ _))
  obtain ⟨T, hT⟩ : ∃ T, T = b := ⟨_, rfl⟩
  rw [← hT] at HR1 e11
  have HT := Lib.hid hT
  obtain ⟨z1, z2, z3, z4, -⟩ := Fm.s_len T
  obtain ⟨n0, hn0⟩ : ∃ n, n = (Cd.byt (T, false)).toNat := ⟨_, rfl⟩
  obtain ⟨n3, hn3⟩ : ∃ n, n = (Cd.byt (Fm.s3 T)).toNat := ⟨_, rfl⟩
  obtain ⟨n4, hn4⟩ : ∃ n, n = (Cd.byt (Fm.s4 T)).toNat := ⟨_, rfl⟩
  obtain ⟨l1, hl1⟩ : ∃ l, l = Cd.num (Cd.tk 4 (Fm.s1 T)) := ⟨_, rfl⟩
  obtain ⟨l2, hl2⟩ : ∃ l, l = Cd.num (Cd.tk 4 (Fm.s2 T)) := ⟨_, rfl⟩
  have k0 : n0 < 256 := by rw [hn0]; exact (Cd.byt (T, false)).toNat_lt
  have k3 : n3 < 256 := by rw [hn3]; exact (Cd.byt (Fm.s3 T)).toNat_lt
  have k4 : n4 < 256 := by rw [hn4]; exact (Cd.byt (Fm.s4 T)).toNat_lt
  obtain ⟨Z, hZ⟩ : ∃ Z, Z = 256 * n3 + n4 := ⟨_, rfl⟩
  have hZs : (n3 : Int) * 256 + (n4 : Int) = (Z : Int) := by omega
  have hZl : Z < 65536 := by omega
  have HZZ : Hid (Fm.parse b = ⟨(n0 : Int), l1, l2, []⟩) := Lib.hid (by
    unfold Fm.parse
    rw [HTK.out, HDR.out, List.take_nil, hn0, hl1, hl2, hT]; rfl)
  have Hn0 := Lib.hid hn0
  have Hn3 := Lib.hid hn3
  have Hn4 := Lib.hid hn4
  have Hl1 := Lib.hid hl1
  have Hl2 := Lib.hid hl2
  clear hT HN hlo hb1 hr1 hn0 hn3 hn4 hl1 hl2 hZ
  go_wp2_with fail
  have hcall1 := rbyte_any gr (T, false) _ w1 HR1.out (by show T.length ≤ _; omega)
  rw [← Hn0.out] at hcall1
  refine hcall1.mono ?_
  clear hcall1
  rintro e w2 ⟨rfl, hr2, hk2⟩
  have HR2 : Hid (Rr w2 gr (Fm.s1 T) _) := Lib.hid hr2
  have HB2 := Lib.hid (HB1.out.trans (lo_g hk2 HB1.out.size HLO.out))
  have HZ2 := Lib.hid ((hk2.block _ (heap_lt HZ1.out) HNE.out).trans HZ1.out)
  clear hr2 hk2
  go_wp2_with fail
  have hcall2 := rint_any gr (Fm.s1 T) _ w2 HR2.out (by omega)
  rw [← Hl1.out] at hcall2
  refine hcall2.mono ?_
  clear hcall2
  rintro e w3 ⟨rfl, hr3, hk3⟩
  have HR3 : Hid (Rr w3 gr (Fm.s2 T) _) := Lib.hid hr3
  have HB3 := Lib.hid (HB2.out.trans (lo_g hk3 HB2.out.size HLO.out))
  have HZ3 := Lib.hid ((hk3.block _ (heap_lt HZ2.out) HNE.out).trans HZ2.out)
  clear hr3 hk3
  go_wp2_with fail
  have hcall3 := rint_any gr (Fm.s2 T) _ w3 HR3.out (by omega)
  rw [← Hl2.out] at hcall3
  refine hcall3.mono ?_
  clear hcall3
  rintro e w4 ⟨rfl, hr4, hk4⟩
  have HR4 : Hid (Rr w4 gr (Fm.s3 T) _) := Lib.hid hr4
  have HB4 := Lib.hid (HB3.out.trans (lo_g hk4 HB3.out.size HLO.out))
  have HZ4 := Lib.hid ((hk4.block _ (heap_lt HZ3.out) HNE.out).trans HZ3.out)
  clear hr4 hk4
  go_wp2_with fail
  have hcall4 := rbyte_any gr (Fm.s3 T) _ w4 HR4.out (by omega)
  rw [← Hn3.out] at hcall4
  refine hcall4.mono ?_
  clear hcall4
  rintro e w5 ⟨rfl, hr5, hk5⟩
  have HR5 : Hid (Rr w5 gr (Fm.s4 T) _) := Lib.hid hr5
  have HB5 := Lib.hid (HB4.out.trans (lo_g hk5 HB4.out.size HLO.out))
  have HZ5 := Lib.hid ((hk5.block _ (heap_lt HZ4.out) HNE.out).trans HZ4.out)
  clear hr5 hk5
  go_wp2_with fail
  have hcall5 := rbyte_any gr (Fm.s4 T) _ w5 HR5.out (by omega)
  rw [← Hn4.out] at hcall5
  refine hcall5.mono ?_
  clear hcall5
  rintro e w6 ⟨rfl, hr6, hk6⟩
  have HR6 : Hid (Rr w6 gr (Fm.s5 T) _) := Lib.hid hr6
  have HB6 := Lib.hid (HB5.out.trans (lo_g hk6 HB5.out.size HLO.out))
  have HZ6 := Lib.hid ((hk6.block _ (heap_lt HZ5.out) HNE.out).trans HZ5.out)
  clear hr6 hk6
  obtain ⟨u0, u1, u2, u3⟩ := unit4 HZ6.out
  have y0 : w6.frozen? ⟨w.heap.size, 0, none⟩ = false := heap_frozen HZ6.out
  have y1 : w6.frozen? ⟨w.heap.size, 1, none⟩ = false := heap_frozen HZ6.out
  have y2 : w6.frozen? ⟨w.heap.size, 2, none⟩ = false := heap_frozen HZ6.out
  have y3 : w6.frozen? ⟨w.heap.size, 3, none⟩ = false := heap_frozen HZ6.out
  have hz : Z = 0 ∨ 0 < Z := by omega
  rcases hz with rfl | hz
  all_goals
    go_wp2_with fail
    refine (clone_any _ [] _ (fun _ => True) w6 (fun h => ⟨rfl, (HA.out h).2⟩) (RdL.empty _ _ _) (by simp)).mono ?_
    rintro e w7 ⟨A7, C7, rfl, hc7, hn7, hr7, hb7⟩
    obtain ⟨v0, v1, v2, v3⟩ := unit4 ((hb7.block _ (heap_lt HZ6.out)).trans HZ6.out)
    have x0 : w7.frozen? ⟨w.heap.size, 0, none⟩ = false := heap_frozen ((hb7.block _ (heap_lt HZ6.out)).trans HZ6.out)
    have x1 : w7.frozen? ⟨w.heap.size, 1, none⟩ = false := heap_frozen ((hb7.block _ (heap_lt HZ6.out)).trans HZ6.out)
    have x2 : w7.frozen? ⟨w.heap.size, 2, none⟩ = false := heap_frozen ((hb7.block _ (heap_lt HZ6.out)).trans HZ6.out)
    have x3 : w7.frozen? ⟨w.heap.size, 3, none⟩ = false := heap_frozen ((hb7.block _ (heap_lt HZ6.out)).trans HZ6.out)
    have HB7 := Lib.hid (HB6.out.trans (hb7.mono HB6.out.size))
    have HR7 : Hid (RdL w7 A7 [] (w.heap.size < ·)) := Lib.hid (RdL.empty _ _ _)
    have HN7 := Lib.hid hn7
    clear hb7 hr7 hn7 u0 u1 u2 u3 y0 y1 y2 y3
    go_wp2
    rw [HZZ.out]
    exact bodyPost_ret (v := .agg #[.int .i64 (n0 : Int), .int .i64 l1, .int .i64 l2, .slice A7 0 C7]) (by simp [results, Tryd.results59, go_sem, v0, v1, v2, v3]) rfl (AnsU.stored (u := ⟨(n0 : Int), l1, l2, []⟩) rfl HR7.out rfl (Nat.zero_le _) HN7.out HB7.out)
set_option maxHeartbeats 2000000 in
theorem read_all (g off : Nat) (b : Tx) (L : Nat) (G : Nat → Prop) (w : World) (hL : L = b.length) (h0 : 0 < L) (h11 : L < 11) (hA : (some ⟨g, off, none⟩ : Option Addr) = none → b.length = 0 ∧ L = 0) (hr : RdL w (some ⟨g, off, none⟩) b G) :
    Calls Tryd.prog 59 #[.slice (some ⟨g, off, none⟩) L L] w (AnsU (Fm.parse b) w) := by
  have HB0 : Hid (Below w.heap.size w (w.alloc (unitObj 0 0 0 none 0 0))) := Lib.hid ((Below.refl _ _).alloc (Nat.le_refl _) _)
  have HTK : Hid (b.take 11 = b) := Lib.hid (List.take_of_length_le (by omega))
  have HDR : Hid (b.drop 11 = []) := Lib.hid (List.drop_of_length_le (by omega))
  have HN : Hid (∀ w', Below w.heap.size w w' → Calls Tryd.prog 70 #[.slice (some ⟨g, off, none⟩) L L] w' (NewR b w')) := Lib.hid fun w' hb => by
    have := newReader_any _ b _ _ w' hA (hr.in_.old hb) (by omega)
    rw [← hL] at this; exact this
  have e11 : b.length < 11 := by omega
  have HA := Lib.hid hA
  clear hr hL hA
  go_enter Tryd.func59, Tryd.ntmps59
  go_wp2_with fail
  refine (HN.out _ HB0.out).mono ?_
  rintro e w1 ⟨gr, rfl, hlo, hr1, hb1⟩
  have HR1 := Lib.hid hr1
  have HB1 := Lib.hid (HB0.out.trans (hb1.mono HB0.out.size))
  have HLO := Lib.hid (Nat.le_trans HB0.out.size hlo)
  have HNE : Hid (¬ w.heap.size = gr) := Lib.hid (by have : (w.alloc (unitObj 0 0 0 none 0 0)).heap.size ≤ gr := hlo; simp at this; omega)
  have HZ1 : Hid (w1.heap[w.heap.size]? = some (unitObj 0 0 0 none 0 0)) := Lib.hid ((hb1.block _ (by simp)).trans (Go.Deep.blk_alloc_new _ _))
  obtain ⟨T, hT⟩ : ∃ T, T = b := ⟨_, rfl⟩
  rw [← hT] at HR1 e11
  have HT := Lib.hid hT
  obtain ⟨z1, z2, z3, z4, -⟩ := Fm.s_len T
  obtain ⟨n0, hn0⟩ : ∃ n, n = (Cd.byt (T, false)).toNat := ⟨_, rfl⟩
  obtain ⟨n3, hn3⟩ : ∃ n, n = (Cd.byt (Fm.s3 T)).toNat := ⟨_, rfl⟩
  obtain ⟨n4, hn4⟩ : ∃ n, n = (Cd.byt (Fm.s4 T)).toNat := ⟨_, rfl⟩
  obtain ⟨l1, hl1⟩ : ∃ l, l = Cd.num (Cd.tk 4 (Fm.s1 T)) := ⟨_, rfl⟩
  obtain ⟨l2, hl2⟩ : ∃ l, l = Cd.num (Cd.tk 4 (Fm.s2 T)) := ⟨_, rfl⟩
  have k0 : n0 < 256 := by rw [hn0]; exact (Cd.byt (T, false)).toNat_lt
  have k3 : n3 < 256 := by rw [hn3]; exact (Cd.byt (Fm.s3 T)).toNat_lt
  have k4 : n4 < 256 := by rw [hn4]; exact (Cd.byt (Fm.s4 T)).toNat_lt
  obtain ⟨Z, hZ⟩ : ∃ Z, Z = 256 * n3 + n4 := ⟨_, rfl⟩
  have hZs : (n3 : Int) * 256 + (n4 : Int) = (Z : Int) := by omega
  have hZl : Z < 65536 := by omega
  have HZZ : Hid (Fm.parse b = ⟨(n0 : Int), l1, l2, []⟩) := Lib.hid (by
    unfold Fm.parse
    rw [HTK.out, HDR.out, List.take_nil, hn0, hl1, hl2, hT]; rfl)
  have Hn0 := Lib.hid hn0
  have Hn3 := Lib.hid hn3
  have Hn4 := Lib.hid hn4
  have Hl1 := Lib.hid hl1
  have Hl2 := Lib.hid hl2
  clear hT HN hlo hb1 hr1 hn0 hn3 hn4 hl1 hl2 hZ
  go_wp2_with fail
  have hcall1 := rbyte_any gr (T, false) _ w1 HR1.out (by show T.length ≤ _; omega)
  rw [← Hn0.out] at hcall1
  refine hcall1.mono ?_
  clear hcall1
  rintro e w2 ⟨rfl, hr2, hk2⟩
  have HR2 : Hid (Rr w2 gr (Fm.s1 T) _) := Lib.hid hr2
  have HB2 := Lib.hid (HB1.out.trans (lo_g hk2 HB1.out.size HLO.out))
  have HZ2 := Lib.hid ((hk2.block _ (heap_lt HZ1.out) HNE.out).trans HZ1.out)
  clear hr2 hk2
  go_wp2_with fail
  have hcall2 := rint_any gr (Fm.s1 T) _ w2 HR2.out (by omega)
  rw [← Hl1.out] at hcall2
  refine hcall2.mono ?_
  clear hcall2
  rintro e w3 ⟨rfl, hr3, hk3⟩
  have HR3 : Hid (Rr w3 gr (Fm.s2 T) _) := Lib.hid hr3
  have HB3 := Lib.hid (HB2.out.trans (lo_g hk3 HB2.out.size HLO.out))
  have HZ3 := Lib.hid ((hk3.block _ (heap_lt HZ2.out) HNE.out).trans HZ2.out)
  clear hr3 hk3
  go_wp2_with fail
  have hcall3 := rint_any gr (Fm.s2 T) _ w3 HR3.out (by omega)
  rw [← Hl2.out] at hcall3
  refine hcall3.mono ?_
  clear hcall3
  rintro e w4 ⟨rfl, hr4, hk4⟩
  have HR4 : Hid (Rr w4 gr (Fm.s3 T) _) := Lib.hid hr4
  have HB4 := Lib.hid (HB3.out.trans (lo_g hk4 HB3.out.size HLO.out))
  have HZ4 := Lib.hid ((hk4.block _ (heap_lt HZ3.out) HNE.out).trans HZ3.out)
  clear hr4 hk4
  go_wp2_with fail
  have hcall4 := rbyte_any gr (Fm.s3 T) _ w4 HR4.out (by omega)
  rw [← Hn3.out] at hcall4
  refine hcall4.mono ?_
  clear hcall4
  rintro e w5 ⟨rfl, hr5, hk5⟩
  have HR5 : Hid (Rr w5 gr (Fm.s4 T) _) := Lib.hid hr5
  have HB5 := Lib.hid (HB4.out.trans (lo_g hk5 HB4.out.size HLO.out))
  have HZ5 := Lib.hid ((hk5.block _ (heap_lt HZ4.out) HNE.out).trans HZ4.out)
  clear hr5 hk5
  go_wp2_with fail
  have hcall5 := rbyte_any gr (Fm.s4 T) _ w5 HR5.out (by omega)
  rw [← Hn4.out] at hcall5
  refine hcall5.mono ?_
  clear hcall5
  rintro e w6 ⟨rfl, hr6, hk6⟩
  have HR6 : Hid (Rr w6 gr (Fm.s5 T) _) := Lib.hid hr6
  have HB6 := Lib.hid (HB5.out.trans (lo_g hk6 HB5.out.size HLO.out))
  have HZ6 := Lib.hid ((hk6.block _ (heap_lt HZ5.out) HNE.out).trans HZ5.out)
  clear hr6 hk6
  obtain ⟨u0, u1, u2, u3⟩ := unit4 HZ6.out
  have y0 : w6.frozen? ⟨w.heap.size, 0, none⟩ = false := heap_frozen HZ6.out
  have y1 : w6.frozen? ⟨w.heap.size, 1, none⟩ = false := heap_frozen HZ6.out
  have y2 : w6.frozen? ⟨w.heap.size, 2, none⟩ = false := heap_frozen HZ6.out
  have y3 : w6.frozen? ⟨w.heap.size, 3, none⟩ = false := heap_frozen HZ6.out
  have hz : Z = 0 ∨ 0 < Z := by omega
  rcases hz with rfl | hz
  all_goals
    go_wp2_with fail
    refine (clone_any _ [] _ (fun _ => True) w6 (fun h => by cases h) (RdL.empty _ _ _) (by simp)).mono ?_
    rintro e w7 ⟨A7, C7, rfl, hc7, hn7, hr7, hb7⟩
    obtain ⟨v0, v1, v2, v3⟩ := unit4 ((hb7.block _ (heap_lt HZ6.out)).trans HZ6.out)
    have x0 : w7.frozen? ⟨w.heap.size, 0, none⟩ = false := heap_frozen ((hb7.block _ (heap_lt HZ6.out)).trans HZ6.out)
    have x1 : w7.frozen? ⟨w.heap.size, 1, none⟩ = false := heap_frozen ((hb7.block _ (heap_lt HZ6.out)).trans HZ6.out)
    have x2 : w7.frozen? ⟨w.heap.size, 2, none⟩ = false := heap_frozen ((hb7.block _ (heap_lt HZ6.out)).trans HZ6.out)
    have x3 : w7.frozen? ⟨w.heap.size, 3, none⟩ = false := heap_frozen ((hb7.block _ (heap_lt HZ6.out)).trans HZ6.out)
    have HB7 := Lib.hid (HB6.out.trans (hb7.mono HB6.out.size))
    have HR7 : Hid (RdL w7 A7 [] (w.heap.size < ·)) := Lib.hid (RdL.empty _ _ _)
    have HN7 := Lib.hid hn7
    clear hb7 hr7 hn7 u0 u1 u2 u3 y0 y1 y2 y3
    go_wp2
    rw [HZZ.out]
    exact bodyPost_ret (v := .agg #[.int .i64 (n0 : Int), .int .i64 l1, .int .i64 l2, .slice A7 0 C7]) (by simp [results, Tryd.results59, go_sem, v0, v1, v2, v3]) rfl (AnsU.stored (u := ⟨(n0 : Int), l1, l2, []⟩) rfl HR7.out rfl (Nat.zero_le _) HN7.out HB7.out)
set_option maxHeartbeats 2000000 in
theorem read_few (g off : Nat) (b : Tx) (L C : Nat) (G : Nat → Prop) (w : World) (hL : L = b.length) (h0 : 0 < L) (h11 : L < 11) (hC : L < C) (hA : (some ⟨g, off, none⟩ : Option Addr) = none → b.length = 0 ∧ C = 0) (hr : RdL w (some ⟨g, off, none⟩) b G) :
    Calls Tryd.prog 59 #[.slice (some ⟨g, off, none⟩) L C] w (AnsU (Fm.parse b) w) := by
  have HB0 : Hid (Below w.heap.size w (w.alloc (unitObj 0 0 0 none 0 0))) := Lib.hid ((Below.refl _ _).alloc (Nat.le_refl _) _)
  have HTK : Hid (b.take 11 = b) := Lib.hid (List.take_of_length_le (by omega))
  have HDR : Hid (b.drop 11 = []) := Lib.hid (List.drop_of_length_le (by omega))
  have HN : Hid (∀ w', Below w.heap.size w w' → Calls Tryd.prog 70 #[.slice (some ⟨g, off, none⟩) L C] w' (NewR b w')) := Lib.hid fun w' hb => by
    have := newReader_any _ b _ _ w' hA (hr.in_.old hb) (by omega)
    rw [← hL] at this; exact this
  have e11 : b.length < 11 := by omega
  have HA := Lib.hid hA
  clear hr hL hA
  have q2 : ¬ C = L := by omega
  have q3 : ¬ L = C := by omega
  have q4 : L ≤ C := by omega
  go_enter Tryd.func59, Tryd.ntmps59
  go_wp2_with fail
  refine (HN.out _ HB0.out).mono ?_
  rintro e w1 ⟨gr, rfl, hlo, hr1, hb1⟩
  have HR1 := Lib.hid hr1
  have HB1 := Lib.hid (HB0.out.trans (hb1.mono HB0.out.size))
  have HLO := Lib.hid (Nat.le_trans HB0.out.size hlo)
  have HNE : Hid (¬ w.heap.size = gr) := Lib.hid (by have : (w.alloc (unitObj 0 0 0 none 0 0)).heap.size ≤ gr := hlo; simp at this; omega)
  have HZ1 : Hid (w1.heap[w.heap.size]? = some (unitObj 0 0 0 none 0 0)) := Lib.hid ((hb1.block _ (by simp)).trans (Go.Deep.blk_alloc_new _ _))
  obtain ⟨T, hT⟩ : ∃ T, T = b := ⟨_, rfl⟩
  rw [← hT] at HR1 e11
  have HT := Lib.hid hT
  obtain ⟨z1, z2, z3, z4, -⟩ := Fm.s_len T
  obtain ⟨n0, hn0⟩ : ∃ n, n = (Cd.byt (T, false)).toNat := ⟨_, rfl⟩
  obtain ⟨n3, hn3⟩ : ∃ n, n = (Cd.byt (Fm.s3 T)).toNat := ⟨_, rfl⟩
  obtain ⟨n4, hn4⟩ : ∃ n, n = (Cd.byt (Fm.s4 T)).toNat := ⟨_, rfl⟩
  obtain ⟨l1, hl1⟩ : ∃ l, l = Cd.num (Cd.tk 4 (Fm.s1 T)) := ⟨_, rfl⟩
  obtain ⟨l2, hl2⟩ : ∃ l, l = Cd.num (Cd.tk 4 (Fm.s2 T)) := ⟨_, rfl⟩
  have k0 : n0 < 256 := by rw [hn0]; exact (Cd.byt (T, false)).toNat_lt
  have k3 : n3 < 256 := by rw [hn3]; exact (Cd.byt (Fm.s3 T)).toNat_lt
  have k4 : n4 < 256 := by rw [hn4]; exact (Cd.byt (Fm.s4 T)).toNat_lt
  obtain ⟨Z, hZ⟩ : ∃ Z, Z = 256 * n3 + n4 := ⟨_, rfl⟩
  have hZs : (n3 : Int) * 256 + (n4 : Int) = (Z : Int) := by omega
  have hZl : Z < 65536 := by omega
  have HZZ : Hid (Fm.parse b = ⟨(n0 : Int), l1, l2, []⟩) := Lib.hid (by
    unfold Fm.parse
    rw [HTK.out, HDR.out, List.take_nil, hn0, hl1, hl2, hT]; rfl)
  have Hn0 := Lib.hid hn0
  have Hn3 := Lib.hid hn3
  have Hn4 := Lib.hid hn4
  have Hl1 := Lib.hid hl1
  have Hl2 := Lib.hid hl2
  clear hT HN hlo hb1 hr1 hn0 hn3 hn4 hl1 hl2 hZ
  go_wp2_with fail
  have hcall1 := rbyte_any gr (T, false) _ w1 HR1.out (by show T.length ≤ _; omega)
  rw [← Hn0.out] at hcall1
  refine hcall1.mono ?_
  clear hcall1
  rintro e w2 ⟨rfl, hr2, hk2⟩
  have HR2 : Hid (Rr w2 gr (Fm.s1 T) _) := Lib.hid hr2
  have HB2 := Lib.hid (HB1.out.trans (lo_g hk2 HB1.out.size HLO.out))
  have HZ2 := Lib.hid ((hk2.block _ (heap_lt HZ1.out) HNE.out).trans HZ1.out)
  clear hr2 hk2
  go_wp2_with fail
  have hcall2 := rint_any gr (Fm.s1 T) _ w2 HR2.out (by omega)
  rw [← Hl1.out] at hcall2
  refine hcall2.mono ?_
  clear hcall2
  rintro e w3 ⟨rfl, hr3, hk3⟩
  have HR3 : Hid (Rr w3 gr (Fm.s2 T) _) := Lib.hid hr3
  have HB3 := Lib.hid (HB2.out.trans (lo_g hk3 HB2.out.size HLO.out))
  have HZ3 := Lib.hid ((hk3.block _ (heap_lt HZ2.out) HNE.out).trans HZ2.out)
  clear hr3 hk3
  go_wp2_with fail
  have hcall3 := rint_any gr (Fm.s2 T) _ w3 HR3.out (by omega)
  rw [← Hl2.out] at hcall3
  refine hcall3.mono ?_
  clear hcall3
  rintro e w4 ⟨rfl, hr4, hk4⟩
  have HR4 : Hid (Rr w4 gr (Fm.s3 T) _) := Lib.hid hr4
  have HB4 := Lib.hid (HB3.out.trans (lo_g hk4 HB3.out.size HLO.out))
  have HZ4 := Lib.hid ((hk4.block _ (heap_lt HZ3.out) HNE.out).trans HZ3.out)
  clear hr4 hk4
  go_wp2_with fail
  have hcall4 := rbyte_any gr (Fm.s3 T) _ w4 HR4.out (by omega)
  rw [← Hn3.out] at hcall4
  refine hcall4.mono ?_
  clear hcall4
  rintro e w5 ⟨rfl, hr5, hk5⟩
  have HR5 : Hid (Rr w5 gr (Fm.s4 T) _) := Lib.hid hr5
  have HB5 := Lib.hid (HB4.out.trans (lo_g hk5 HB4.out.size HLO.out))
  have HZ5 := Lib.hid ((hk5.block _ (heap_lt HZ4.out) HNE.out).trans HZ4.out)
  clear hr5 hk5
  go_wp2_with fail
  have hcall5 := rbyte_any gr (Fm.s4 T) _ w5 HR5.out (by omega)
  rw [← Hn4.out] at hcall5
  refine hcall5.mono ?_
  clear hcall5
  rintro e w6 ⟨rfl, hr6, hk6⟩
  have HR6 : Hid (Rr w6 gr (Fm.s5 T) _) := Lib.hid hr6
  have HB6 := Lib.hid (HB5.out.trans (lo_g hk6 HB5.out.size HLO.out))
  have HZ6 := Lib.hid ((hk6.block _ (heap_lt HZ5.out) HNE.out).trans HZ5.out)
  clear hr6 hk6
  obtain ⟨u0, u1, u2, u3⟩ := unit4 HZ6.out
  have y0 : w6.frozen? ⟨w.heap.size, 0, none⟩ = false := heap_frozen HZ6.out
  have y1 : w6.frozen? ⟨w.heap.size, 1, none⟩ = false := heap_frozen HZ6.out
  have y2 : w6.frozen? ⟨w.heap.size, 2, none⟩ = false := heap_frozen HZ6.out
  have y3 : w6.frozen? ⟨w.heap.size, 3, none⟩ = false := heap_frozen HZ6.out
  have hz : Z = 0 ∨ 0 < Z := by omega
  rcases hz with rfl | hz
  all_goals
    go_wp2_with fail
    refine (clone_any _ [] _ (fun _ => True) w6 (fun h => by cases h) (RdL.empty _ _ _) (by simp)).mono ?_
    rintro e w7 ⟨A7, C7, rfl, hc7, hn7, hr7, hb7⟩
    obtain ⟨v0, v1, v2, v3⟩ := unit4 ((hb7.block _ (heap_lt HZ6.out)).trans HZ6.out)
    have x0 : w7.frozen? ⟨w.heap.size, 0, none⟩ = false := heap_frozen ((hb7.block _ (heap_lt HZ6.out)).trans HZ6.out)
    have x1 : w7.frozen? ⟨w.heap.size, 1, none⟩ = false := heap_frozen ((hb7.block _ (heap_lt HZ6.out)).trans HZ6.out)
    have x2 : w7.frozen? ⟨w.heap.size, 2, none⟩ = false := heap_frozen ((hb7.block _ (heap_lt HZ6.out)).trans HZ6.out)
    have x3 : w7.frozen? ⟨w.heap.size, 3, none⟩ = false := heap_frozen ((hb7.block _ (heap_lt HZ6.out)).trans HZ6.out)
    have HB7 := Lib.hid (HB6.out.trans (hb7.mono HB6.out.size))
    have HR7 : Hid (RdL w7 A7 [] (w.heap.size < ·)) := Lib.hid (RdL.empty _ _ _)
    have HN7 := Lib.hid hn7
    clear hb7 hr7 hn7 u0 u1 u2 u3 y0 y1 y2 y3
    go_wp2
    rw [HZZ.out]
    exact bodyPost_ret (v := .agg #[.int .i64 (n0 : Int), .int .i64 l1, .int .i64 l2, .slice A7 0 C7]) (by simp [results, Tryd.results59, go_sem, v0, v1, v2, v3]) rfl (AnsU.stored (u := ⟨(n0 : Int), l1, l2, []⟩) rfl HR7.out rfl (Nat.zero_le _) HN7.out HB7.out)
theorem read_any (A : Option Addr) (b : Tx) (L C : Nat) (G : Nat → Prop) (w : World) (hL : L = b.length) (hC : L ≤ C) (hl : L ≤ 1000000) (hA : A = none → L = 0 ∧ C = 0) (hr : RdL w A b G) :
    Calls Tryd.prog 59 #[.slice A L C] w (AnsU (Fm.parse b) w) := by
  by_cases h0 : L = 0
  · subst h0; exact read_none A b C G w hL (fun h => ⟨hL.symm, (hA h).2⟩) hr
  · obtain ⟨g, off, rfl, _, _⟩ := hr (by omega)
    by_cases h11 : L < 11
    · by_cases hc : L = C
      · subst hc; exact read_all g off b L G w hL (by omega) h11 (fun h => by cases h) hr
      · exact read_few g off b L C G w hL (by omega) h11 (by omega) (fun h => by cases h) hr
    · obtain ⟨D, rfl⟩ : ∃ D, L = D + 11 := ⟨L - 11, by omega⟩
      obtain ⟨E, rfl⟩ : ∃ E, C = E + 11 := ⟨C - 11, by omega⟩
      exact read_long g off b D E G w hL (by omega) (by omega) hr
end Go.Proofs.YtndofmoepjfnfaaDoor
namespace Go.Proofs.YtndofmoepjfnfaaDoor
open Go.RowKit
open Pt (Tx)

theorem equal_any (A A' : Option Addr) (a b : Tx) (n m C C' : Nat) (G G' : Nat → Prop) (w : World) (hn : n = a.length) (hm : m = b.length) (hr : RdL w A a G) (hr' : RdL w A' b G') :
    Calls Tryd.prog 60 #[.slice A n C, .slice A' m C'] w fun e w' => e = .returned (.bool (a == b)) ∧ w = w' := by
  subst hn; subst hm
  have s1 := hr.str C
  have s2 := hr'.str C'
  have e1 := tx_toList a
  have e2 := tx_toList b
  clear hr hr'
  go_enter Tryd.func60, Tryd.ntmps60
  go_wp2
  go_ret
  exact ⟨rfl, rfl⟩
end Go.Proofs.YtndofmoepjfnfaaDoor
