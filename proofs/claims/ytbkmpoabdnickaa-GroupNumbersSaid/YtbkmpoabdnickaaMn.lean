/- A tape that lies in a block, or in a row of them. No function of the program. What a Reader of package code reads. -/
import Derived.Test.YtbkmpoabdnickaaMb
import Derived.Test.YtbkmpoabdnickaaChecked
import Derived.OwnWalk
import Derived.Handy
import Derived.WalkSpells
import Derived.WalkLawsBesides
import Derived.Test.YtbkmpoabdnickaaMk
import Derived.StillTailTactics
import Derived.Laws.BitsAllLaws
import Derived.Lib.SliceRun
namespace Go.Proofs.Ytbkmpoabdnickaa
open Go.RowKit

/-- a tape in a block -/
def tapeObj (lab cap : Int) (A : Option Addr) (n C : Nat) (lost : Bool) : Obj := .cells #[.int .i64 lab, .int .i64 cap, .slice A n C, .bool lost] 32
theorem tape4 {w : World} {g : Nat} {lab cap : Int} {A : Option Addr} {n C : Nat} {lost : Bool} (h : w.heap[g]? = some (tapeObj lab cap A n C lost)) :
    w.cell? ⟨g, 0, none⟩ = some (.int .i64 lab) ∧ w.cell? ⟨g, 1, none⟩ = some (.int .i64 cap) ∧ w.cell? ⟨g, 2, none⟩ = some (.slice A n C) ∧ w.cell? ⟨g, 3, none⟩ = some (.bool lost) := ⟨heap_cell h, heap_cell h, heap_cell h, heap_cell h⟩
theorem below_tape {lab cap : Int} {A : Option Addr} {n C : Nat} {lost : Bool} {B : Nat} {x y : World} (hb : Below x.heap.size x y) (h : x.heap[B]? = some (tapeObj lab cap A n C lost)) : y.heap[B]? = some (tapeObj lab cap A n C lost) :=
  (hb.block B (heap_lt h)).trans h
theorem tape_new (w : World) (lab cap : Int) (A : Option Addr) (n C : Nat) (lost : Bool) : Below w.heap.size w (w.alloc (tapeObj lab cap A n C lost)) ∧ (w.alloc (tapeObj lab cap A n C lost)).heap[w.heap.size]? = some (tapeObj lab cap A n C lost) :=
  ⟨(Below.refl _ _).alloc (Nat.le_refl _) _, Go.Deep.blk_alloc_new _ _⟩
end Go.Proofs.Ytbkmpoabdnickaa
namespace Go.Proofs.Ytbkmpoabdnickaa
open Go.RowKit
open Pt (Tx)

theorem or_byte (a c : Nat) (ha : a < 1099511627776) (hc : c < 256) : bits .or .i64 ((a : Int) * 256) (c : Int) = (a : Int) * 256 + (c : Int) := by
  show IntKind.i64.wrap ((BitVec.ofInt 64 ((a : Int) * 256) ||| BitVec.ofInt 64 (c : Int)).toNat : Int) = _
  have e1 : ((a : Int) * 256) = ((a * 256 : Nat) : Int) := by omega
  rw [e1, BitVec.ofInt_natCast, BitVec.ofInt_natCast, BitVec.toNat_or, BitVec.toNat_ofNat, BitVec.toNat_ofNat, Nat.mod_eq_of_lt (by omega), Nat.mod_eq_of_lt (by omega)]
  have h2 : a * 256 ||| c = a * 256 + c := by
    have := Nat.shiftLeft_add_eq_or_of_lt (i := 8) (b := c) (by omega) a
    rw [Nat.shiftLeft_eq, show (2 : Nat) ^ 8 = 256 from rfl] at this
    exact this.symm
  rw [h2, IntKind.wrap_i64]
  omega
theorem OwnL.lit0 (w : World) (base : Nat) (hb : base ≤ w.heap.size) : OwnL (w.alloc (.cells #[] 5)) base (.slice (some ⟨w.heap.size, 0, none⟩) 0 0) [] :=
  ⟨rfl, .inr ⟨w.heap.size, 0, #[], rfl, hb, Go.Deep.blk_alloc_new _ _, Nat.le_refl _, by decide, rfl, rfl⟩⟩
/-- bytes that are there now, in new memory -/
def AnsL (l : Tx) (w : World) (e : Ending) (w' : World) : Prop := ∃ A C, e = .returned (.slice A l.length C) ∧ l.length ≤ C ∧ (A = none → l.length = 0 ∧ C = 0) ∧ RdL w' A l (w.heap.size ≤ ·) ∧ Below w.heap.size w w'
theorem clone_any (A : Option Addr) (l : Tx) (c : Nat) (G : Nat → Prop) (w : World) (hA : A = none → l.length = 0 ∧ c = 0) (hr : RdL w A l G) (hl : l.length ≤ 1000000000) :
    Calls Try.prog 78 #[.slice A l.length c] w (AnsL l w) := by
  cases A with
  | none =>
    obtain ⟨h0, rfl⟩ := hA rfl
    have hl0 : l = [] := List.length_eq_zero_iff.1 h0
    subst hl0
    have hq := Lib.run_eql_slice_nil (P := Try.prog) w 25 5 none 0 0 0 0 Try.underlying25
    go_enter Try.func78, Try.ntmps78
    go_wp2
    go_ret
    exact ⟨none, 0, rfl, Nat.le_refl _, fun _ => ⟨rfl, rfl⟩, RdL.empty _ _ _, Below.refl _ _⟩
  | some a =>
    have hq := Lib.run_eql_slice_nil (P := Try.prog) w 25 5 (some a) l.length c 0 0 Try.underlying25
    go_enter Try.func78, Try.ntmps78
    go_wp2_with (at_builtin; refine wpList_append_bl _ rfl _ _ rfl w.heap.size _ [] rfl (OwnL.lit0 w _ (Nat.le_refl _)) (some a) l.length c l G rfl rfl (fun h => by cases h) (hr.old ((Below.refl _ _).alloc (Nat.le_refl _) _)) (by simp; omega) (by simp) ?_; intro v' w' hv hg; have HV := Lib.hid hv; have HG := Lib.hid hg; clear hv hg)
    go_ret
    have hv : OwnL w' w.heap.size v' l := HV.out
    obtain ⟨A', C', rfl, h1, -, h2, h3⟩ := hv.rd
    exact ⟨A', C', rfl, h1, h2, h3.mono (fun b h => h.1), ((Below.refl _ _).alloc (Nat.le_refl _) _).grown HG.out (by simp) (fun k h => by cases h; exact Nat.le_refl _)⟩
/-- a new Reader -/
def NewR (l : Tx) (w : World) (e : Ending) (w' : World) : Prop := ∃ g, e = .returned (.pointer (some ⟨g, 0, none⟩)) ∧ w.heap.size ≤ g ∧ Rr w' g (l, false) (fun b => w.heap.size ≤ b ∧ b < g) ∧ Below w.heap.size w w'
theorem newReader_any (A : Option Addr) (l : Tx) (c : Nat) (G : Nat → Prop) (w : World) (hA : A = none → l.length = 0 ∧ c = 0) (hr : RdL w A l G) (hl : l.length ≤ 1000000000) :
    Calls Try.prog 64 #[.slice A l.length c] w (NewR l w) := by
  go_enter Try.func64, Try.ntmps64
  go_wp2_with (go_at_call 78; refine (clone_any A l c G w hA hr hl).mono ?_; rintro e w' ⟨A', C', rfl, h1, h2, h3, h4⟩; have H2 := Lib.hid h2; clear h2)
  go_ret
  refine ⟨w'.heap.size, rfl, h4.size, ⟨⟨A', C', Go.Deep.blk_alloc_new _ _, h1, H2.out, ?_⟩, fun h => by have := h.2; omega⟩, h4.alloc h4.size _⟩
  exact (h3.in_.old ((Below.refl _ _).alloc (Nat.le_refl _) _)).mono fun b h => h
/-- a Reader whose slice is set -/
theorem Rr.set {w : World} {g : Nat} {v : Value} {bad : Bool} {G : Nat → Prop} (h1 : w.heap[g]? = some (.cells #[v, .bool bad] 129 (0, 0))) {A : Option Addr} {c m : Nat} {l : Tx} (hm : m = l.length) (hl : l.length ≤ c) (hA : A = none → l.length = 0 ∧ c = 0) (hr : RdL w A l G) (ng : ¬ G g) :
    Rr (w.setCell ⟨g, 0, none⟩ (.slice A m c)) g (l, bad) G := by
  subst hm
  refine ⟨⟨A, c, ?_, hl, hA, hr.kp (Kp.store w g 0 _) (fun b hb e => ng (e ▸ hb))⟩, ng⟩
  rw [heap_set h1]; simp
/-- what take answered, and left -/
def Took (n g : Nat) (s : Cd.St) (G : Nat → Prop) (w : World) (e : Ending) (w' : World) : Prop := ∃ A c, e = .returned (.slice A (Cd.tk n s).length c) ∧ RdL w' A (Cd.tk n s) G ∧ Rr w' g (Cd.af n s) G ∧ Kp (· = g) w w'
set_option maxRecDepth 100000 in
theorem take_any (g n : Nat) (s : Cd.St) (G : Nat → Prop) (w : World) (h : Rr w g s G) (hl : s.1.length ≤ 1000000000) (hn : n ≤ 1000) :
    Calls Try.prog 79 #[.pointer (some ⟨g, 0, none⟩), .int .i64 (n : Int)] w (Took n g s G w) := by
  obtain ⟨⟨A, c, h1, h2, h3, h4⟩, ng⟩ := h
  obtain ⟨l, bad⟩ := s
  simp only at h1 h2 h3 h4 hl
  have c0 : w.cell? ⟨g, 0, none⟩ = some (.slice A l.length c) := heap_cell h1
  have c1 : w.cell? ⟨g, 1, none⟩ = some (.bool bad) := heap_cell h1
  have f0 : w.frozen? ⟨g, 0, none⟩ = false := heap_frozen h1
  have f1 : w.frozen? ⟨g, 1, none⟩ = false := heap_frozen h1
  have H1 := Lib.hid h1
  have H3 := Lib.hid h3
  have H4 := Lib.hid h4
  clear h1 h3 h4
  by_cases hlt : l.length < n
  · go_enter Try.func79, Try.ntmps79
    go_wp2
    go_ret
    refine ⟨none, 0, by rw [Cd.tk_no hlt]; rfl, by rw [Cd.tk_no hlt]; exact RdL.empty _ _ _, ?_, (((Kp.refl (· = g) w).setCell (p := ⟨g, 0, none⟩) rfl _).setCell (p := ⟨g, 1, none⟩) rfl _)⟩
    rw [Cd.af_no hlt]
    refine ⟨⟨none, 0, ?_, Nat.le_refl _, fun _ => ⟨rfl, rfl⟩, RdL.empty _ _ _⟩, ng⟩
    rw [heap_set (heap_set H1.out _)]; simp
  · by_cases h0 : n = 0
    · subst h0
      go_enter Try.func79, Try.ntmps79
      go_wp2
      go_ret
      have ht : Cd.tk 0 (l, bad) = [] := by rw [Cd.tk_yes hlt]; rfl
      have ha : Cd.af 0 (l, bad) = (l, bad) := by rw [Cd.af_yes hlt]; rfl
      refine ⟨A, c, by rw [ht]; rfl, by rw [ht]; exact RdL.empty _ _ _, ?_, Kp.store w g 0 _⟩
      rw [ha]
      exact Rr.set H1.out rfl h2 H3.out H4.out ng
    · obtain ⟨b, off, rfl, hb, -⟩ := H4.out (by omega)
      have hmin : (l.take n).length = n := by simp; omega
      have ht : Cd.tk n (l, bad) = l.take n := Cd.tk_yes hlt
      have ha : Cd.af n (l, bad) = (l.drop n, bad) := Cd.af_yes hlt
      have HT := Lib.hid ht
      have HA := Lib.hid ha
      have HM := Lib.hid hmin
      clear ht ha hmin
      by_cases hc : c = n
      · subst hc
        have hll : c = l.length := by omega
        have HLL := Lib.hid hll
        clear hll
        have q1 : (c : Int) ≤ (l.length : Int) := by omega
        go_enter Try.func79, Try.ntmps79
        go_wp2
        go_ret
        have hd : (l.drop c).length = 0 := by have := HLL.out; simp; omega
        refine ⟨some ⟨b, off, none⟩, c, by rw [HT.out, HM.out]; rfl, by rw [HT.out]; exact (H4.out.take _).kp (Kp.store w g 0 _) (fun x hx e => ng (e ▸ hx)), ?_, Kp.store w g 0 _⟩
        rw [HA.out]
        exact Rr.set H1.out hd.symm (by omega) (fun h => by cases h) (fun h => by omega) ng
      · have q1 : n ≤ l.length := by omega
        have q2 : n ≤ c := by omega
        have q3 : ¬ n = c := fun h => hc h.symm
        go_enter Try.func79, Try.ntmps79
        go_wp2
        go_ret
        refine ⟨some ⟨b, off, none⟩, c, by rw [HT.out, HM.out]; rfl, by rw [HT.out]; exact (H4.out.take _).kp (Kp.store w g 0 _) (fun x hx e => ng (e ▸ hx)), ?_, Kp.store w g 0 _⟩
        rw [HA.out]
        exact Rr.set H1.out (by simp) (by simp; omega) (fun h => by cases h) (H4.out.drop n) ng
/-- the number -/
theorem take_num (l : Tx) (k : Nat) (h : k < l.length) : Cd.num (l.take (k + 1)) = Cd.num (l.take k) * 256 + (l[k].toNat : Int) := by
  rw [List.take_succ_eq_append_getElem h, Cd.num_snoc]
theorem num_small (l : Tx) (k : Nat) (hl : l.length ≤ 4) : 0 ≤ Cd.num (l.take k) ∧ Cd.num (l.take k) < 4294967296 := by
  refine ⟨Cd.num_lo _, ?_⟩
  have h := Cd.num_hi (l.take k)
  have h2 : (l.take k).length ≤ 4 := by simp; omega
  have h3 : (l.take k).length = 0 ∨ (l.take k).length = 1 ∨ (l.take k).length = 2 ∨ (l.take k).length = 3 ∨ (l.take k).length = 4 := by omega
  rcases h3 with e | e | e | e | e <;> rw [e] at h <;> simp only [Int.reducePow] at h <;> omega
set_option maxRecDepth 100000 in
theorem rint_any (g : Nat) (s : Cd.St) (G : Nat → Prop) (w : World) (h : Rr w g s G) (hl : s.1.length ≤ 1000000000) :
    Calls Try.prog 65 #[.pointer (some ⟨g, 0, none⟩)] w (Red (.int .i64 (Cd.num (Cd.tk 4 s))) g (Cd.af 4 s) G w) := by
  go_enter Try.func65, Try.ntmps65
  go_wp2_with (go_at_call 79; refine (take_any g 4 s G w h hl (by decide)).mono ?_; rintro e w1 ⟨A, c, rfl, hr, hR, hK⟩; have HR := Lib.hid hr; have HRR := Lib.hid hR; have HK := Lib.hid hK; clear hr hR hK)
  obtain ⟨t, ht⟩ : ∃ t, t = Cd.tk 4 s := ⟨_, rfl⟩
  have h4 : t.length ≤ 4 := by rw [ht]; exact Cd.tk_le 4 s
  rw [← ht] at HR ⊢
  have HT := Lib.hid ht
  clear ht
  go_loop [3, 9] (fun vn vi => ∃ k : Nat, k ≤ t.length ∧ vi = .int .i64 (k : Int) ∧ vn = .int .i64 (Cd.num (t.take k))) (fun _ vi => t.length - (intOf vi).toNat)
  case atStart => exact ⟨0, Nat.zero_le _, rfl, rfl⟩
  case round =>
    obtain ⟨k, hk, rfl, rfl⟩ := hrel
    by_cases hlt : k < t.length
    · obtain ⟨b, off, rfl, -, hc⟩ := HR.out.at_ hlt
      have hs := num_small t k h4
      obtain ⟨a, ha⟩ : ∃ a : Nat, Cd.num (t.take k) = (a : Int) := ⟨(Cd.num (t.take k)).toNat, by omega⟩
      have HN := Lib.hid (take_num t k hlt)
      rw [ha] at HN hs ⊢
      clear ha
      have ha' : a < 1099511627776 := by omega
      have hcl := t[k].toNat_lt
      have hor := or_byte a t[k].toNat ha' hcl
      clear ha'
      go_wp2
      go_round
      case rel => exact ⟨k + 1, by omega, by go_num, by rw [HN.out]⟩
      case measure => simp [intOf]; omega
    · go_wp2
      go_ret
      have e : t.take k = t := List.take_of_length_le (by omega)
      refine ⟨?_, HRR.out, HK.out⟩
      rw [← HT.out, e]; rfl
theorem byt_of {s : Cd.St} {t : Tx} (ht : t = Cd.tk 1 s) (h : t.length = 0) : Cd.byt s = 0 := by
  unfold Cd.byt; rw [← ht, List.length_eq_zero_iff.1 h]; rfl
theorem byt_at {s : Cd.St} {t : Tx} (ht : t = Cd.tk 1 s) (h : 0 < t.length) : Cd.byt s = t[0] := by
  unfold Cd.byt; rw [← ht]
  cases t with
  | nil => simp at h
  | cons c l => rfl
set_option maxRecDepth 100000 in
theorem rbyte_any (g : Nat) (s : Cd.St) (G : Nat → Prop) (w : World) (h : Rr w g s G) (hl : s.1.length ≤ 1000000000) :
    Calls Try.prog 66 #[.pointer (some ⟨g, 0, none⟩)] w (Red (.int .u8 ((Cd.byt s).toNat : Int)) g (Cd.af 1 s) G w) := by
  obtain ⟨t, ht⟩ : ∃ t, t = Cd.tk 1 s := ⟨_, rfl⟩
  have h1 : t.length ≤ 1 := by rw [ht]; exact Cd.tk_le 1 s
  have htake := take_any g 1 s G w h hl (by decide)
  unfold Took at htake
  rw [← ht] at htake
  have HT := Lib.hid ht
  clear ht
  by_cases h0 : t.length = 0
  · have q1 : ((t.length : Int) == 0) = true := by rw [h0]; rfl
    have HB := Lib.hid (byt_of HT.out h0)
    clear h0
    go_enter Try.func66, Try.ntmps66
    go_wp2_with (go_at_call 79; refine htake.mono ?_; rintro e w1 ⟨A, c, rfl, hr, hR, hK⟩; have HR := Lib.hid hr; have HRR := Lib.hid hR; have HK := Lib.hid hK; clear hr hR hK)
    go_ret
    refine ⟨?_, HRR.out, HK.out⟩
    rw [HB.out]; rfl
  · have q1 : ((t.length : Int) == 0) = false := beq_eq_false_iff_ne.2 (by omega)
    have hp : 0 < t.length := by omega
    have HB := Lib.hid (byt_at HT.out hp)
    have h0' : ¬ t.length = 0 := h0
    clear h0
    go_enter Try.func66, Try.ntmps66
    go_wp2_with (go_at_call 79; refine htake.mono ?_; rintro e w1 ⟨A, c, rfl, hr, hR, hK⟩; obtain ⟨b, off, rfl, -, hc⟩ := hr.at_ hp; rw [Nat.add_zero] at hc; have HRR := Lib.hid hR; have HK := Lib.hid hK; clear hr hR hK)
    go_ret
    refine ⟨?_, HRR.out, HK.out⟩
    rw [HB.out]; rfl
end Go.Proofs.Ytbkmpoabdnickaa
