/- The document's own Reader in memory. No function of the program. What the document's own Reader reads. What Bad of the document's own Reader answers. -/
import Derived.Test.YtcokmmanajdioaaGreatMak
import Derived.Test.YtcokmmanajdioaaGreatMar
namespace Go.Proofs.YtcokmmanajdioaaGreat
open Go.RowKit
open Pt (Tx)

/-- the document's own Reader -/
structure Rf (w : World) (g : Nat) (s : Cd.St) (G : Nat → Prop) : Prop where
  ex : ∃ A m c, w.heap[g]? = some (.cells #[.slice A m c, .bool s.2] 111 (0, 0)) ∧ m ≤ c ∧ m ≤ maxLen ∧ (A = none → m = 0 ∧ c = 0) ∧ (s.2 = false → m = s.1.length ∧ RdL w A s.1 G)
  ok : Cd.Ok s
  ng : ¬ G g
theorem Rf.lt {w : World} {g : Nat} {s : Cd.St} {G : Nat → Prop} (h : Rf w g s G) : g < w.heap.size := by
  obtain ⟨A, m, c, h1, _⟩ := h.ex; exact heap_lt h1
theorem Rf.kp {w w' : World} {g : Nat} {s : Cd.St} {G S : Nat → Prop} (h : Rf w g s G) (hk : Kp S w w') (hg : ¬ S g) (hs : ∀ b, G b → ¬ S b) : Rf w' g s G := by
  obtain ⟨⟨A, m, c, h1, h2, h0, h3, h5⟩, ho, hn⟩ := h
  exact ⟨⟨A, m, c, (hk.block g (heap_lt h1) hg).trans h1, h2, h0, h3, fun h => ⟨(h5 h).1, (h5 h).2.kp hk hs⟩⟩, ho, hn⟩
/-- .. what is read of it -/
def RefRed (v : Value) (g : Nat) (s : Cd.St) (G : Nat → Prop) (w : World) (e : Ending) (w' : World) : Prop := e = .returned v ∧ Rf w' g s G ∧ Kp (· = g) w w'
end Go.Proofs.YtcokmmanajdioaaGreat
namespace Go.Proofs.YtcokmmanajdioaaGreat
open Go.RowKit
open Pt (Tx)

/-- a new Reader of the document's own: of these very bytes -/
def NewF (l : Tx) (G : Nat → Prop) (w : World) (e : Ending) (w' : World) : Prop := e = .returned (.pointer (some ⟨w.heap.size, 0, none⟩)) ∧ Rf w' w.heap.size (l, false) G ∧ Below w.heap.size w w'
theorem refNewReader_any (A : Option Addr) (l : Tx) (c : Nat) (G : Nat → Prop) (w : World) (hA : A = none → l.length = 0 ∧ c = 0) (hc : l.length ≤ c) (hc' : l.length ≤ maxLen) (hr : RdL w A l G) (hg : ¬ G w.heap.size) :
    Calls Tryz.prog 43 #[.slice A l.length c] w (NewF l G w) := by
  have HA := Lib.hid hA
  clear hA
  go_enter Tryz.func43, Tryz.ntmps43
  go_wp2
  go_ret
  exact ⟨rfl, ⟨⟨A, l.length, c, Go.Deep.blk_alloc_new _ _, hc, hc', HA.out, fun _ => ⟨rfl, hr.old ((Below.refl _ _).alloc (Nat.le_refl _) _)⟩⟩, (fun h => by cases h), hg⟩, (Below.refl _ _).alloc (Nat.le_refl _) _⟩
theorem Rf.set {w : World} {g : Nat} {v : Value} {G : Nat → Prop} (h1 : w.heap[g]? = some (.cells #[v, .bool false] 111 (0, 0))) {A : Option Addr} {c m : Nat} {l : Tx} (hm : m = l.length) (hl : l.length ≤ c) (hc : l.length ≤ maxLen) (hA : A = none → l.length = 0 ∧ c = 0) (hr : RdL w A l G) (ng : ¬ G g) :
    Rf (w.setCell ⟨g, 0, none⟩ (.slice A m c)) g (l, false) G := by
  subst hm
  refine ⟨⟨A, l.length, c, ?_, hl, hc, hA, fun _ => ⟨rfl, hr.kp (Kp.store w g 0 _) (fun b hb e => ng (e ▸ hb))⟩⟩, (fun h => by cases h), ng⟩
  rw [heap_set h1]; simp
def RefTook (n g : Nat) (s : Cd.St) (G : Nat → Prop) (w : World) (e : Ending) (w' : World) : Prop := ∃ A c, e = .returned (.slice A (Cd.tk n s).length c) ∧ RdL w' A (Cd.tk n s) G ∧ Rf w' g (Cd.af n s) G ∧ Kp (· = g) w w'
/-- the same, and that what is nil has no room -/
def RefTookN (n g : Nat) (s : Cd.St) (G : Nat → Prop) (w : World) (e : Ending) (w' : World) : Prop := ∃ A c, e = .returned (.slice A (Cd.tk n s).length c) ∧ RdL w' A (Cd.tk n s) G ∧ Rf w' g (Cd.af n s) G ∧ Kp (· = g) w w' ∧ (A = none → (Cd.tk n s).length = 0 ∧ c = 0)
/-- nothing is left -/
theorem RefTookN.lost {n g : Nat} {s : Cd.St} {G : Nat → Prop} {w : World} {v : Value} {bad : Bool} (h1 : w.heap[g]? = some (.cells #[v, .bool bad] 111 (0, 0))) {A : Option Addr} {m c : Nat} (hv : v = .slice A m c) (hm : m ≤ c) (hc : m ≤ maxLen) (hA : A = none → m = 0 ∧ c = 0) (ng : ¬ G g) (ht : Cd.tk n s = []) (ha : Cd.af n s = ([], true)) :
    RefTookN n g s G w (.returned (.slice none 0 0)) (w.setCell ⟨g, 1, none⟩ (.bool true)) := by
  subst hv
  refine ⟨none, 0, by rw [ht]; rfl, by rw [ht]; exact RdL.empty _ _ _, ?_, Kp.store w g 1 _, fun _ => ⟨by rw [ht]; rfl, rfl⟩⟩
  rw [ha]
  refine ⟨⟨A, m, c, ?_, hm, hc, hA, (fun h => by cases h)⟩, fun _ => rfl, ng⟩
  rw [heap_set h1]; simp
set_option maxRecDepth 100000 in
theorem refTakeN_any (g n : Nat) (s : Cd.St) (G : Nat → Prop) (w : World) (h : Rf w g s G) (hn : n ≤ 1000) :
    Calls Tryz.prog 57 #[.pointer (some ⟨g, 0, none⟩), .int .i64 (n : Int)] w (RefTookN n g s G w) := by
  obtain ⟨⟨A, m, c, h1, h2, h5, h3, h4⟩, hok, ng⟩ := h
  obtain ⟨l, bad⟩ := s
  simp only at h1 h4
  have h5' := h5
  unfold maxLen at h5'
  have c0 : w.cell? ⟨g, 0, none⟩ = some (.slice A m c) := heap_cell h1
  have c1 : w.cell? ⟨g, 1, none⟩ = some (.bool bad) := heap_cell h1
  have f0 : w.frozen? ⟨g, 0, none⟩ = false := heap_frozen h1
  have f1 : w.frozen? ⟨g, 1, none⟩ = false := heap_frozen h1
  have H1 := Lib.hid h1
  have H3 := Lib.hid h3
  have H4 := Lib.hid h4
  have H5 := Lib.hid h5
  clear h1 h3 h4 h5
  cases bad with
  | true =>
    have hl0 : l = [] := hok rfl
    have ht : Cd.tk n (l, true) = [] := by rw [hl0]; unfold Cd.tk; split <;> simp
    have ha : Cd.af n (l, true) = ([], true) := by rw [hl0]; unfold Cd.af; split <;> simp
    have HT := Lib.hid ht
    have HA := Lib.hid ha
    clear hl0 ht ha
    go_enter Tryz.func57, Tryz.ntmps57
    go_wp2
    go_ret
    exact RefTookN.lost H1.out rfl h2 H5.out H3.out ng HT.out HA.out
  | false =>
    obtain ⟨rfl, h4⟩ := H4.out rfl
    have H4' := Lib.hid h4
    clear h4
    by_cases hlt : l.length < n
    · have q1 : decide (l.length < n) = true := decide_eq_true hlt
      go_enter Tryz.func57, Tryz.ntmps57
      go_wp2
      go_ret
      exact RefTookN.lost H1.out rfl h2 H5.out H3.out ng (Cd.tk_no hlt) (Cd.af_no hlt)
    · have q0 : decide (l.length < n) = false := decide_eq_false hlt
      by_cases h0 : n = 0
      · subst h0
        have q2 : decide ((l.length : Int) < 0) = false := decide_eq_false (by omega)
        go_enter Tryz.func57, Tryz.ntmps57
        go_wp2
        go_ret
        have ht : Cd.tk 0 (l, false) = [] := by rw [Cd.tk_yes hlt]; rfl
        have ha : Cd.af 0 (l, false) = (l, false) := by rw [Cd.af_yes hlt]; rfl
        refine ⟨A, c, by rw [ht]; rfl, by rw [ht]; exact RdL.empty _ _ _, ?_, Kp.store w g 0 _, fun h => ⟨by rw [ht]; rfl, (H3.out h).2⟩⟩
        rw [ha]
        exact Rf.set H1.out rfl h2 H5.out H3.out H4'.out ng
      · obtain ⟨b, off, rfl, hb, -⟩ := H4'.out (by omega)
        have hmin : (l.take n).length = n := by simp; omega
        have ht : Cd.tk n (l, false) = l.take n := Cd.tk_yes hlt
        have ha : Cd.af n (l, false) = (l.drop n, false) := Cd.af_yes hlt
        have HT := Lib.hid ht
        have HA := Lib.hid ha
        have HM := Lib.hid hmin
        clear ht ha hmin
        by_cases hc : c = n
        · subst hc
          have hll : c = l.length := by omega
          have HLL := Lib.hid hll
          clear hll
          have q1 : (c : Int) ≤ (l.length : Int) := by omega
          go_enter Tryz.func57, Tryz.ntmps57
          go_wp2
          go_ret
          have hd : (l.drop c).length = 0 := by have := HLL.out; simp; omega
          refine ⟨some ⟨b, off, none⟩, c, by rw [HT.out, HM.out]; rfl, by rw [HT.out]; exact (H4'.out.take _).kp (Kp.store w g 0 _) (fun x hx e => ng (e ▸ hx)), ?_, Kp.store w g 0 _, fun h => by cases h⟩
          rw [HA.out]
          exact Rf.set H1.out hd.symm (by omega) (by rw [hd]; decide) (fun h => by cases h) (fun h => by omega) ng
        · have q1 : n ≤ l.length := by omega
          have q2 : n ≤ c := by omega
          have q3 : ¬ n = c := fun h => hc h.symm
          go_enter Tryz.func57, Tryz.ntmps57
          go_wp2
          go_ret
          refine ⟨some ⟨b, off, none⟩, c, by rw [HT.out, HM.out]; rfl, by rw [HT.out]; exact (H4'.out.take _).kp (Kp.store w g 0 _) (fun x hx e => ng (e ▸ hx)), ?_, Kp.store w g 0 _, fun h => by cases h⟩
          rw [HA.out]
          exact Rf.set H1.out (by simp) (by simp; omega) (by rw [List.length_drop]; exact Nat.le_trans (Nat.sub_le _ _) H5.out) (fun h => by cases h) (H4'.out.drop n) ng
theorem refTake_any (g n : Nat) (s : Cd.St) (G : Nat → Prop) (w : World) (h : Rf w g s G) (hn : n ≤ 1000) :
    Calls Tryz.prog 57 #[.pointer (some ⟨g, 0, none⟩), .int .i64 (n : Int)] w (RefTook n g s G w) :=
  (refTakeN_any g n s G w h hn).mono fun _ _ ⟨A, c, h1, h2, h3, h4, _⟩ => ⟨A, c, h1, h2, h3, h4⟩
set_option maxRecDepth 100000 in
theorem refInt_any (g : Nat) (s : Cd.St) (G : Nat → Prop) (w : World) (h : Rf w g s G) :
    Calls Tryz.prog 44 #[.pointer (some ⟨g, 0, none⟩)] w (RefRed (.int .i64 (Cd.num (Cd.tk 4 s))) g (Cd.af 4 s) G w) := by
  go_enter Tryz.func44, Tryz.ntmps44
  go_wp2_with (go_at_call 57; refine (refTake_any g 4 s G w h (by decide)).mono ?_; rintro e w1 ⟨A, c, rfl, hr, hR, hK⟩; have HR := Lib.hid hr; have HRR := Lib.hid hR; have HK := Lib.hid hK; clear hr hR hK)
  obtain ⟨t, ht⟩ : ∃ t, t = Cd.tk 4 s := ⟨_, rfl⟩
  have h4 : t.length ≤ 4 := by rw [ht]; exact Cd.tk_le 4 s
  rw [← ht] at HR ⊢
  have HT := Lib.hid ht
  clear ht
  go_loop [4, 5] (fun vn vi => ∃ k : Nat, k ≤ t.length ∧ vi = .int .i64 (k : Int) ∧ vn = .int .i64 (Cd.num (t.take k))) (fun _ vi => t.length - (intOf vi).toNat)
  case atStart => exact ⟨0, Nat.zero_le _, rfl, rfl⟩
  case round =>
    obtain ⟨k, hk, rfl, rfl⟩ := hrel
    by_cases hlt : k < t.length
    · obtain ⟨b, off, rfl, -, hc⟩ := HR.out.at_ hlt
      have hs := num_small t k h4
      obtain ⟨a, ha⟩ : ∃ a : Nat, Cd.num (t.take k) = (a : Int) := ⟨(Cd.num (t.take k)).toNat, by omega⟩
      have HN := Lib.hid (take_num t k hlt)
      rw [ha] at HN hs ⊢
      clear ha
      have ha' : a < 1099511627776 := by omega
      have hcl := t[k].toNat_lt
      have hor := or_byte a t[k].toNat ha' hcl
      clear ha'
      go_wp2
      go_round
      case rel => exact ⟨k + 1, by omega, by go_num, by rw [HN.out]⟩
      case measure => simp [intOf]; omega
    · go_wp2
      go_ret
      have e : t.take k = t := List.take_of_length_le (by omega)
      refine ⟨?_, HRR.out, HK.out⟩
      rw [← HT.out, e]; rfl
set_option maxRecDepth 100000 in
theorem refByte_any (g : Nat) (s : Cd.St) (G : Nat → Prop) (w : World) (h : Rf w g s G) :
    Calls Tryz.prog 45 #[.pointer (some ⟨g, 0, none⟩)] w (RefRed (.int .u8 ((Cd.byt s).toNat : Int)) g (Cd.af 1 s) G w) := by
  obtain ⟨t, ht⟩ : ∃ t, t = Cd.tk 1 s := ⟨_, rfl⟩
  have h1 : t.length ≤ 1 := by rw [ht]; exact Cd.tk_le 1 s
  have htake := refTake_any g 1 s G w h (by decide)
  unfold RefTook at htake
  rw [← ht] at htake
  have HT := Lib.hid ht
  clear ht
  by_cases h0 : t.length = 0
  · have q1 : ((t.length : Int) == 0) = true := by rw [h0]; rfl
    have HB := Lib.hid (byt_of HT.out h0)
    clear h0
    go_enter Tryz.func45, Tryz.ntmps45
    go_wp2_with (go_at_call 57; refine htake.mono ?_; rintro e w1 ⟨A, c, rfl, hr, hR, hK⟩; have HR := Lib.hid hr; have HRR := Lib.hid hR; have HK := Lib.hid hK; clear hr hR hK)
    go_ret
    refine ⟨?_, HRR.out, HK.out⟩
    rw [HB.out]; rfl
  · have q1 : ((t.length : Int) == 0) = false := beq_eq_false_iff_ne.2 (by omega)
    have hp : 0 < t.length := by omega
    have HB := Lib.hid (byt_at HT.out hp)
    have h0' : ¬ t.length = 0 := h0
    clear h0
    go_enter Tryz.func45, Tryz.ntmps45
    go_wp2_with (go_at_call 57; refine htake.mono ?_; rintro e w1 ⟨A, c, rfl, hr, hR, hK⟩; obtain ⟨b, off, rfl, -, hc⟩ := hr.at_ hp; rw [Nat.add_zero] at hc; have HRR := Lib.hid hR; have HK := Lib.hid hK; clear hr hR hK)
    go_ret
    refine ⟨?_, HRR.out, HK.out⟩
    rw [HB.out]; rfl
theorem refLeft_any (g : Nat) (s : Cd.St) (G : Nat → Prop) (w : World) (h : Rf w g s G) :
    Calls Tryz.prog 46 #[.pointer (some ⟨g, 0, none⟩)] w fun e w' => e = .returned (.int .i64 (s.1.length : Int)) ∧ w = w' := by
  obtain ⟨⟨A, m, c, h1, -, -, -, h4⟩, hok, ng⟩ := h
  obtain ⟨l, bad⟩ := s
  have c0 : w.cell? ⟨g, 0, none⟩ = some (.slice A m c) := heap_cell h1
  have c1 : w.cell? ⟨g, 1, none⟩ = some (.bool bad) := heap_cell h1
  clear h1
  cases bad with
  | true =>
    have hl0 : l = [] := hok rfl
    subst hl0
    clear h4
    go_enter Tryz.func46, Tryz.ntmps46
    go_wp2
    go_ret
    exact ⟨rfl, rfl⟩
  | false =>
    obtain ⟨rfl, -⟩ := h4 rfl
    go_enter Tryz.func46, Tryz.ntmps46
    go_wp2
    go_ret
    exact ⟨rfl, rfl⟩
end Go.Proofs.YtcokmmanajdioaaGreat
namespace Go.Proofs.YtcokmmanajdioaaGreat
open Go.RowKit
open Pt (Tx)

theorem refBad_any (g : Nat) (s : Cd.St) (G : Nat → Prop) (w : World) (h : Rf w g s G) :
    Calls Tryz.prog 56 #[.pointer (some ⟨g, 0, none⟩)] w fun e w' => e = .returned (.bool s.2) ∧ w = w' := by
  obtain ⟨⟨A, m, c, h1, -, -, -, -⟩, hok, ng⟩ := h
  have c1 : w.cell? ⟨g, 1, none⟩ = some (.bool s.2) := heap_cell h1
  clear h1 hok
  go_enter Tryz.func56, Tryz.ntmps56
  go_wp2
  go_ret
  exact ⟨rfl, rfl⟩
end Go.Proofs.YtcokmmanajdioaaGreat
