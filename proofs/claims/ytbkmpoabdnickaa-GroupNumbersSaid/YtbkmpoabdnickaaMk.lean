/- What slices.Index, slices.Contains, rightLabels and RightSeal of package record answer. A Writer and a Reader of package code in memory, and those of the document's own. No function of the program. What a Writer of package code writes. Bytes that a call answers, in new memory. A byte of a number, written; bytes in new memory, their block known. -/
import Derived.Test.YtbkmpoabdnickaaMj
import Derived.Test.YtbkmpoabdnickaaMc
import Derived.Test.YtbkmpoabdnickaaMd
import Derived.Test.YtbkmpoabdnickaaChecked
import Derived.OwnWalk
import Derived.Handy
import Derived.Laws.CopyOwn
import Derived.WalkSpells
import Derived.WalkLawsBesides
import Derived.StillTailTactics
namespace Go.Proofs.Ytbkmpoabdnickaa
open Go.RowKit
open Pt (Tx)

theorem mem_take_step {l : List Int} {k : Nat} (h : k < l.length) (x : Int) : x ∈ l.take (k + 1) ↔ x ∈ l.take k ∨ x = l[k] := by
  rw [List.take_succ_eq_append_getElem h, List.mem_append, List.mem_singleton]
/-- a place is told, or that there is none -/
def Found (b : Bool) (w : World) (e : Ending) (w' : World) : Prop := (∃ k : Int, e = .returned (.int .i64 k) ∧ decide (0 ≤ k) = b) ∧ w = w'
theorem index_any (A : Option Addr) (l : List Int) (n C : Nat) (x : Int) (G : Nat → Prop) (w : World) (hn : n = l.length) (hl : n ≤ maxLen) (hr : RdZ w A l G) :
    Calls Try.prog 45 #[.slice A n C, .int .i64 x] w (Found (decide (x ∈ l)) w) := by
  unfold maxLen at hl
  have HR := Lib.hid hr
  have HN := Lib.hid hn
  clear hr hn
  go_enter Try.func45, Try.ntmps45
  go_wp2
  go_loop [5, 8] (fun vs vi => ∃ k : Nat, k ≤ n ∧ vi = .int .i64 (k : Int) ∧ Hid (x ∉ l.take k)) (fun vs vi => n - (intOf vi).toNat)
  case atStart => exact ⟨0, Nat.zero_le _, rfl, Lib.hid (by simp)⟩
  case round =>
    obtain ⟨k, hk, rfl, HM⟩ := hrel
    by_cases hlt : k < n
    · have hlt' : k < l.length := by rw [← HN.out]; exact hlt
      obtain ⟨b, off, rfl, -, hc⟩ := HR.out.at_ hlt'
      have HS := Lib.hid (mem_take_step hlt' x)
      obtain ⟨y, hy⟩ : ∃ y, y = l[k] := ⟨_, rfl⟩
      rw [← hy] at hc HS
      have HY := Lib.hid (hy ▸ List.getElem_mem hlt')
      clear hy
      by_cases e : x = y
      · have q : (x == y) = true := beq_iff_eq.2 e
        have HX : Hid (x ∈ l) := Lib.hid (by rw [e]; exact HY.out)
        clear e
        go_wp2
        go_ret
        exact ⟨⟨(k : Int), rfl, by rw [decide_eq_true HX.out]; simp⟩, rfl⟩
      · have q : (x == y) = false := beq_eq_false_iff_ne.2 e
        have HX : Hid (x ∉ l.take (k + 1)) := Lib.hid fun h => (HS.out.1 h).elim HM.out e
        clear e
        go_wp2
        go_round
        case rel => exact ⟨k + 1, by omega, by go_num, HX⟩
        case measure => simp [intOf]; omega
    · have HX : Hid (x ∉ l) := Lib.hid (by have := HM.out; rwa [List.take_of_length_le (by rw [← HN.out]; omega)] at this)
      go_wp2
      go_ret
      exact ⟨⟨-1, rfl, by rw [decide_eq_false HX.out]; rfl⟩, rfl⟩
theorem contains_any (A : Option Addr) (l : List Int) (n C : Nat) (x : Int) (G : Nat → Prop) (w : World) (hn : n = l.length) (hl : n ≤ maxLen) (hr : RdZ w A l G) :
    Calls Try.prog 25 #[.slice A n C, .int .i64 x] w fun e w' => e = .returned (.bool (decide (x ∈ l))) ∧ w = w' := by
  have h := index_any A l n C x G w hn hl hr
  obtain ⟨d, hd⟩ : ∃ d, d = decide (x ∈ l) := ⟨_, rfl⟩
  rw [← hd] at h ⊢
  have H := Lib.hid h
  clear h hd hr hn hl
  go_enter Try.func25, Try.ntmps25
  go_wp2_with fail
  refine H.out.mono ?_
  rintro e w' ⟨⟨k, rfl, hk⟩, hw'⟩
  subst hw'
  go_wp2
  go_ret
  first | exact ⟨rfl, rfl⟩ | exact ⟨by rw [← hk]; rfl, rfl⟩
set_option maxHeartbeats 1000000 in
theorem labels_any (A : Option Addr) (l : List Int) (n C : Nat) (G : Nat → Prop) (w : World) (hn : n = l.length) (hl : n ≤ maxLen) (hC : n ≤ C) (hr : RdZ w A l G) :
    Calls Try.prog 49 #[.slice A n C] w fun e w' => e = .returned (.bool (decide (Rc.Labs l))) ∧ w = w' := by
  have HM := Lib.hid hl
  unfold maxLen at hl
  have HR := Lib.hid hr
  have HN := Lib.hid hn
  clear hr hn
  go_enter Try.func49, Try.ntmps49
  go_wp2
  go_loop [3, 4, 7] (fun va vb vi => ∃ k : Nat, k ≤ n ∧ vi = .int .i64 (k : Int) ∧ Hid (Rc.Labs (l.take k))) (fun va vb vi => n - (intOf vi).toNat)
  case atStart => exact ⟨0, Nat.zero_le _, rfl, Lib.hid Rc.Labs.nil⟩
  case round =>
    obtain ⟨k, hk, rfl, HK⟩ := hrel
    by_cases hlt : k < n
    · have hlt' : k < l.length := by rw [← HN.out]; exact hlt
      obtain ⟨b, off, rfl, -, hc⟩ := HR.out.at_ hlt'
      have HY := Lib.hid (Rc.labs_take hlt')
      have HZ : Hid (¬ ((1 ≤ l[k] ∧ l[k] ≤ 2147483647) ∧ l[k] ∉ l.take k) → decide (Rc.Labs l) = false) := Lib.hid fun h => decide_eq_false (Rc.labs_step_no hlt' h)
      have hlen : k = (l.take k).length := by rw [List.length_take]; omega
      have HT := Lib.hid (HR.out.take k)
      have HL := Lib.hid hlen
      obtain ⟨y, hy⟩ : ∃ y, y = l[k] := ⟨_, rfl⟩
      rw [← hy] at hc HY HZ
      clear hy hlen
      have hkc : (k : Int) ≤ (C : Int) := by omega
      cases q1 : btw y 1 2147483647 with
      | false =>
        have HF := Lib.hid (HZ.out fun h => by have := btw_no q1; omega)
        go_wp2_with (go_at_call 48; refine (between_any _ _ _ _).mono ?_; rintro e w' ⟨rfl, hw'⟩; subst hw')
        go_ret
        exact ⟨by rw [HF.out]; rfl, rfl⟩
      | true =>
        cases q2 : decide (y ∈ l.take k) with
        | true =>
          have HF := Lib.hid (HZ.out fun h => h.2 (of_decide_eq_true q2))
          have hcall := contains_any (some ⟨b, off, none⟩) (l.take k) k C y G w HL.out (by have := HM.out; omega) HT.out
          rw [q2] at hcall
          have HC := Lib.hid hcall
          clear hcall
          go_wp2_with (first
            | (go_at_call 48; refine (between_any _ _ _ _).mono ?_; rintro e w' ⟨rfl, hw'⟩; subst hw')
            | (go_at_call 25; refine HC.out.mono ?_; rintro e w' ⟨rfl, hw'⟩; subst hw'))
          go_ret
          exact ⟨by rw [HF.out]; rfl, rfl⟩
        | false =>
          have HX := Lib.hid (HY.out.2 ⟨HK.out, btw_yes q1, of_decide_eq_false q2⟩)
          have hcall := contains_any (some ⟨b, off, none⟩) (l.take k) k C y G w HL.out (by have := HM.out; omega) HT.out
          rw [q2] at hcall
          have HC := Lib.hid hcall
          clear hcall
          go_wp2_with (first
            | (go_at_call 48; refine (between_any _ _ _ _).mono ?_; rintro e w' ⟨rfl, hw'⟩; subst hw')
            | (go_at_call 25; refine HC.out.mono ?_; rintro e w' ⟨rfl, hw'⟩; subst hw'))
          go_round
          case rel => exact ⟨k + 1, by omega, by go_num, HX⟩
          case measure => simp [intOf]; omega
    · have HX : Hid (decide (Rc.Labs l) = true) := Lib.hid (decide_eq_true (by have := HK.out; rwa [List.take_of_length_le (by rw [← HN.out]; omega)] at this))
      go_wp2
      go_ret
      exact ⟨by rw [HX.out]; rfl, rfl⟩
/-- which seals are right, as RightSeal asks -/
def sealB (n x d p : Int) (m : Nat) (lb : Bool) : Bool :=
  btw n 1 1073741824 && (btw d 1 14 && (btw p 1 (14 - d) && (btw x 0 (d + p - 1) && (((m : Int) == d + p) && lb))))
theorem sealB_ok (n x d p : Int) (l : List Int) : sealB n x d p l.length (decide (Rc.Labs l)) = decide (Rc.SOk ⟨n, x, d, p, l⟩) := by
  rw [Bool.eq_iff_iff, decide_eq_true_eq]
  unfold sealB btw Rc.SOk Rc.SNums
  simp only [Bool.and_eq_true, decide_eq_true_eq, beq_iff_eq]
  constructor
  · rintro ⟨⟨h1, h2⟩, ⟨h3, h4⟩, ⟨h5, h6⟩, ⟨h7, h8⟩, h9, h10⟩
    exact ⟨⟨⟨h1, h2⟩, h3, h5, by omega, h9, h7, by omega⟩, h10⟩
  · rintro ⟨⟨⟨h1, h2⟩, h3, h5, h4, h9, h7, h8⟩, h10⟩
    exact ⟨⟨h1, h2⟩, ⟨h3, by omega⟩, ⟨h5, by omega⟩, ⟨h7, by omega⟩, h9, h10⟩
set_option maxHeartbeats 4000000 in
theorem rightSeal_way (n x d p : Int) (A : Option Addr) (l : List Int) (m C : Nat) (G : Nat → Prop) (w : World) (hm : m = l.length) (hC : m ≤ C) (hCm : C ≤ maxLen) (hr : RdZ w A l G) :
    Calls Try.prog 30 #[.agg #[.int .i64 n, .int .i64 x, .int .i64 d, .int .i64 p, .slice A m C]] w (AnsB (sealB n x d p m (decide (Rc.Labs l))) w) := by
  have HB0 : Hid (Below w.heap.size w (w.alloc (sealObj n x d p A m C))) := Lib.hid ((Below.refl _ _).alloc (Nat.le_refl _) _)
  have HU0 : Hid ((w.alloc (sealObj n x d p A m C)).heap[w.heap.size]? = some (sealObj n x d p A m C)) := Lib.hid (Go.Deep.blk_alloc_new _ _)
  have HL := Lib.hid (labels_any A l m C G (w.alloc (sealObj n x d p A m C)) hm (by omega) hC (hr.old HB0.out))
  clear hm hC hCm hr
  obtain ⟨a0, a1, a2, a3, a4⟩ := seal5 HU0.out
  unfold sealObj at a0 a1 a2 a3 a4 HL HB0
  cases q1 : btw n 1 1073741824 with
  | false =>
    have H : Hid (sealB n x d p m (decide (Rc.Labs l)) = false) := Lib.hid (by unfold sealB; rw [q1]; rfl)
    go_enter Try.func30, Try.ntmps30
    go_wp2_with (first
      | (go_at_call 48; refine (between_any _ _ _ _).mono ?_; rintro e w' ⟨rfl, hw'⟩; subst hw')
      | (go_at_call 49; refine HL.out.mono ?_; rintro e w' ⟨rfl, hw'⟩; subst hw'))
    go_ret
    rw [H.out]
    exact ⟨rfl, HB0.out⟩
  | true =>
    cases q2 : btw d 1 14 with
    | false =>
      have H : Hid (sealB n x d p m (decide (Rc.Labs l)) = false) := Lib.hid (by unfold sealB; rw [q1, q2]; rfl)
      go_enter Try.func30, Try.ntmps30
      go_wp2_with (first
        | (go_at_call 48; refine (between_any _ _ _ _).mono ?_; rintro e w' ⟨rfl, hw'⟩; subst hw')
        | (go_at_call 49; refine HL.out.mono ?_; rintro e w' ⟨rfl, hw'⟩; subst hw'))
      go_ret
      rw [H.out]
      exact ⟨rfl, HB0.out⟩
    | true =>
      have hd0 : 1 ≤ d := (btw_yes q2).1
      have hd1 : d ≤ 14 := (btw_yes q2).2
      cases q3 : btw p 1 (14 - d) with
      | false =>
        have H : Hid (sealB n x d p m (decide (Rc.Labs l)) = false) := Lib.hid (by unfold sealB; rw [q1, q2, q3]; rfl)
        go_enter Try.func30, Try.ntmps30
        go_wp2_with (first
          | (go_at_call 48; refine (between_any _ _ _ _).mono ?_; rintro e w' ⟨rfl, hw'⟩; subst hw')
          | (go_at_call 49; refine HL.out.mono ?_; rintro e w' ⟨rfl, hw'⟩; subst hw'))
        go_ret
        rw [H.out]
        exact ⟨rfl, HB0.out⟩
      | true =>
        have hp0 : 1 ≤ p := (btw_yes q3).1
        have hp1 : p ≤ 14 - d := (btw_yes q3).2
        cases q4 : btw x 0 (d + p - 1) with
        | false =>
          have H : Hid (sealB n x d p m (decide (Rc.Labs l)) = false) := Lib.hid (by unfold sealB; rw [q1, q2, q3, q4]; rfl)
          go_enter Try.func30, Try.ntmps30
          go_wp2_with (first
            | (go_at_call 48; refine (between_any _ _ _ _).mono ?_; rintro e w' ⟨rfl, hw'⟩; subst hw')
            | (go_at_call 49; refine HL.out.mono ?_; rintro e w' ⟨rfl, hw'⟩; subst hw'))
          go_ret
          rw [H.out]
          exact ⟨rfl, HB0.out⟩
        | true =>
          cases q5 : ((m : Int) == d + p) with
          | false =>
            have H : Hid (sealB n x d p m (decide (Rc.Labs l)) = false) := Lib.hid (by unfold sealB; rw [q1, q2, q3, q4, q5]; rfl)
            go_enter Try.func30, Try.ntmps30
            go_wp2_with (first
              | (go_at_call 48; refine (between_any _ _ _ _).mono ?_; rintro e w' ⟨rfl, hw'⟩; subst hw')
              | (go_at_call 49; refine HL.out.mono ?_; rintro e w' ⟨rfl, hw'⟩; subst hw'))
            go_ret
            rw [H.out]
            exact ⟨rfl, HB0.out⟩
          | true =>
            have H : Hid (sealB n x d p m (decide (Rc.Labs l)) = decide (Rc.Labs l)) := Lib.hid (by unfold sealB; rw [q1, q2, q3, q4, q5]; rfl)
            go_enter Try.func30, Try.ntmps30
            go_wp2_with (first
              | (go_at_call 48; refine (between_any _ _ _ _).mono ?_; rintro e w' ⟨rfl, hw'⟩; subst hw')
              | (go_at_call 49; refine HL.out.mono ?_; rintro e w' ⟨rfl, hw'⟩; subst hw'))
            go_ret
            rw [H.out]
            exact ⟨rfl, HB0.out⟩
theorem rightSeal_any (n x d p : Int) (A : Option Addr) (l : List Int) (m C : Nat) (G : Nat → Prop) (w : World) (hm : m = l.length) (hC : m ≤ C) (hCm : C ≤ maxLen) (hr : RdZ w A l G) :
    Calls Try.prog 30 #[.agg #[.int .i64 n, .int .i64 x, .int .i64 d, .int .i64 p, .slice A m C]] w (AnsB (decide (Rc.SOk ⟨n, x, d, p, l⟩)) w) := by
  have h := rightSeal_way n x d p A l m C G w hm hC hCm hr
  rw [hm, sealB_ok, ← hm] at h
  exact h
end Go.Proofs.Ytbkmpoabdnickaa
namespace Go.Proofs.Ytbkmpoabdnickaa
open Go.RowKit
open Pt (Tx)

/-- pieces, each behind the next one -/
def Chain (w : World) : Option Addr → List Tx → Prop
  | P, [] => P = none
  | P, s :: ss => ∃ p P', P = some ⟨p, 0, none⟩ ∧ w.heap[p]? = some (.cells #[.pointer P', .string (tx s)] 126 (0, 0)) ∧ 0 < s.length ∧ Chain w P' ss
/-- all that pieces hold -/
def flat : List Tx → Tx
  | [] => []
  | s :: ss => flat ss ++ s
theorem Chain.keep {w w' : World} (hk : ∀ (k : Nat) (c : Array Value), w.heap[k]? = some (.cells c 126 (0, 0)) → w'.heap[k]? = w.heap[k]?) : ∀ (ss : List Tx) (P : Option Addr), Chain w P ss → Chain w' P ss
  | [], _, h => h
  | _ :: ss, _, ⟨p, P', h1, h2, h3, h4⟩ => ⟨p, P', h1, (hk p _ h2).trans h2, h3, Chain.keep hk ss P' h4⟩
/-- a Writer at block g that holds l -/
def Wr (w : World) (g : Nat) (l : Tx) : Prop :=
  ∃ P ss, w.heap[g]? = some (.cells #[.pointer P, .int .i64 (l.length : Int)] 108 (0, 0)) ∧ Chain w P ss ∧ l = flat ss
theorem Chain.kp {w w' : World} {S : Nat → Prop} {P : Option Addr} {ss : List Tx} (h : Chain w P ss) (hk : Kp S w w') (hs : ∀ (k : Nat) (c : Array Value), S k → w.heap[k]? ≠ some (.cells c 126 (0, 0))) : Chain w' P ss :=
  Chain.keep (fun k c hc => hk.block k (heap_lt hc) fun h => hs k c h hc) ss P h
theorem Wr.kp {w w' : World} {S : Nat → Prop} {g : Nat} {l : Tx} (h : Wr w g l) (hk : Kp S w w') (hg : ¬ S g) (hs : ∀ (k : Nat) (c : Array Value), S k → w.heap[k]? ≠ some (.cells c 126 (0, 0))) : Wr w' g l := by
  obtain ⟨P, ss, h1, h2, h3⟩ := h
  exact ⟨P, ss, (hk.block g (heap_lt h1) hg).trans h1, h2.kp hk hs, h3⟩
theorem Wr.old {w w' : World} {g : Nat} {l : Tx} (h : Wr w g l) (hb : Below w.heap.size w w') : Wr w' g l :=
  h.kp (S := fun _ => False) (Kp.of_below hb) (fun h => h) (fun _ _ h => h.elim)
theorem Wr.lt {w : World} {g : Nat} {l : Tx} (h : Wr w g l) : g < w.heap.size := by
  obtain ⟨P, ss, h1, _⟩ := h; exact heap_lt h1
/-- a call has written: the Writer at g holds l now, and of what was there g alone has turned -/
def Wrote (g : Nat) (l : Tx) (w : World) (e : Ending) (w' : World) : Prop := e = .returned (.tuple #[]) ∧ Wr w' g l ∧ Kp (· = g) w w'
/-- a Reader at block g with s left; its bytes lie in blocks of G -/
structure Rr (w : World) (g : Nat) (s : Cd.St) (G : Nat → Prop) : Prop where
  ex : ∃ A c, w.heap[g]? = some (.cells #[.slice A s.1.length c, .bool s.2] 129 (0, 0)) ∧ s.1.length ≤ c ∧ (A = none → s.1.length = 0 ∧ c = 0) ∧ RdL w A s.1 G
  ng : ¬ G g
theorem Rr.lt {w : World} {g : Nat} {s : Cd.St} {G : Nat → Prop} (h : Rr w g s G) : g < w.heap.size := by
  obtain ⟨A, c, h1, _⟩ := h.ex; exact heap_lt h1
theorem Rr.kp {w w' : World} {g : Nat} {s : Cd.St} {G S : Nat → Prop} (h : Rr w g s G) (hk : Kp S w w') (hg : ¬ S g) (hs : ∀ b, G b → ¬ S b) : Rr w' g s G := by
  obtain ⟨⟨A, c, h1, h2, h3, h5⟩, hn⟩ := h
  exact ⟨⟨A, c, (hk.block g (heap_lt h1) hg).trans h1, h2, h3, h5.kp hk hs⟩, hn⟩
/-- the document's own Writer: its slice is v -/
def Rw (w : World) (g base : Nat) (v : Value) (l : Tx) : Prop := w.heap[g]? = some (.cells #[v] 48 (0, 0)) ∧ OwnL w base v l
theorem Rw.lt {w : World} {g base : Nat} {v : Value} {l : Tx} (h : Rw w g base v l) : g < w.heap.size := heap_lt h.1
theorem Rw.ne {w : World} {g base : Nat} {v : Value} {l : Tx} (h : Rw w g base v l) : ∀ k, v.ownBlock = some k → k ≠ g := by
  rintro k hk rfl
  obtain ⟨c, hc⟩ := h.2.block k hk
  have := h.1
  rw [hc] at this
  injection this with this
  injection this with _ e
  exact absurd e (by decide)
theorem Rw.kp {w w' : World} {g base : Nat} {v : Value} {l : Tx} {S : Nat → Prop} (h : Rw w g base v l) (hk : Kp S w w') (hg : ¬ S g) (hs : ∀ k, v.ownBlock = some k → ¬ S k) : Rw w' g base v l :=
  ⟨(hk.block g h.lt hg).trans h.1, h.2.kp hk hs⟩
/-- g alone has turned, and rows of bytes from base on -/
def Turned (g base : Nat) (w w' : World) : Prop := Kp (fun k => k = g ∨ base ≤ k ∧ ∃ c, w.heap[k]? = some (.cells c 5 (0, 0))) w w'
theorem Turned.trans {g base : Nat} {a b c : World} (h : Turned g base a b) (k : Turned g base b c) : Turned g base a c := by
  refine ⟨k.os.trans h.os, k.tape.trans h.tape, k.output.trans h.output, Nat.le_trans h.size k.size, fun i hi hs => ?_⟩
  have e := h.block i hi hs
  rw [← e]
  refine k.block i (Nat.lt_of_lt_of_le hi h.size) fun h' => hs ?_
  rcases h' with h' | ⟨h1, x, h2⟩
  · exact .inl h'
  · exact .inr ⟨h1, x, e ▸ h2⟩
theorem Turned.alloc {g base : Nat} {a b : World} (h : Turned g base a b) (o : Obj) : Turned g base a (b.alloc o) := Kp.alloc h o
theorem Turned.below {g base B : Nat} {a b : World} (h : Turned g base a b) (hB : B ≤ a.heap.size) (hg : B ≤ g) (hb : B ≤ base) : Below B a b :=
  Kp.below h hB fun k hk => by rcases hk with rfl | hk; exact hg; omega
/-- what a call of the document's own Writer has turned -/
def RefWrote (g base : Nat) (l : Tx) (w : World) (e : Ending) (w' : World) : Prop := e = .returned (.tuple #[]) ∧ (∃ v', Rw w' g base v' l) ∧ Turned g base w w'
theorem Rw.stored {w w1 w' : World} {g base : Nat} {v v' : Value} {l l' : Tx} (h : Rw w g base v l) (hK : Turned g base w w1) (h1 : w1.heap[g]? = w.heap[g]?) (hv1 : OwnL w1 base v l) (hg : w1.grownBy w' v.ownBlock) (hv : OwnL w' base v' l') :
    w'.heap[g]? = w.heap[g]? ∧ Rw (w'.setCell ⟨g, 0, none⟩ v') g base v' l' ∧ Turned g base w (w'.setCell ⟨g, 0, none⟩ v') := by
  have hlt : g < w1.heap.size := heap_lt (h1.trans h.1)
  have e : w'.heap[g]? = w.heap[g]? := (hg.block g hlt fun e => h.ne g e.symm rfl).trans h1
  have hr : Rw w' g base v' l' ∨ True := .inr trivial
  have hb := e.trans h.1
  refine ⟨e, ⟨by rw [heap_set hb]; simp, hv.kp (Kp.store w' g 0 _) fun k hk hkg => ?_⟩, ?_⟩
  · subst hkg
    obtain ⟨c, hc⟩ := hv.block k hk
    rw [hb] at hc
    injection hc with hc
    injection hc with _ hc
    exact absurd hc (by decide)
  · refine hK.trans (Kp.setCell (Kp.grown (Kp.refl _ w1) hg fun k hk => .inr ⟨hv1.lo k hk, hv1.block k hk⟩) (.inl rfl) _)
/-- what a read answered, and left -/
def Red (v : Value) (g : Nat) (s : Cd.St) (G : Nat → Prop) (w : World) (e : Ending) (w' : World) : Prop := e = .returned v ∧ Rr w' g s G ∧ Kp (· = g) w w'
end Go.Proofs.Ytbkmpoabdnickaa
namespace Go.Proofs.Ytbkmpoabdnickaa
open Go.RowKit
open Pt (Tx)

theorem not_piece {w : World} {g : Nat} {c : Array Value} {t : TypeId} {fr : Nat × Nat} (h : w.heap[g]? = some (.cells c t fr)) (ht : t ≠ 126) : ∀ (k : Nat) (c' : Array Value), k = g → w.heap[k]? ≠ some (.cells c' 126 (0, 0)) := by
  rintro k c' rfl h'
  rw [h] at h'
  injection h' with h'
  injection h' with _ e
  exact ht e
theorem conv_lit (w : World) (l : Tx) {c : Array Value} {n : Nat} (hn : n = l.length) (hc : c = (cellsL l).toArray) :
    (convert 25 9 (.slice (some ⟨w.heap.size, 0, none⟩) n n)).run Try.prog (w.alloc (.cells c 5)) = .ok (.string (tx l)) (w.alloc (.cells c 5)) := by
  subst hn; subst hc
  refine RdL.str (RdL.of_cells (Go.Deep.blk_alloc_new _ _) fun j hj => ?_) _
  rw [Nat.zero_add]
  simpa using cellsL_get hj
theorem put_any (g : Nat) (l s : Tx) (w : World) (h : Wr w g l) (h0 : 0 < s.length) (hl : l.length + s.length ≤ 1000000000) :
    Calls Try.prog 76 #[.pointer (some ⟨g, 0, none⟩), .string (tx s)] w (Wrote g (l ++ s) w) := by
  obtain ⟨P, ss, h1, h2, h3⟩ := h
  have hlt := heap_lt h1
  have c0 : w.cell? ⟨g, 0, none⟩ = some (.pointer P) := heap_cell h1
  have c1 : w.cell? ⟨g, 1, none⟩ = some (.int .i64 (l.length : Int)) := heap_cell h1
  have f0 : w.frozen? ⟨g, 0, none⟩ = false := heap_frozen h1
  have f1 : w.frozen? ⟨g, 1, none⟩ = false := heap_frozen h1
  have es := tx_size s
  have et := tx_toList s
  have H1 := Lib.hid h1
  have H3 := Lib.hid h3
  clear h1 h3
  go_enter Try.func76, Try.ntmps76
  go_wp2
  go_end0
  have hk : Kp (· = g) w (((w.setCell ⟨g, 0, none⟩ (.pointer (some ⟨w.heap.size, 0, none⟩))).setCell ⟨g, 1, none⟩ (.int .i64 ((l.length : Int) + (s.length : Int)))).alloc (.cells #[.pointer P, .string (tx s)] 126)) :=
    (((Kp.refl (· = g) w).setCell (p := ⟨g, 0, none⟩) rfl _).setCell (p := ⟨g, 1, none⟩) rfl _).alloc _
  refine ⟨rfl, ⟨some ⟨w.heap.size, 0, none⟩, s :: ss, ?_, ⟨w.heap.size, P, rfl, ?_, h0, h2.kp hk (not_piece H1.out (by decide))⟩, by rw [H3.out]; rfl⟩, hk⟩
  · rw [Below.heap_alloc _ _ _ (by simpa [World.setCell] using hlt), heap_set (heap_set H1.out _)]
    simp
  · have := Go.Deep.blk_alloc_new ((w.setCell ⟨g, 0, none⟩ (.pointer (some ⟨w.heap.size, 0, none⟩))).setCell ⟨g, 1, none⟩ (.int .i64 ((l.length : Int) + (s.length : Int)))) (.cells #[.pointer P, .string (tx s)] 126)
    simpa [World.setCell] using this
theorem Wrote.after {g : Nat} {l : Tx} {w w1 w' : World} {e : Ending} (hk : Kp (· = g) w w1) (h : Wrote g l w1 e w') : Wrote g l w e w' := ⟨h.1, h.2.1, hk.trans h.2.2⟩
theorem wint_any (g : Nat) (l : Tx) (n : Int) (w : World) (h : Wr w g l) (hl : l.length ≤ 999999990) :
    Calls Try.prog 60 #[.pointer (some ⟨g, 0, none⟩), .int .i64 n] w (Wrote g (l ++ Cd.be4 n) w) := by
  have hc := conv_lit w (Cd.be4 n) (n := 4) rfl (c := #[.int .u8 (n / 16777216 % 256), .int .u8 (n / 65536 % 256), .int .u8 (n / 256 % 256), .int .u8 (n % 256)]) (by simp [cellsL, Cd.be4, Cd.b8_nat])
  go_enter Try.func60, Try.ntmps60
  go_wp2_with (go_at_call 76; (refine (put_any g l (Cd.be4 n) _ (h.old ((Below.refl _ _).alloc (Nat.le_refl _) _)) (Nat.succ_pos _) (by rw [Cd.be4_len]; omega)).mono ?_); rintro e w' hq; have HQ := Lib.hid hq; obtain ⟨rfl, _, _⟩ := hq)
  go_end0
  exact HQ.out.after ((Kp.refl _ w).alloc _)
theorem wbyte_any (g : Nat) (l : Tx) (c : UInt8) (w : World) (h : Wr w g l) (hl : l.length ≤ 999999990) :
    Calls Try.prog 61 #[.pointer (some ⟨g, 0, none⟩), .int .u8 (c.toNat : Int)] w (Wrote g (l ++ [c]) w) := by
  have hc := conv_lit w [c] (n := 1) rfl (c := #[.int .u8 (c.toNat : Int)]) (by simp [cellsL])
  go_enter Try.func61, Try.ntmps61
  go_wp2_with (go_at_call 76; (refine (put_any g l [c] _ (h.old ((Below.refl _ _).alloc (Nat.le_refl _) _)) (Nat.succ_pos _) (by simp; omega)).mono ?_); rintro e w' hq; have HQ := Lib.hid hq; obtain ⟨rfl, _, _⟩ := hq)
  go_end0
  exact HQ.out.after ((Kp.refl _ w).alloc _)
/-- bytes in new memory -/
def NewL (l : Tx) (w : World) (e : Ending) (w' : World) : Prop := ∃ b, e = .returned (.slice (some ⟨b, 0, none⟩) l.length l.length) ∧ w.heap.size ≤ b ∧ RdL w' (some ⟨b, 0, none⟩) l (· = b) ∧ Below w.heap.size w w'
theorem splice_text (E n : Nat) (s r : Tx) (hn : s.length = n) :
    ((cellsL (List.replicate (E + n) 0 ++ r)).toArray.toList.take E ++ Lib.byteCells (tx s).data.toList ++ (cellsL (List.replicate (E + n) 0 ++ r)).toArray.toList.drop (E + (tx s).size)).toArray = (cellsL (List.replicate E 0 ++ (s ++ r))).toArray := by
  have hb : Lib.byteCells (tx s).data.toList = cellsL s := by rw [tx_data]; rfl
  rw [hb, tx_size, hn]
  congr 1
  have e1 : cellsL (List.replicate (E + n) 0 ++ r) = cellsL (List.replicate E 0) ++ (cellsL (List.replicate n 0) ++ cellsL r) := by simp [cellsL, ← List.append_assoc, List.replicate_append_replicate]
  have e2 : (cellsL (List.replicate E (0 : UInt8))).length = E := by simp [cellsL_len]
  have e3 : (cellsL (List.replicate n (0 : UInt8))).length = n := by simp [cellsL_len]
  rw [List.toList_toArray, e1, List.take_left' e2, ← List.drop_drop, List.drop_left' e2, List.drop_left' e3, cellsL_append, cellsL_append, List.append_assoc]
/-- the same, and what the new block holds -/
def NewC (l : Tx) (w : World) (e : Ending) (w' : World) : Prop := ∃ b, e = .returned (.slice (some ⟨b, 0, none⟩) l.length l.length) ∧ w.heap.size ≤ b ∧ w'.heap[b]? = some (.cells (cellsL l).toArray 5 (0, 0)) ∧ Below w.heap.size w w'
theorem rd_of_cells {w : World} {b : Nat} {l : Tx} {fr : Nat × Nat} (h : w.heap[b]? = some (.cells (cellsL l).toArray 5 fr)) : RdL w (some ⟨b, 0, none⟩) l (· = b) :=
  RdL.of_cells h (fun j hj => by rw [Nat.zero_add]; simpa using cellsL_get hj)
theorem own_of_cells {w : World} {b B n : Nat} {l : Tx} (h : w.heap[b]? = some (.cells (cellsL l).toArray 5 (0, 0))) (hB : B ≤ b) (hn : n = l.length) (hl : l.length ≤ maxLen) : OwnL w B (.slice (some ⟨b, 0, none⟩) n n) l := by
  subst hn
  refine ⟨by rw [cellsL_len, Nat.mul_one], .inr ⟨b, l.length, (cellsL l).toArray, rfl, hB, h, Nat.le_refl _, hl, by simp [cellsL_len], ?_⟩⟩
  rw [List.toList_toArray, List.take_of_length_le (by rw [cellsL_len]; omega)]
set_option maxRecDepth 100000 in
theorem bytes_own (g : Nat) (l : Tx) (w : World) (h : Wr w g l) (hl : l.length ≤ 1000000000) :
    Calls Try.prog 62 #[.pointer (some ⟨g, 0, none⟩)] w (NewC l w) := by
  obtain ⟨P, ss, h1, h2, h3⟩ := h
  have hlt := heap_lt h1
  have c0 : w.cell? ⟨g, 0, none⟩ = some (.pointer P) := heap_cell h1
  have c1 : w.cell? ⟨g, 1, none⟩ = some (.int .i64 (l.length : Int)) := heap_cell h1
  have H1 := Lib.hid h1
  have H2 := Lib.hid h2
  have H3 := Lib.hid h3
  clear h1 h2 h3
  obtain ⟨L, hL⟩ : ∃ L, L = l.length := ⟨_, rfl⟩
  rw [← hL] at hl c1
  have HL := Lib.hid hL
  clear hL
  have hmk := run_make_row' (P := Try.prog) 25 5 (.int .u8 0) 1 Try.underlying25 infoB rfl .i64 .i64 L (by omega) (by omega)
  go_enter Try.func62, Try.ntmps62
  go_wp2
  go_loopw [4, 5] (fun ve vp wr => ∃ (ss : List Tx) (P : Option Addr) (r : Tx) (k : Nat), k ≤ L ∧ ve = .int .i64 (k : Int) ∧ vp = .pointer P ∧ Hid (k = (flat ss).length) ∧ Hid (l = flat ss ++ r) ∧ Hid (Chain wr P ss) ∧ Hid (wr.heap[w.heap.size]? = some (.cells (cellsL (List.replicate k 0 ++ r)).toArray 5 (0, 0))) ∧ Hid (Below w.heap.size w wr)) (fun ve _ _ => (intOf ve).toNat)
  case atStart =>
    refine ⟨ss, P, [], L, Nat.le_refl _, rfl, rfl, Lib.hid (by rw [HL.out, H3.out]), Lib.hid (by rw [H3.out, List.append_nil]), Lib.hid (H2.out.kp (Kp.of_below (S := fun _ => False) ((Below.refl _ _).alloc (Nat.le_refl _) _)) (fun _ _ h => h.elim)), Lib.hid ?_, Lib.hid ((Below.refl _ _).alloc (Nat.le_refl _) _)⟩
    rw [Go.Deep.blk_alloc_new]
    congr 2
    apply Array.ext
    · simp [size_madeCells, cellsL_len]
    · intro i h1 h2
      simp [madeCells, cellsL, Nat.mod_one]
  case round =>
    obtain ⟨ss, P, r, k, hk, rfl, rfl, HK, HF, HC, HW, HB⟩ := hrel
    cases ss with
    | nil =>
      have hP : P = none := HC.out
      subst hP
      go_wp2
      go_ret
      have hk0 : k = 0 := HK.out
      have hr : l = r := HF.out
      have hx := HW.out
      rw [hk0, ← hr] at hx
      exact ⟨w.heap.size, by rw [HL.out]; rfl, Nat.le_refl _, hx, HB.out⟩
    | cons s ss =>
      obtain ⟨p, P', rfl, hp, hs0, hch⟩ := HC.out
      have p0 : wr.cell? ⟨p, 0, none⟩ = some (.pointer P') := heap_cell hp
      have p1 : wr.cell? ⟨p, 1, none⟩ = some (.string (tx s)) := heap_cell hp
      obtain ⟨E, hE⟩ : ∃ E, E = (flat ss).length := ⟨_, rfl⟩
      obtain ⟨n, hn⟩ : ∃ n, n = s.length := ⟨_, rfl⟩
      have hkE : k = E + n := by rw [HK.out, hE, hn]; simp [flat]
      subst hkE
      have es : (tx s).size = n := by rw [tx_size, hn]
      rw [← hn] at hs0
      have HE := Lib.hid hE
      have HN := Lib.hid hn
      have HP := Lib.hid hp
      have HCH := Lib.hid hch
      have hcp : ∃ ws : World, (Builtin.copy_ #[25, 9] 3 #[.slice (some ⟨w.heap.size, E, none⟩) (L - E) (L - E), .string (tx s)]).run Try.prog wr.drew = .ok (goInt n) ws ∧ ws.cell? ⟨p, 0, none⟩ = some (.pointer P') ∧
          Hid (ws.heap[w.heap.size]? = some (.cells (cellsL (List.replicate E 0 ++ (s ++ r))).toArray 5 (0, 0))) ∧ Hid (Chain ws P' ss) ∧ Hid (Below w.heap.size w ws) := by
        have hsz : (cellsL (List.replicate (E + n) 0 ++ r)).toArray.size = L := by
          have := congrArg List.length HF.out
          rw [List.length_append, ← HL.out, ← HK.out] at this
          simp [cellsL_len]; omega
        have hr := Lib.run_copy_row_string (P := Try.prog) wr.drew 25 9 3 5 w.heap.size E (L - E) (L - E) (tx s) _ 5 Try.underlying25 (by kernel_rfl) (show wr.drew.heap[w.heap.size]? = _ from HW.out) (by rw [es]; omega) (by rw [es, hsz]; omega)
        rw [splice_text E n s r hn.symm, es] at hr
        have hpb : p ≠ w.heap.size := by
          rintro rfl
          have h' := HW.out
          rw [hp] at h'
          injection h' with h'
          injection h' with _ e
          exact absurd e (by decide)
        refine ⟨_, hr, ?_, Lib.hid (setRow_heap _ _ _ _ _ _ (show wr.drew.heap[w.heap.size]? = _ from HW.out)), Lib.hid (Chain.keep (fun k c hc => ?_) ss P' hch), Lib.hid (below_setRow (w := wr.drew) ⟨HB.out.os, HB.out.tape, HB.out.output, HB.out.size, HB.out.block⟩ (Nat.le_refl _) _)⟩
        · rw [World.cell?_of_block (setRow_other _ _ _ _ hpb)]; exact p0
        · refine setRow_other _ _ _ _ ?_
          rintro rfl
          have h' := HW.out
          rw [hc] at h'
          injection h' with h'
          injection h' with _ e
          exact absurd e (by decide)
      obtain ⟨ws, hcp, q0, HX, HY, HZ⟩ := hcp
      have HR : Hid (l = flat ss ++ (s ++ r)) := Lib.hid (by rw [HF.out]; simp [flat])
      clear hE hn hp hch
      go_wp2
      have hEL : E ≤ L := by omega
      have hne : ¬ L = E := by omega
      have hne' : ¬ E = L := by omega
      refine wp_region_still_tail 7 (by kernel_rfl) (by kernel_rfl) ?_
      simp only [List.take_succ_cons, List.take_zero, List.drop_succ_cons, List.drop_zero]
      repeat (first | still_step)
      refine wpStill_nil ?_
      change wpList _ _ _ _ _ wr.drew
      go_wp2
      go_roundw
      case rel => exact ⟨ss, P', s ++ r, E, hEL, rfl, rfl, Lib.hid HE.out, HR, HY, HX, HZ⟩
      case measure => simp [intOf]; omega
theorem bytes_any (g : Nat) (l : Tx) (w : World) (h : Wr w g l) (hl : l.length ≤ 1000000000) :
    Calls Try.prog 62 #[.pointer (some ⟨g, 0, none⟩)] w (NewL l w) :=
  (bytes_own g l w h hl).mono fun _ _ ⟨b, h1, h2, h3, h4⟩ => ⟨b, h1, h2, rd_of_cells h3, h4⟩
end Go.Proofs.Ytbkmpoabdnickaa
namespace Go.Proofs.Ytbkmpoabdnickaa
open Go.RowKit
open Pt (Tx)

/-- bytes are answered, in new memory; or nothing -/
def AnsT (l : Tx) (w : World) (e : Ending) (w' : World) : Prop :=
  ∃ A n C, e = .returned (.slice A n C) ∧ n = l.length ∧ n ≤ C ∧ C ≤ maxLen ∧ (A = none → n = 0 ∧ C = 0) ∧ RdL w' A l (w.heap.size ≤ ·) ∧ Below w.heap.size w w'
theorem AnsT.nil {w w' : World} (h : Below w.heap.size w w') : AnsT [] w (.returned (.slice none 0 0)) w' :=
  ⟨none, 0, 0, rfl, rfl, Nat.le_refl _, by decide, fun _ => ⟨rfl, rfl⟩, RdL.empty _ _ _, h⟩
theorem AnsT.after {l : Tx} {w w1 w2 : World} {e : Ending} (hb : Below w.heap.size w w1) (h : AnsT l w1 e w2) : AnsT l w e w2 := by
  obtain ⟨A, n, C, h1, h2, h3, h4, h5, h6, h7⟩ := h
  exact ⟨A, n, C, h1, h2, h3, h4, h5, h6.mono fun x hx => Nat.le_trans hb.size hx, hb.trans (h7.mono hb.size)⟩
theorem AnsT.of_new {l : Tx} {w w' : World} {e : Ending} (hl : l.length ≤ maxLen) (h : NewC l w e w') : AnsT l w e w' := by
  obtain ⟨b, h1, h2, h3, h4⟩ := h
  exact ⟨some ⟨b, 0, Option.none⟩, l.length, l.length, h1, rfl, Nat.le_refl _, hl, (fun h => by cases h), (rd_of_cells h3).mono (fun x hx => by omega), h4⟩
end Go.Proofs.Ytbkmpoabdnickaa
namespace Go.Proofs.Ytbkmpoabdnickaa
open Go.RowKit
open Pt (Tx)

/-- bytes in new memory -/
def NewS (l : Tx) (w : World) (e : Ending) (w' : World) : Prop := ∃ b n, e = .returned (.slice (some ⟨b, 0, none⟩) n n) ∧ n = l.length ∧ w.heap.size ≤ b ∧ w'.heap[b]? = some (.cells (cellsL l).toArray 5 (0, 0)) ∧ Below w.heap.size w w'
theorem wbyte_int (g : Nat) (l : Tx) (n : Int) (w : World) (h : Wr w g l) (hl : l.length ≤ 999999990) :
    Calls Try.prog 61 #[.pointer (some ⟨g, 0, none⟩), .int .u8 (n % 256)] w (Wrote g (l ++ [Cd.b8 n]) w) := by
  rw [← Cd.b8_nat]; exact wbyte_any g l (Cd.b8 n) w h hl
end Go.Proofs.Ytbkmpoabdnickaa
