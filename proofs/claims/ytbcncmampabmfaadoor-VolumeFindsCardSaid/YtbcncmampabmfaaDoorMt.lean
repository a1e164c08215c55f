/- A byte of one of a tape's own rows is turned. No function of the program. A tape of the law's own beside a list of parts that grows, and one of whose blocks is turned. No function of the program but in its words. Two parts that are alike, compared; what the law's own SameParts answers of two lists that are alike. -/
import Derived.Test.YtbcncmampabmfaaDoorMo
import Derived.Test.YtbcncmampabmfaaDoorMm
import Derived.Test.YtbcncmampabmfaaDoorMj
import Derived.Laws.StructEq
import Derived.BigQuiet
namespace Go.Proofs.YtbcncmampabmfaaDoor
open Go.RowKit
open Pt (Tx)

/-- a byte of an own row is turned -/
theorem OwnL.set {w : World} {B g L C k : Nat} {s : Tx} (h : OwnL w B (.slice (some ⟨g, 0, none⟩) L C) s) (hk : k < s.length) (x : UInt8) : OwnL (w.setCell ⟨g, k, none⟩ (.int .u8 (x.toNat : Int))) B (.slice (some ⟨g, 0, none⟩) L C) (s.set k x) := by
  refine ⟨by simp [cellsL_len], ?_⟩
  rcases h.2 with ⟨e, _⟩ | ⟨g', cap, cur, e, hb, hg, hnc, hcm, hs, ht⟩
  · cases e
  · cases e
    refine .inr ⟨g, C, cur.setIfInBounds k (.int .u8 (x.toNat : Int)), by simp, hb, heap_set hg _, by simpa using hnc, hcm, by simpa using hs, ?_⟩
    rw [Nat.mul_one] at ht ⊢
    rw [List.length_set]
    apply List.ext_getElem?
    intro j
    have hj := congrArg (·[j]?) ht
    simp only [List.getElem?_take, Array.getElem?_toList] at hj
    simp only [List.getElem?_take, Array.getElem?_toList, Array.getElem?_setIfInBounds]
    by_cases hjl : j < s.length
    · rw [if_pos hjl] at hj ⊢
      rw [cellsL_get (by simpa using hjl)]
      rw [cellsL_get hjl] at hj
      by_cases e : k = j
      · subst e
        rw [if_pos rfl, if_pos (by omega)]
        simp
      · rw [if_neg e, hj]
        simp [List.getElem_set_ne e]
    · rw [if_neg hjl, List.getElem?_eq_none (by rw [cellsL_len, List.length_set]; omega)]
/-- a byte of a row is turned -/
theorem TopB.turned {w : World} {B : Nat} {G : Nat → Prop} {v : Value} {us : List Value} {bs : List Tx} (h : TopB w B G v us bs) {n : Nat} (hn : n < us.length) (hn' : n < bs.length) {g L C k : Nat} (hu : us[n] = .slice (some ⟨g, 0, none⟩) L C) {s : Tx} (hs : bs[n] = s) (hk : k < s.length) (x : UInt8) :
    TopB (w.setCell ⟨g, k, none⟩ (.int .u8 (x.toNat : Int))) B G v us (bs.set n (s.set k x)) := by
  subst hs
  have hK := Kp.store w g k (.int .u8 (x.toNat : Int))
  have hr := h.rows n hn hn'
  have hown : us[n].ownBlock = some g := by rw [hu]; rfl
  refine ⟨own_of h.top fun q e => hK.block q (h.top.lt q e).2 fun hq => ?_, by rw [List.length_set, h.len], fun i hi hi' => ?_, h.gs, h.inj⟩
  · obtain ⟨c, hc⟩ := own_blk h.top q e
    obtain ⟨c', hc'⟩ := hr.block g hown
    rw [hq, hc'] at hc
    injection hc with hc
    injection hc with _ e2
    exact absurd e2 (by decide)
  · by_cases e : n = i
    · subst e
      rw [List.getElem_set_self, hu]
      rw [hu] at hr
      exact hr.set hk x
    · rw [List.getElem_set_ne e]
      rw [List.length_set] at hi'
      exact (h.rows i hi hi').kp hK fun q hq hq' => e (h.inj n i hn hi g hown (by rw [← hq']; exact hq))
end Go.Proofs.YtbcncmampabmfaaDoor
namespace Go.Proofs.YtbcncmampabmfaaDoor
open Go.RowKit
open Pt (Tx)

theorem TopB.beside {x x1 y : World} {B B' : Nat} {G : Nat → Prop} {v vw : Value} {us : List Value} {bs : List Tx} {lab : Int} {l : List (Rc.H × Nat)} (h : TopB x B G v us bs) (hb : Below x.heap.size x x1) (hO : (encP lab).Own x1 B' 48 vw l) (hg : x1.grownBy y vw.ownBlock) : TopB y B G v us bs := by
  have hk : Kp (fun k => some k = vw.ownBlock) x1 y := ⟨hg.os, hg.tape, hg.output, hg.size, fun k hk hs => hg.block k hk hs⟩
  have hno : ∀ {k : Nat} {c : Array Value} {t : TypeId}, t ≠ 48 → some k = vw.ownBlock → x1.heap[k]? ≠ some (.cells c t (0, 0)) := fun {k c t} hty e hk' => by
    obtain ⟨c', hc'⟩ := hO.block k e.symm
    rw [hc'] at hk'
    injection hk' with hk'
    injection hk' with _ e2
    exact hty e2.symm
  exact (h.old hb).kpT hk (fun k c e => hno (by decide) e) (fun k c e => hno (by decide) e)
theorem Tp.beside {w x x1 y : World} {TB n C : Nat} {A : Option Addr} {us : List Value} {bs : List Tx} {vw : Value} {lab : Int} {l : List (Rc.H × Nat)} (h : Tp w TB A n C us bs x) (hb : Below x.heap.size x x1) (hO : (encP lab).Own x1 w.heap.size 48 vw l) (hg : x1.grownBy y vw.ownBlock) : Tp w TB A n C us bs y := by
  have h1 := h.old hb
  refine ⟨(hg.block TB (heap_lt h1.blk) fun e => ?_).trans h1.blk, h.top.beside hb hO hg, h1.bel.grown hg h1.bel.size fun k e => (hO.lt k e).1, h.lo⟩
  obtain ⟨c, hc⟩ := hO.block TB e.symm
  rw [h1.blk] at hc
  injection hc with hc
  injection hc with _ e2
  exact absurd e2 (by decide)
/-- a list of parts stays as it was when the tape's blocks grow -/
theorem want_kept {w x y : World} {TB n C B : Nat} {A : Option Addr} {us : List Value} {bs : List Tx} {vw : Value} {lab : Int} {l : List (Rc.H × Nat)} (h : Tp w TB A n C us bs x) (hO : (encP lab).Own x B 48 vw l) (hk : ∀ k o, k ≠ TB → (Value.slice A n C).ownBlock ≠ some k → x.heap[k]? = some o → y.heap[k]? = some o) : (encP lab).Own y B 48 vw l :=
  hO.of_block fun k e => by
    obtain ⟨c, hc⟩ := hO.block k e
    rw [hc]
    refine hk k _ (fun e' => ?_) (fun e' => ?_) hc
    · subst e'
      rw [h.blk] at hc
      injection hc with hc
      injection hc with _ e2
      exact absurd e2 (by decide)
    · obtain ⟨c', hc'⟩ := own_blk h.top.top k e'
      rw [hc] at hc'
      injection hc' with hc'
      injection hc' with _ e2
      exact absurd e2 (by decide)
/-- the first byte of one of its blocks is turned into 0 -/
theorem Tp.turned {w x : World} {TB n C : Nat} {A : Option Addr} {us : List Value} {bs : List Tx} (h : Tp w TB A n C us bs x) {k : Nat} {s : Tx} (hs : bs[k]? = some s) (hl : 0 < s.length) :
    ∃ g L D c, us[k]? = some (.slice (some ⟨g, 0, none⟩) L D) ∧ L = s.length ∧ L ≤ D ∧ D ≤ maxLen ∧ x.heap[g]? = some (.cells c 5 (0, 0)) ∧ RdL x (some ⟨g, 0, none⟩) s (fun _ => True) ∧ (∃ v, x.cell? ⟨g, 0, none⟩ = some v) ∧ x.frozen? ⟨g, 0, none⟩ = false
      ∧ Tp w TB A n C us (bs.set k (s.set 0 0)) (x.setCell ⟨g, 0, none⟩ (.int .u8 0))
      ∧ (∀ {vw : Value} {B : Nat} {lab : Int} {l : List (Rc.H × Nat)}, (encP lab).Own x B 48 vw l → (encP lab).Own (x.setCell ⟨g, 0, none⟩ (.int .u8 0)) B 48 vw l) := by
  obtain ⟨hk', hsk⟩ := List.getElem?_eq_some_iff.1 hs
  have hk : k < us.length := by rw [h.top.len]; exact hk'
  have hr := h.top.rows k hk hk'
  obtain ⟨Ar, Cr, er, h1, h2, h3, h4⟩ := hr.rd
  rw [hsk] at hr er h1 h3 h4
  obtain ⟨g, cap, cur, e, hB, hg⟩ : ∃ g cap cur, us[k] = .slice (some ⟨g, 0, none⟩) s.length cap ∧ TB + 1 ≤ g ∧ x.heap[g]? = some (.cells cur 5 (0, 0)) := by
    rcases hr.2 with ⟨e, h0⟩ | ⟨g, cap, cur, e, hB, hg, _⟩
    · omega
    · exact ⟨g, cap, cur, e, hB, hg⟩
  rw [er] at e
  injection e with e1 e2 e3
  subst e1 e3
  obtain ⟨b, off, e5, -, hc⟩ := h4 hl
  cases e5
  have hc0 := hc 0 hl
  have hT := h.top.turned hk hk' er (s := s) hsk hl 0
  have hne : g ≠ TB := by omega
  have hkp : Kp (· = g) x (x.setCell ⟨g, 0, none⟩ (.int .u8 0)) := Kp.store _ _ _ _
  refine ⟨g, s.length, Cr, cur, by rw [List.getElem?_eq_getElem hk, er], rfl, h1, h2, hg, h4.mono fun _ _ => trivial, ⟨_, hc0⟩, heap_frozen hg, ⟨(hkp.block TB (heap_lt h.blk) (fun e => hne e.symm)).trans h.blk, hT, h.bel.trans (hkp.below h.bel.size fun k e => by have := h.lo; omega), h.lo⟩, fun {vw B lab l} hO => hO.of_block fun q e => hkp.block q (hO.lt q e).2 fun e' => ?_⟩
  obtain ⟨c', hc'⟩ := hO.block q e
  rw [e', hg] at hc'
  injection hc' with hc'
  injection hc' with _ e2
  exact absurd e2 (by decide)
theorem heads_snoc (p : Tx) (n : Nat) : ∀ (ns : List Nat) (i : Nat), Vo.heads p i (ns ++ [n]) = Vo.heads p i ns ++ [Vo.hd p (i + ns.length) n]
  | [], i => rfl
  | m :: ns, i => by
    rw [List.cons_append, Vo.heads, Vo.heads, heads_snoc p n ns, List.length_cons, List.cons_append, show i + 1 + ns.length = i + (ns.length + 1) by omega]
/-- the parts that were laid -/
def wants (z : Nat → Int) (i : Nat) : List (Rc.H × Nat) := Vo.places 1 (Vo.heads [97] 0 (sizes z i))
theorem wants_len (z : Nat → Int) (i : Nat) : (wants z i).length = i := by unfold wants; rw [Vo.places_len, Vo.heads_len, sizes_len]
theorem wants_succ (z : Nat → Int) {i : Nat} (hi : i ≤ 8) : wants z (i + 1) = wants z i ++ [(Vo.hd [97] i (low7 z i), (laid z i).length)] := by
  unfold wants
  rw [sizes_succ, heads_snoc, sizes_len, Nat.zero_add, Vo.places_snoc, Vo.ending_room, laid_len z hi]
theorem laid_ge (z : Nat → Int) : ∀ (i : Nat), ∀ x ∈ laid z i, 15 ≤ x.length
  | 0, x, hx => by
    have : x = b0 := List.mem_singleton.1 hx
    rw [this, b0, Fm.blk_len b0_ok]; omega
  | i + 1, x, hx => by
    rw [laid_succ] at hx
    rcases List.mem_append.1 hx with h | h
    · exact laid_ge z i x h
    · exact Vo.put_pos h
end Go.Proofs.YtbcncmampabmfaaDoor
namespace Go.Proofs.YtbcncmampabmfaaDoor
open Go.RowKit
open Pt (Tx)

theorem head_fields' : Tryd.prog.underlying 23 = some (.struct (Tryd.prog.fieldsOf 23)) := by kernel_rfl
theorem head_plain' : Tryd.prog.stoodInHeld 23 = false := by kernel_rfl
theorem part_fields : Tryd.prog.underlying 48 = some (.struct (Tryd.prog.fieldsOf 48)) := by kernel_rfl
theorem part_plain : Tryd.prog.stoodInHeld 48 = false := by kernel_rfl
theorem heads_same' (p : Tx) (v z f l s m : Int) (g : Bool) (w : World) (n : Nat) (hn : 100 ≤ n) : (Op.equalIn n 23 (.agg #[.string (tx p), .int .i64 v, .int .i64 z, .int .i64 f, .int .i64 l, .int .i64 s, .int .i64 m, .bool g]) (.agg #[.string (tx p), .int .i64 v, .int .i64 z, .int .i64 f, .int .i64 l, .int .i64 s, .int .i64 m, .bool g])).run Tryd.prog w = .ok true w := by
  obtain ⟨n, rfl⟩ : ∃ k, n = k + 2 := ⟨n - 2, by omega⟩
  rw [run_equalIn_agg w (n + 1) 23 _ _ head_fields' head_plain']
  simp [Program.fieldsOf, Tryd.underlying23, Op.eqFields, part, go_sem]
theorem parts_same (p : Tx) (v z f l s m : Int) (g : Bool) (lab at_ : Int) (w : World) : (Op.equalIn 10000 48 (.agg #[.string (tx p), .int .i64 v, .int .i64 z, .int .i64 f, .int .i64 l, .int .i64 s, .int .i64 m, .bool g, .int .i64 lab, .int .i64 at_]) (.agg #[.string (tx p), .int .i64 v, .int .i64 z, .int .i64 f, .int .i64 l, .int .i64 s, .int .i64 m, .bool g, .int .i64 lab, .int .i64 at_])).run Tryd.prog w = .ok true w := by
  rw [run_equalIn_agg w 9999 48 _ _ part_fields part_plain]
  simp [Program.fieldsOf, Tryd.underlying48, Op.eqFields, part, go_sem, heads_same']
theorem parts_neq (p : Tx) (v z f l s m : Int) (g : Bool) (lab at_ : Int) (w : World) : (binOp .neq 48 (.agg #[.string (tx p), .int .i64 v, .int .i64 z, .int .i64 f, .int .i64 l, .int .i64 s, .int .i64 m, .bool g, .int .i64 lab, .int .i64 at_]) (.agg #[.string (tx p), .int .i64 v, .int .i64 z, .int .i64 f, .int .i64 l, .int .i64 s, .int .i64 m, .bool g, .int .i64 lab, .int .i64 at_])).run Tryd.prog w = .ok (.bool false) w := by
  rw [run_neq_struct, parts_same]; rfl
set_option maxHeartbeats 2000000 in
theorem sameParts_yes (lab : Int) (A : Option Addr) (C : Nat) (ps : List (Rc.H × Nat)) (G : Nat → Prop) (A' : Option Addr) (C' : Nat) (G' : Nat → Prop) (n : Nat) (w : World) (hn : ps.length = n) (hm : n ≤ 1000000) (h : (encP lab).Rd w A ps G) (h' : (encP lab).Rd w A' ps G') :
    Calls Tryd.prog 17 #[.slice A n C, .slice A' n C'] w (AnsB true w) := by
  have H := Lib.hid h
  have H' := Lib.hid h'
  have HN := Lib.hid hn
  clear h h' hn
  go_enter Tryd.func17, Tryd.ntmps17
  go_wp2
  go_loopw [5] (fun vi wr => ∃ i : Nat, i ≤ n ∧ vi = .int .i64 (i : Int) ∧ Hid (Below w.heap.size w wr)) (fun vi _ => n - (intOf vi).toNat)
  case atStart => exact ⟨0, by omega, rfl, Lib.hid (Below.refl _ _)⟩
  case round =>
    obtain ⟨i, hi, rfl, HB⟩ := hrel
    by_cases hlt : i < n
    · have hlt' : i < ps.length := by rw [HN.out]; exact hlt
      obtain ⟨b0, off0, rfl, -, hc0⟩ := (H.out.old HB.out).at_ hlt'
      obtain ⟨b1, off1, rfl, -, hc1⟩ := (H'.out.old HB.out).at_ hlt'
      obtain ⟨⟨⟨P, v, z, f, l, s, m, g⟩, k⟩, hq⟩ : ∃ q, q = ps[i] := ⟨_, rfl⟩
      rw [← hq] at hc0 hc1
      have c0 : wr.cell? ⟨b0, off0 + i * 10, none⟩ = some (.string (tx P)) := hc0 0 _ rfl
      have c1 : wr.cell? ⟨b0, off0 + i * 10 + 1, none⟩ = some (.int .i64 v) := hc0 1 _ rfl
      have c2 : wr.cell? ⟨b0, off0 + i * 10 + 2, none⟩ = some (.int .i64 z) := hc0 2 _ rfl
      have c3 : wr.cell? ⟨b0, off0 + i * 10 + 3, none⟩ = some (.int .i64 f) := hc0 3 _ rfl
      have c4 : wr.cell? ⟨b0, off0 + i * 10 + 4, none⟩ = some (.int .i64 l) := hc0 4 _ rfl
      have c5 : wr.cell? ⟨b0, off0 + i * 10 + 5, none⟩ = some (.int .i64 s) := hc0 5 _ rfl
      have c6 : wr.cell? ⟨b0, off0 + i * 10 + 6, none⟩ = some (.int .i64 m) := hc0 6 _ rfl
      have c7 : wr.cell? ⟨b0, off0 + i * 10 + 7, none⟩ = some (.bool g) := hc0 7 _ rfl
      have c8 : wr.cell? ⟨b0, off0 + i * 10 + 8, none⟩ = some (.int .i64 lab) := hc0 8 _ rfl
      have c9 : wr.cell? ⟨b0, off0 + i * 10 + 9, none⟩ = some (.int .i64 (k : Int)) := hc0 9 _ rfl
      have d0 : wr.cell? ⟨b1, off1 + i * 10, none⟩ = some (.string (tx P)) := hc1 0 _ rfl
      have d1 : wr.cell? ⟨b1, off1 + i * 10 + 1, none⟩ = some (.int .i64 v) := hc1 1 _ rfl
      have d2 : wr.cell? ⟨b1, off1 + i * 10 + 2, none⟩ = some (.int .i64 z) := hc1 2 _ rfl
      have d3 : wr.cell? ⟨b1, off1 + i * 10 + 3, none⟩ = some (.int .i64 f) := hc1 3 _ rfl
      have d4 : wr.cell? ⟨b1, off1 + i * 10 + 4, none⟩ = some (.int .i64 l) := hc1 4 _ rfl
      have d5 : wr.cell? ⟨b1, off1 + i * 10 + 5, none⟩ = some (.int .i64 s) := hc1 5 _ rfl
      have d6 : wr.cell? ⟨b1, off1 + i * 10 + 6, none⟩ = some (.int .i64 m) := hc1 6 _ rfl
      have d7 : wr.cell? ⟨b1, off1 + i * 10 + 7, none⟩ = some (.bool g) := hc1 7 _ rfl
      have d8 : wr.cell? ⟨b1, off1 + i * 10 + 8, none⟩ = some (.int .i64 lab) := hc1 8 _ rfl
      have d9 : wr.cell? ⟨b1, off1 + i * 10 + 9, none⟩ = some (.int .i64 (k : Int)) := hc1 9 _ rfl
      have hneq := fun y => parts_neq P v z f l s m g lab (k : Int) y
      clear hc0 hc1 hq
      go_wp2
      go_quiet (fail)
      clear hneq c0 c1 c2 c3 c4 c5 c6 c7 c8 c9 d0 d1 d2 d3 d4 d5 d6 d7 d8 d9
      go_wp2
      go_roundw
      case rel => exact ⟨i + 1, by omega, by go_num, Lib.hid ⟨HB.out.os, HB.out.tape, HB.out.output, HB.out.size, HB.out.block⟩⟩
      case measure => simp [intOf]; omega
    · go_wp2
      go_ret
      exact ⟨rfl, HB.out⟩
end Go.Proofs.YtbcncmampabmfaaDoor
