/- Parts that were laid one behind the other, what was cut behind them, and what rotted among them: what is found, and how much is kept. No program. Parts laid one behind the other, one more at a time; how long their blocks are. No program. One part that is its file. No program. The order of files is one; the law's own tapes: what lies on each, and that their files are the same in whichever order they are looked at. No program. Pieces of bytes as slices, and units as they lie in a row. No function of the program. -/
import Derived.Test.YtbijjgicjkmopaaDoorMae
import Derived.Test.YtbijjgicjkmopaaDoorMaf
import Derived.Test.YtbijjgicjkmopaaDoorMas
namespace Go.Proofs.YtbijjgicjkmopaaDoor.Vo
open Pt (Tx)

/-- the head of a part of n bytes, version i + 1 -/
def hd (p : Tx) (i n : Nat) : Rc.H := ⟨p, (i : Int) + 1, (n : Int), 0, (n : Int), 1, 0, false⟩
theorem hd_ok {p : Tx} {i n : Nat} (hp : Pt.right p = true) (hi : i ≤ 1000) (hn : n ≤ 4000) : Rc.Ok (hd p i n) := by
  refine ⟨hp, ⟨?_, ?_⟩, ⟨?_, ?_⟩, ⟨?_, ?_⟩, ?_, ?_, ?_, ?_, ⟨?_, ?_⟩, fun h => by cases h⟩ <;> (unfold hd; simp only; omega)
theorem hd_len (p : Tx) (i n : Nat) : (hd p i n).len.toNat = n := by unfold hd; simp
def heads (p : Tx) : Nat → List Nat → List Rc.H
  | _, [] => []
  | i, n :: ns => hd p i n :: heads p (i + 1) ns
theorem heads_len (p : Tx) : ∀ (i : Nat) (ns : List Nat), (heads p i ns).length = ns.length
  | _, [] => rfl
  | i, n :: ns => by rw [heads, List.length_cons, heads_len p, List.length_cons]
/-- parts of these sizes, laid behind what is there -/
def lay (p : Tx) (lab : Int) : List Tx → Nat → List Nat → List Tx
  | pre, _, [] => pre
  | pre, i, n :: ns => lay p lab (pre ++ put lab (pre.length : Int) (hd p i n) (List.replicate n 0)) (i + 1) ns
theorem lay_more (p : Tx) (lab : Int) : ∀ (ns : List Nat) (pre : List Tx) (i : Nat), ∃ rest, lay p lab pre i ns = pre ++ rest
  | [], pre, _ => ⟨[], by rw [lay, List.append_nil]⟩
  | n :: ns, pre, i => by
    obtain ⟨rest, h⟩ := lay_more p lab ns (pre ++ put lab (pre.length : Int) (hd p i n) (List.replicate n 0)) (i + 1)
    exact ⟨_, by rw [lay, h, List.append_assoc]⟩
/-- how long it may grow -/
def room : List Nat → Nat
  | [] => 0
  | n :: ns => data n + 2 + room ns
theorem ending_room (p : Tx) : ∀ (ns : List Nat) (i at_ : Nat), ending at_ (heads p i ns) = at_ + room ns
  | [], _, _ => rfl
  | n :: ns, i, at_ => by rw [heads, ending, ending_room p ns, hd_len, room]; omega
theorem right_hd {p : Tx} {lab : Int} {at_ i n : Nat} (hp : Pt.right p = true) (hlab : 1 ≤ lab ∧ lab ≤ 2147483647) (hi : i ≤ 1000) (hn : n ≤ 4000) (hat : at_ ≤ 1000000) : Right lab (at_ : Int) (hd p i n) (List.replicate n 0) := by
  refine ⟨⟨hd_ok hp hi hn, by rw [List.length_replicate]; rfl⟩, hlab, by omega, ?_⟩
  rw [List.length_replicate]
  unfold data
  omega
theorem lay_len {p : Tx} {lab : Int} (hp : Pt.right p = true) (hlab : 1 ≤ lab ∧ lab ≤ 2147483647) : ∀ (ns : List Nat) (pre : List Tx) (i : Nat), (∀ n ∈ ns, n ≤ 4000) → i + ns.length ≤ 1000 → pre.length + room ns ≤ 1000000 → (lay p lab pre i ns).length = pre.length + room ns
  | [], pre, _, _, _, _ => by rw [lay, room]; rfl
  | n :: ns, pre, i, hn, hi, hr => by
    rw [List.length_cons] at hi
    rw [room] at hr
    have hR := right_hd (at_ := pre.length) hp hlab (show i ≤ 1000 by omega) (hn n (List.mem_cons_self ..)) (by omega)
    have hl : (pre ++ put lab (pre.length : Int) (hd p i n) (List.replicate n 0)).length = pre.length + (data n + 2) := by rw [List.length_append, put_len hR, List.length_replicate]
    rw [lay, lay_len hp hlab ns _ (i + 1) (fun m hm => hn m (List.mem_cons_of_mem _ hm)) (by omega) (by rw [hl]; omega), hl, room]
    omega
/-- a tape that has the heads' blocks where they were laid, and is as long, has the parts -/
theorem laid_of {p : Tx} {lab : Int} (hp : Pt.right p = true) (hlab : 1 ≤ lab ∧ lab ≤ 2147483647) {bs : List Tx} : ∀ (ns : List Nat) (pre : List Tx) (i : Nat), (∀ n ∈ ns, n ≤ 4000) → i + ns.length ≤ 1000 → pre.length + room ns ≤ 1000000 → pre.length + room ns ≤ bs.length →
    (∀ (k : Nat) (b : Tx), (lay p lab pre i ns)[k]? = some b → Fm.Good b → (Fm.parse b).kind = 2 → bs[k]? = some b) → Laid ⟨lab, bs, false⟩ pre.length (heads p i ns)
  | [], _, _, _, _, _, _, _ => trivial
  | n :: ns, pre, i, hn, hi, hr, hlen, hb => by
    rw [List.length_cons] at hi
    rw [room] at hr hlen
    have hn0 := hn n (List.mem_cons_self ..)
    have hR := right_hd (at_ := pre.length) hp hlab (show i ≤ 1000 by omega) hn0 (by omega)
    have hl : (pre ++ put lab (pre.length : Int) (hd p i n) (List.replicate n 0)).length = pre.length + (data n + 2) := by rw [List.length_append, put_len hR, List.length_replicate]
    have hok := hd_ok (p := p) hp (show i ≤ 1000 by omega) hn0
    have hf0 : Fits lab (pre.length : Int) 0 := ⟨hlab, by omega, by omega⟩
    refine ⟨part_at rfl hf0 hok (hb _ _ ?_ (Fm.good_blk (headU_ok hok hf0)) (by rw [Fm.parse_blk (headU_ok hok hf0)]; rfl)) (by rw [hd_len]; show pre.length + data n + 1 < bs.length; omega), ?_⟩
    · obtain ⟨rest, hrest⟩ := lay_more p lab ns (pre ++ put lab (pre.length : Int) (hd p i n) (List.replicate n 0)) (i + 1)
      rw [lay, hrest, List.append_assoc]
      obtain ⟨u, hu, hx⟩ := laid_at (pre := pre) rest hR (j := 0) (by omega)
      cases hu
      exact hx
    · rw [hd_len, show pre.length + data n + 2 = (pre ++ put lab (pre.length : Int) (hd p i n) (List.replicate n 0)).length by rw [hl]; omega]
      exact laid_of hp hlab ns _ (i + 1) (fun m hm => hn m (List.mem_cons_of_mem _ hm)) (by omega) (by rw [hl]; omega) (by rw [hl]; omega) (by rw [lay] at hb; exact hb)
/-- the tape's own label's frame -/
def first (lab : Int) (l : Tx) : Fm.U := ⟨1, lab, 0, l⟩
theorem first_ok {lab : Int} {l : Tx} (hlab : 1 ≤ lab ∧ lab ≤ 2147483647) (hl : l.length ≤ 64) : Fm.Ok (first lab l) :=
  ⟨⟨(by show (1 : Int) ≤ 1; decide), (by show (1 : Int) ≤ 6; decide), hlab.1, hlab.2, (by show (0 : Int) ≤ 0; decide), (by show (0 : Int) ≤ 2147483647; decide)⟩, Nat.le_trans hl (Fm.room_ge _)⟩
theorem lay_first (p : Tx) (lab : Int) (b : Tx) (i : Nat) (ns : List Nat) : ∃ rest, lay p lab [b] i ns = b :: rest := by
  obtain ⟨rest, h⟩ := lay_more p lab ns [b] i
  exact ⟨rest, h⟩
/-- what is found on a tape that was laid, whatever rotted but heads -/
theorem finds {p : Tx} {lab : Int} (hp : Pt.right p = true) (hlab : 1 ≤ lab ∧ lab ≤ 2147483647) {bs : List Tx} {ns : List Nat} {b0 : Tx} (hn : ∀ n ∈ ns, n ≤ 4000) (hc : ns.length ≤ 1000) (hr : 1 + room ns ≤ 1000000) (hlen : bs.length = 1 + room ns)
    (hb : ∀ (k : Nat) (b : Tx), (lay p lab [b0] 0 ns)[k]? = some b → Fm.Good b → (Fm.parse b).kind = 2 → bs[k]? = some b) : parts ⟨lab, bs, false⟩ = places 1 (heads p 0 ns) := by
  have hl := laid_of hp hlab ns [b0] 0 hn (by omega) (by simpa using hr) (by rw [hlen]; simp) hb
  refine parts_laid hl (fun m hm => part_end ?_) ?_
  · rw [ending_room] at hm
    show bs.length ≤ m
    omega
  · rw [heads_len]
    show ns.length ≤ bs.length
    rw [hlen]
    have : ∀ l : List Nat, l.length ≤ room l := fun l => by
      induction l with
      | nil => exact Nat.le_refl _
      | cons a l ih => rw [List.length_cons, room]; omega
    have := this ns
    omega
/-- what is behind whole parts when the laying of one more was cut -/
def tail (lab : Int) (at_ : Nat) (h : Rc.H) (b : Tx) (k n : Nat) : List Tx :=
  (put lab (at_ : Int) h b).take k ++ (if 0 < n ∧ k + 1 < data b.length + 2 then match (put lab (at_ : Int) h b)[k]? with | some x => [x.take n] | none => [] else [])
theorem tail_none {lab : Int} {pre : List Tx} {h : Rc.H} {b : Tx} {k n : Nat} (hR : Right lab (pre.length : Int) h b) (hk : k < data b.length + 2) (hn : ∀ x, (put lab (pre.length : Int) h b)[k]? = some x → n < x.length) :
    ∀ m, pre.length ≤ m → part ⟨lab, pre ++ tail lab pre.length h b k n, false⟩ m = none := by
  intro m hm
  have hlen := put_len hR
  obtain ⟨j, rfl⟩ : ∃ j, m = pre.length + j := ⟨m - pre.length, by omega⟩
  obtain ⟨x, hx⟩ : ∃ x, (put lab (pre.length : Int) h b)[k]? = some x := ⟨_, List.getElem?_eq_getElem (by rw [hlen]; exact hk)⟩
  have htl : (tail lab pre.length h b k n).length ≤ data b.length + 1 := by
    unfold tail
    rw [List.length_append, List.length_take, hlen, hx]
    split
    · show min k (data b.length + 2) + 1 ≤ _; omega
    · show min k (data b.length + 2) + 0 ≤ _; omega
  have hget : (pre ++ tail lab pre.length h b k n)[pre.length + j]? = (tail lab pre.length h b k n)[j]? := by
    rw [List.getElem?_append_right (by omega), show pre.length + j - pre.length = j by omega]
  by_cases hj : j < k
  · have hjj : j < (units lab (pre.length : Int) h b).length := by rw [units_len]; omega
    obtain ⟨u, hu⟩ : ∃ u, (units lab (pre.length : Int) h b)[j]? = some u := ⟨_, List.getElem?_eq_getElem hjj⟩
    have hbj : (pre ++ tail lab pre.length h b k n)[pre.length + j]? = some (Fm.blk u) := by
      rw [hget]
      unfold tail
      rw [List.getElem?_append_left (by rw [List.length_take, hlen]; omega), List.getElem?_take, if_pos hj, put_yes hR, List.getElem?_map, hu]
      rfl
    obtain ⟨hRa, hRb⟩ := hR
    have huo := units_ok hRa.1 hRb hu
    by_cases h0 : j = 0
    · subst h0
      cases hu
      have hf0 : Fits lab (pre.length : Int) 0 := by obtain ⟨a, c, d⟩ := hRb; exact ⟨a, c, by omega⟩
      refine part_short (t := ⟨lab, pre ++ tail lab pre.length h b k n, false⟩) rfl hf0 hRa.1 hbj ?_
      show (pre ++ tail lab pre.length h b k n).length ≤ pre.length + 0 + data h.len.toNat + 1
      have e : h.len.toNat = b.length := by have := hRa.2; omega
      rw [List.length_append, e]
      omega
    · refine part_kind (t := ⟨lab, pre ++ tail lab pre.length h b k n, false⟩) hbj fun _ => ?_
      rw [Fm.parse_blk huo]
      exact (units_at hu).2.2.1.resolve_left h0
  · rcases Nat.lt_or_ge j (tail lab pre.length h b k n).length with hjl | hjl
    · have hcond : 0 < n ∧ k + 1 < data b.length + 2 := by
        rcases Decidable.em (0 < n ∧ k + 1 < data b.length + 2) with hc | hc
        · exact hc
        · exfalso
          unfold tail at hjl
          rw [if_neg hc, List.append_nil, List.length_take] at hjl
          omega
      have hjk : j = k := by
        unfold tail at hjl
        rw [if_pos hcond, hx, List.length_append, List.length_take, hlen] at hjl
        have hjl' : j < min k (data b.length + 2) + 1 := hjl
        omega
      subst hjk
      have hbj : (pre ++ tail lab pre.length h b j n)[pre.length + j]? = some (x.take n) := by
        rw [hget]
        unfold tail
        rw [if_pos hcond, hx, List.getElem?_append_right (by rw [List.length_take]; omega), List.length_take, hlen, show j - min j (data b.length + 2) = 0 by omega]
        rfl
      refine part_kind (t := ⟨lab, pre ++ tail lab pre.length h b j n, false⟩) hbj fun hg => ?_
      have hxg : Fm.Good x := by
        rw [put_yes hR, List.getElem?_map] at hx
        obtain ⟨u, hu⟩ : ∃ u, (units lab (pre.length : Int) h b)[j]? = some u := ⟨_, List.getElem?_eq_getElem (by rw [units_len]; exact hk)⟩
        rw [hu] at hx
        cases hx
        exact Fm.good_blk (units_ok hR.1.1 hR.2 hu)
      exact absurd hg (Fm.cut_no hxg (hn x hx))
    · refine part_end (t := ⟨lab, pre ++ tail lab pre.length h b k n, false⟩) ?_
      show (pre ++ tail lab pre.length h b k n).length ≤ pre.length + j
      rw [List.length_append]; omega
/-- what is kept, and found, of whole parts and a cut one behind them -/
theorem keeps {p q : Tx} {lab : Int} (hp : Pt.right p = true) (hlab : 1 ≤ lab ∧ lab ≤ 2147483647) {ns : List Nat} {l0 : Tx} (hl0 : l0.length ≤ 64) (hn : ∀ n ∈ ns, n ≤ 4000) (hc : ns.length ≤ 1000) (hr : 1 + room ns ≤ 900000) {last k n : Nat} (hq : Pt.right q = true) (hlast : last ≤ 4000) (hk : k < data last + 2)
    (hcut : ∀ x, (put lab ((1 + room ns : Nat) : Int) (hd q 0 last) (List.replicate last 0))[k]? = some x → n < x.length) :
    parts ⟨lab, lay p lab [Fm.blk (first lab l0)] 0 ns ++ tail lab (1 + room ns) (hd q 0 last) (List.replicate last 0) k n, false⟩ = places 1 (heads p 0 ns)
      ∧ keep ⟨lab, lay p lab [Fm.blk (first lab l0)] 0 ns ++ tail lab (1 + room ns) (hd q 0 last) (List.replicate last 0) k n, false⟩ = 1 + room ns := by
  have hlen : (lay p lab [Fm.blk (first lab l0)] 0 ns).length = 1 + room ns := lay_len hp hlab ns _ 0 hn (by omega) (by simp; omega)
  obtain ⟨L, hL⟩ : ∃ L, L = lay p lab [Fm.blk (first lab l0)] 0 ns := ⟨_, rfl⟩
  have hR := right_hd (at_ := L.length) (i := 0) hq hlab (by omega) hlast (by rw [hL, hlen]; omega)
  rw [← hlen, ← hL] at hcut ⊢
  have hno := tail_none (pre := L) (k := k) (n := n) hR (by rw [List.length_replicate]; exact hk) hcut
  have hlaid := laid_of (bs := L ++ tail lab L.length (hd q 0 last) (List.replicate last 0) k n) hp hlab ns [Fm.blk (first lab l0)] 0 hn (by omega) (by simp; omega) (by rw [List.length_append, hL, hlen]; exact Nat.le_add_right _ _)
    (fun j b hb _ _ => by rw [← hL] at hb; rw [List.getElem?_append_left (List.getElem?_eq_some_iff.1 hb).1]; exact hb)
  have hend : ending 1 (heads p 0 ns) = L.length := by rw [ending_room, hL, hlen]
  have hp' : parts ⟨lab, L ++ tail lab L.length (hd q 0 last) (List.replicate last 0) k n, false⟩ = places 1 (heads p 0 ns) := by
    refine parts_laid hlaid (fun m hm => hno m (by rw [hend] at hm; exact hm)) ?_
    have := ending_ge 1 (heads p 0 ns)
    rw [hend] at this
    show _ ≤ (L ++ _).length
    rw [List.length_append]; omega
  refine ⟨hp', ?_⟩
  rw [keep_laid hp' fun hnil => ?_, hend]
  obtain ⟨rest, hrest⟩ := lay_first p lab (Fm.blk (first lab l0)) 0 ns
  rw [good_at (u := first lab l0) rfl (by show (L ++ _)[0]? = _; rw [hL, hrest]; rfl) (first_ok hlab hl0) rfl rfl]
  rfl
/-- the heads lie where they were laid -/
def Heads (orig bs : List Tx) : Prop := bs.length = orig.length ∧ ∀ (k : Nat) (b : Tx), orig[k]? = some b → Fm.Good b → (Fm.parse b).kind = 2 → bs[k]? = some b
theorem Heads.refl (l : List Tx) : Heads l l := ⟨rfl, fun _ _ h _ _ => h⟩
/-- a block that is no head's is turned into whatever -/
theorem Heads.turn {orig bs : List Tx} (h : Heads orig bs) {k : Nat} {b : Tx} (hb : bs[k]? = some b) (hk : (Fm.parse b).kind ≠ 2) (x : Tx) : Heads orig (bs.set k x) := by
  refine ⟨by rw [List.length_set]; exact h.1, fun j c hc hg hkd => ?_⟩
  have hj := h.2 j c hc hg hkd
  rw [List.getElem?_set]
  by_cases e : k = j
  · subst e
    rw [hb] at hj
    cases hj
    exact absurd hkd hk
  · rw [if_neg e]; exact hj
theorem finds_turned {p : Tx} {lab : Int} (hp : Pt.right p = true) (hlab : 1 ≤ lab ∧ lab ≤ 2147483647) {bs : List Tx} {ns : List Nat} {b0 : Tx} (hn : ∀ n ∈ ns, n ≤ 4000) (hc : ns.length ≤ 1000) (hr : 1 + room ns ≤ 1000000) (h : Heads (lay p lab [b0] 0 ns) bs) : parts ⟨lab, bs, false⟩ = places 1 (heads p 0 ns) :=
  finds hp hlab hn hc hr (by rw [h.1]; exact lay_len hp hlab ns _ 0 hn (by omega) (by simpa using hr)) h.2
end Go.Proofs.YtbijjgicjkmopaaDoor.Vo
namespace Go.Proofs.YtbijjgicjkmopaaDoor.Vo
open Pt (Tx)

theorem lay_snoc (p : Tx) (lab : Int) (n : Nat) : ∀ (ns : List Nat) (pre : List Tx) (i : Nat), lay p lab pre i (ns ++ [n]) = lay p lab pre i ns ++ put lab ((lay p lab pre i ns).length : Int) (hd p (i + ns.length) n) (List.replicate n 0)
  | [], pre, i => rfl
  | m :: ns, pre, i => by
    rw [List.cons_append, lay, lay, lay_snoc p lab n ns, List.length_cons, show i + 1 + ns.length = i + (ns.length + 1) by omega]
theorem put_le {lab at_ : Int} {h : Rc.H} {b : Tx} {s : Tx} (hs : s ∈ put lab at_ h b) : s.length ≤ 94 := by
  by_cases k : Right lab at_ h b
  · rw [put_yes k] at hs
    obtain ⟨u, hu, rfl⟩ := List.mem_map.1 hs
    obtain ⟨j, hj⟩ := List.getElem?_of_mem hu
    have := units_ok k.1.1 k.2 hj
    rw [← Fm.put_ok this]
    exact Fm.put_le u
  · rw [put_no k] at hs; cases hs
theorem put_pos {lab at_ : Int} {h : Rc.H} {b : Tx} {s : Tx} (hs : s ∈ put lab at_ h b) : 15 ≤ s.length := by
  by_cases k : Right lab at_ h b
  · rw [put_yes k] at hs
    obtain ⟨u, hu, rfl⟩ := List.mem_map.1 hs
    obtain ⟨j, hj⟩ := List.getElem?_of_mem hu
    have := units_ok k.1.1 k.2 hj
    rw [Fm.blk_len this]; omega
  · rw [put_no k] at hs; cases hs
theorem lay_le {p : Tx} {lab : Int} {s : Tx} : ∀ (ns : List Nat) (pre : List Tx) (i : Nat), (∀ x ∈ pre, x.length ≤ 94) → s ∈ lay p lab pre i ns → s.length ≤ 94
  | [], pre, _, hp, hs => hp s hs
  | m :: ns, pre, i, hp, hs => lay_le ns _ (i + 1) (fun x hx => by
      rcases List.mem_append.1 hx with h | h
      · exact hp x h
      · exact put_le h) hs
theorem room_snoc (n : Nat) : ∀ ns : List Nat, room (ns ++ [n]) = room ns + (data n + 2)
  | [] => by simp [room]
  | m :: ns => by rw [List.cons_append, room, room, room_snoc n ns]; omega
theorem room_le : ∀ ns : List Nat, (∀ n ∈ ns, n ≤ 127) → room ns ≤ 4 * ns.length
  | [], _ => Nat.le_refl _
  | m :: ns, h => by
    have h1 := room_le ns fun n hn => h n (List.mem_cons_of_mem _ hn)
    have h2 := h m (List.mem_cons_self ..)
    rw [room, List.length_cons]
    unfold data
    omega
end Go.Proofs.YtbijjgicjkmopaaDoor.Vo
namespace Go.Proofs.YtbijjgicjkmopaaDoor
open Pt (Tx)

namespace Ct
/-- one part that is the file -/
theorem whole_one {p : P} (h0 : p.h.from_ = 0) (hl : p.h.len = p.h.size) (hs : 0 ≤ p.h.size) : whole [p] = some (file p.h [p]) := by
  have ha : alikeB [p] = true := by simp [alikeB]
  have hg : goes p.h.size 0 p = true := by
    unfold goes
    rw [h0, hl]
    by_cases h : 0 < p.h.size
    · simp [h, show ¬ p.h.size ≤ 0 by omega]
    · simp [h]
  have hf : first [p] p.h.size 0 = some 0 := by
    unfold first
    rw [List.findIdx?_cons, hg]; rfl
  rw [whole_yes ha (p := p) rfl]
  unfold row
  rw [if_neg (by omega)]
  show (walk [p] p.h.size 1 0 []).map (file p.h) = _
  rw [walk_some hf (p := p) rfl, h0, hl, Int.zero_add, if_neg (by omega), if_pos rfl]
  rfl
end Ct
end Go.Proofs.YtbijjgicjkmopaaDoor
namespace Go.Proofs.YtbijjgicjkmopaaDoor
open Pt (Tx)

namespace Ct
theorem cmpS_neg {a b : Tx} : cmpS a b < 0 ↔ a < b := by
  unfold cmpS
  by_cases h : a < b
  · simp [h]
  · by_cases h2 : b < a <;> simp [h, h2]
theorem cmpS_zero {a b : Tx} : cmpS a b = 0 ↔ a = b := by
  unfold cmpS
  by_cases h : a < b
  · have : a ≠ b := fun e => by subst e; exact List.lt_irrefl _ h
    simp [h, this]
  · by_cases h2 : b < a
    · have : a ≠ b := fun e => by subst e; exact List.lt_irrefl _ h2
      simp [h, h2, this]
    · have : a = b := List.le_antisymm (List.not_lt.1 h2) (List.not_lt.1 h)
      rw [if_neg h, if_neg h2]; simp [this]
theorem cmpZ_neg {a b : Int} : cmpZ a b < 0 ↔ a < b := by
  unfold cmpZ
  by_cases h : a < b
  · simp [h]
  · by_cases h2 : b < a <;> simp [h, h2]
theorem cmpZ_zero {a b : Int} : cmpZ a b = 0 ↔ a = b := by
  unfold cmpZ
  by_cases h : a < b
  · simp [h]; omega
  · by_cases h2 : b < a
    · simp [h, h2]; omega
    · simp [h, h2]; omega
theorem less_iff {a b : F} : less a b = true ↔ a.path < b.path ∨ (a.path = b.path ∧ (a.version < b.version ∨ (a.version = b.version ∧ b.serial < a.serial))) := by
  unfold less cmp
  rw [decide_eq_true_iff]
  by_cases h : cmpS a.path b.path = 0
  · rw [if_neg (by simpa using h)]
    have he := cmpS_zero.1 h
    have hn : ¬ a.path < b.path := by rw [he]; exact List.lt_irrefl _
    by_cases h2 : cmpZ a.version b.version = 0
    · rw [if_neg (by simpa using h2), cmpZ_neg]
      have hv := cmpZ_zero.1 h2
      constructor
      · intro h3; exact .inr ⟨he, .inr ⟨hv, h3⟩⟩
      · rintro (h3 | ⟨_, h3 | ⟨_, h3⟩⟩)
        · exact absurd h3 hn
        · omega
        · exact h3
    · rw [if_pos (by simpa using h2), cmpZ_neg]
      constructor
      · intro h3; exact .inr ⟨he, .inl h3⟩
      · rintro (h3 | ⟨_, h3 | ⟨h4, h3⟩⟩)
        · exact absurd h3 hn
        · exact h3
        · exact absurd (cmpZ_zero.2 h4) h2
  · rw [if_pos (by simpa using h), cmpS_neg]
    constructor
    · intro h3; exact .inl h3
    · rintro (h3 | ⟨h4, _⟩)
      · exact h3
      · exact absurd (cmpS_zero.2 h4) h
theorem ord_less : Sr.Ord less (fun _ => True) where
  asym a b _ _ h := by
    cases e : less b a with
    | false => rfl
    | true =>
      rw [less_iff] at h e
      exfalso
      rcases h with h | ⟨hp, h⟩
      · rcases e with e | ⟨ep, _⟩
        · exact List.lt_irrefl _ (List.lt_trans h e)
        · rw [ep] at h; exact List.lt_irrefl _ h
      · rcases e with e | ⟨_, e⟩
        · rw [hp] at e; exact List.lt_irrefl _ e
        · omega
  tr a b c _ _ _ h1 h2 := by
    cases e : less a c with
    | false => rfl
    | true =>
      exfalso
      have h1' : ¬ (less a b = true) := by rw [h1]; decide
      have h2' : ¬ (less b c = true) := by rw [h2]; decide
      rw [less_iff] at h1' h2' e
      simp only [not_or, not_and] at h1' h2'
      obtain ⟨a1, a2⟩ := h1'
      obtain ⟨b1, b2⟩ := h2'
      have l1 : b.path ≤ a.path := List.not_lt.1 a1
      have l2 : c.path ≤ b.path := List.not_lt.1 b1
      rcases e with e | ⟨ep, e⟩
      · exact absurd e (List.not_lt.2 (List.le_trans l2 l1))
      · have e1 : a.path = b.path := List.le_antisymm (by rw [ep]; exact l2) l1
        have e2 : b.path = c.path := by rw [← e1]; exact ep
        have a3 := a2 e1
        have b3 := b2 e2
        have a4 := a3.1
        have b4 := b3.1
        by_cases q1 : a.version = b.version
        · have a5 := a3.2 q1
          by_cases q2 : b.version = c.version
          · have b5 := b3.2 q2; omega
          · omega
        · omega
theorem less_anti {a b : F} (h1 : less a b = false) (h2 : less b a = false) : a.path = b.path ∧ a.version = b.version ∧ a.serial = b.serial := by
  have h1' : ¬ (less a b = true) := by rw [h1]; decide
  have h2' : ¬ (less b a = true) := by rw [h2]; decide
  rw [less_iff] at h1' h2'
  simp only [not_or, not_and] at h1' h2'
  obtain ⟨a1, a2⟩ := h1'
  obtain ⟨b1, b2⟩ := h2'
  have e : a.path = b.path := List.le_antisymm (List.not_lt.1 b1) (List.not_lt.1 a1)
  have a3 := a2 e
  have b3 := b2 e.symm
  have e2 : a.version = b.version := by omega
  have a4 := a3.2 e2
  have b4 := b3.2 e2.symm
  exact ⟨e, e2, by omega⟩
/-- parts of which no two are of one are each in a list of their own -/
theorem gather_apart : ∀ (ps : List P), ps.Pairwise (fun p q => common p.h ≠ common q.h) → gather ps = ps.map fun p => (common p.h, [p]) := by
  have key : ∀ n (ps : List P), ps.length = n → ps.Pairwise (fun p q => common p.h ≠ common q.h) → gather ps = ps.map fun p => (common p.h, [p]) := by
    intro n
    induction n with
    | zero => intro ps hl _; rw [List.length_eq_zero_iff.1 hl]; rfl
    | succ n ih =>
      intro ps hl hp
      obtain ⟨ps', p, rfl⟩ : ∃ l' x, ps = l' ++ [x] := ⟨ps.dropLast, ps.getLast (by intro e; rw [e] at hl; cases hl), (List.dropLast_concat_getLast _).symm⟩
      obtain ⟨h1, _, h3⟩ := List.pairwise_append.1 hp
      rw [gather_snoc, ih ps' (by simpa using hl) h1, List.map_append]
      have hn : idx (ps'.map fun p => (common p.h, [p])) (common p.h) = none := by
        unfold idx
        rw [List.findIdx?_eq_none_iff]
        intro x hx
        obtain ⟨q, hq, rfl⟩ := List.mem_map.1 hx
        exact decide_eq_false (h3 q hq p (by simp))
      unfold add
      rw [hn]
      show put (ps'.map (fun p => (common p.h, [p])) ++ [(common p.h, [])]) (ps'.map fun p => (common p.h, [p])).length p = _
      rw [put_snoc]; rfl
  exact fun ps h => key ps.length ps rfl h
end Ct
namespace Co
def path (i : Nat) : Tx := [97 + UInt8.ofNat (i % 3)]
theorem path_right (i : Nat) : Pt.right (path i) = true := by
  unfold path
  have h : i % 3 = 0 ∨ i % 3 = 1 ∨ i % 3 = 2 := by omega
  rcases h with h | h | h <;> rw [h] <;> decide
def hd (z i : Nat) : Rc.H := ⟨path i, 1 + ((i / 3 % 2 : Nat) : Int), (z : Int), 0, (z : Int), (i : Int) + 1, 0, decide (z = 0) && decide (i % 2 = 1)⟩
theorem hd_ok {z i : Nat} (hz : z ≤ 127) (hi : i ≤ 1000) : Rc.Ok (hd z i) := by
  refine ⟨path_right i, ⟨?_, ?_⟩, ⟨?_, ?_⟩, ⟨?_, ?_⟩, ?_, ?_, ?_, ?_, ⟨?_, ?_⟩, ?_⟩
  · show (1 : Int) ≤ 1 + ((i / 3 % 2 : Nat) : Int); omega
  · show 1 + ((i / 3 % 2 : Nat) : Int) ≤ 1073741824; omega
  · show (1 : Int) ≤ (i : Int) + 1; omega
  · show (i : Int) + 1 ≤ 1073741824; omega
  · show (0 : Int) ≤ (z : Int); omega
  · show (z : Int) ≤ 4000; omega
  · show (0 : Int) ≤ 0; decide
  · show (0 : Int) ≤ (z : Int); omega
  · show (0 : Int) + (z : Int) ≤ (z : Int); omega
  · show (0 : Int) < (z : Int) ∨ (z : Int) = 0; omega
  · show (0 : Int) ≤ 0; decide
  · show (0 : Int) ≤ 4294967295; decide
  · intro h
    have h0 : z = 0 := by
      have : (decide (z = 0) && decide (i % 2 = 1)) = true := h
      simp only [Bool.and_eq_true, decide_eq_true_eq] at this
      exact this.1
    subst h0
    exact ⟨rfl, rfl, rfl, rfl⟩
def b0 (i : Nat) : Tx := Fm.blk (Vo.first ((i : Int) + 1) [68])
theorem b0_ok {i : Nat} (hi : i ≤ 1000) : Fm.Ok (Vo.first ((i : Int) + 1) [68]) := Vo.first_ok ⟨by omega, by omega⟩ (by decide)
def data (z i : Nat) : List Tx := Vo.put ((i : Int) + 1) 1 (hd z i) (List.replicate z 0)
theorem right {z i : Nat} (hz : z ≤ 127) (hi : i ≤ 1000) : Vo.Right ((i : Int) + 1) 1 (hd z i) (List.replicate z 0) := by
  refine ⟨⟨hd_ok hz hi, by rw [List.length_replicate]; rfl⟩, ⟨by omega, by omega⟩, by decide, ?_⟩
  rw [List.length_replicate]; unfold Vo.data; omega
def blocks (z i : Nat) : List Tx := b0 i :: data z i
theorem data_len {z i : Nat} (hz : z ≤ 127) (hi : i ≤ 1000) : (data z i).length = Vo.data z + 2 := by
  unfold data; rw [Vo.put_len (right hz hi), List.length_replicate]
theorem blocks_le {z i : Nat} (hi : i ≤ 1000) : ∀ s ∈ blocks z i, s.length ≤ 94 := by
  intro s hs
  rcases List.mem_cons.1 hs with rfl | hs
  · rw [b0, ← Fm.put_ok (b0_ok hi)]; exact Fm.put_le _
  · exact Vo.put_le hs
def tape (Z : Nat → Nat) (i : Nat) : St.T := ⟨(i : Int) + 1, 20, blocks (Z i) i, false⟩
def P (Z : Nat → Nat) (i : Nat) : Ct.P := ⟨hd (Z i) i, (i : Int) + 1, 1⟩
theorem parts_tape {Z : Nat → Nat} {i : Nat} (hz : Z i ≤ 127) (hi : i ≤ 1000) : Ct.partsOf (tape Z i) = [P Z i] := by
  have hR := right hz hi
  have hok := hd_ok hz hi
  have hlen : (blocks (Z i) i).length = Vo.data (Z i) + 3 := by unfold blocks; rw [List.length_cons, data_len hz hi]
  have hd1 : Vo.data (hd (Z i) i).len.toNat = Vo.data (Z i) := by
    show Vo.data ((Z i : Nat) : Int).toNat = _
    simp
  have hblk : (blocks (Z i) i)[1]? = some (Fm.blk (Vo.headU ((i : Int) + 1) 1 (hd (Z i) i))) := by
    unfold blocks
    show (data (Z i) i)[0]? = _
    unfold data
    rw [Vo.put_yes hR, List.getElem?_map, Vo.units_zero]; rfl
  have hpart : Vo.part ⟨(i : Int) + 1, blocks (Z i) i, false⟩ 1 = some (hd (Z i) i) := by
    refine Vo.part_at (t := ⟨(i : Int) + 1, blocks (Z i) i, false⟩) rfl ⟨⟨by show (1 : Int) ≤ (i : Int) + 1; omega, by show (i : Int) + 1 ≤ 2147483647; omega⟩, by decide, by decide⟩ hok hblk ?_
    show 1 + Vo.data (hd (Z i) i).len.toNat + 1 < (blocks (Z i) i).length
    rw [hd1, hlen]; omega
  have hparts : Vo.parts ⟨(i : Int) + 1, blocks (Z i) i, false⟩ = [(hd (Z i) i, 1)] := by
    refine Vo.parts_laid (hs := [hd (Z i) i]) ⟨hpart, trivial⟩ (fun m hm => Vo.part_end ?_) ?_
    · show (blocks (Z i) i).length ≤ m
      have : 1 + Vo.data (hd (Z i) i).len.toNat + 2 ≤ m := hm
      rw [hd1] at this
      rw [hlen]; omega
    · show 1 ≤ (blocks (Z i) i).length
      rw [hlen]; omega
  unfold Ct.partsOf
  show (Vo.parts ⟨(i : Int) + 1, blocks (Z i) i, false⟩).map _ = _
  rw [hparts]; rfl
theorem all_tapes {Z : Nat → Nat} : ∀ (ks : List Nat), (∀ k ∈ ks, Z k ≤ 127 ∧ k ≤ 1000) → Ct.all (ks.map (tape Z)) = ks.map (P Z)
  | [], _ => rfl
  | k :: ks, h => by
    have h1 := h k List.mem_cons_self
    show Ct.all (tape Z k :: ks.map (tape Z)) = P Z k :: ks.map (P Z)
    have h2 : Ct.all (tape Z k :: ks.map (tape Z)) = Ct.partsOf (tape Z k) ++ Ct.all (ks.map (tape Z)) := rfl
    rw [h2, parts_tape h1.1 h1.2, all_tapes ks fun k hk => h k (List.mem_cons_of_mem _ hk)]; rfl
def F (Z : Nat → Nat) (i : Nat) : Ct.F := Ct.file (hd (Z i) i) [P Z i]
theorem files_tapes {Z : Nat → Nat} {ks : List Nat} (hn : ks.Nodup) : Ct.files (Ct.gather (ks.map (P Z))) = ks.map (F Z) := by
  rw [Ct.gather_apart]
  · unfold Ct.files
    rw [List.map_map]
    have key : ∀ l : List Nat, (l.map ((fun p : Ct.P => (Ct.common p.h, [p])) ∘ P Z)).filterMap (fun g => Ct.whole g.2) = l.map (F Z) := by
      intro l
      induction l with
      | nil => rfl
      | cons k l ih =>
        rw [List.map_cons, List.filterMap_cons, ih, List.map_cons]
        have hw : Ct.whole [P Z k] = some (F Z k) := Ct.whole_one (p := P Z k) rfl rfl (by show (0 : Int) ≤ ((Z k : Nat) : Int); omega)
        simp only [Function.comp_apply, hw]
    exact key ks
  · rw [List.pairwise_map]
    refine hn.imp fun {a b} hab h => hab ?_
    have := congrArg Rc.H.serial h
    have h2 : (a : Int) + 1 = (b : Int) + 1 := this
    omega
theorem from_tapes {Z : Nat → Nat} {ks : List Nat} (hn : ks.Nodup) (h : ∀ k ∈ ks, Z k ≤ 127 ∧ k ≤ 1000) : Ct.from_ (ks.map (tape Z)) = Sr.compact Ct.same (Sr.isort Ct.less (ks.map (F Z))) := by
  unfold Ct.from_
  rw [all_tapes ks h, files_tapes hn]
/-- in whichever order -/
theorem from_perm {Z : Nat → Nat} {ks ls : List Nat} (hp : ks.Perm ls) (hn : ks.Nodup) (h : ∀ k ∈ ks, Z k ≤ 127 ∧ k ≤ 1000) : Ct.from_ (ks.map (tape Z)) = Ct.from_ (ls.map (tape Z)) := by
  rw [from_tapes hn h, from_tapes (hp.nodup_iff.1 hn) (fun k hk => h k (hp.mem_iff.2 hk))]
  congr 1
  refine Sr.isort_of_perm Ct.ord_less (hp.map _) (fun _ _ => trivial) fun a ha b hb h1 h2 => ?_
  obtain ⟨i, _, rfl⟩ := List.mem_map.1 ha
  obtain ⟨j, _, rfl⟩ := List.mem_map.1 hb
  have h3 := (Ct.less_anti h1 h2).2.2
  have h4 : (i : Int) + 1 = (j : Int) + 1 := h3
  have : i = j := by omega
  rw [this]
theorem from_pos {Z : Nat → Nat} {ks : List Nat} (hn : ks.Nodup) (h : ∀ k ∈ ks, Z k ≤ 127 ∧ k ≤ 1000) (h0 : 0 < ks.length) : 0 < (Ct.from_ (ks.map (tape Z))).length := by
  rw [from_tapes hn h]
  have hl : (Sr.isort Ct.less (ks.map (F Z))).length = ks.length := by rw [Sr.isort_len, List.length_map]
  cases e : Sr.isort Ct.less (ks.map (F Z)) with
  | nil => rw [e] at hl; simp at hl; omega
  | cons a l => rw [Sr.compact]; simp
theorem from_le {Z : Nat → Nat} {ks : List Nat} (hn : ks.Nodup) (h : ∀ k ∈ ks, Z k ≤ 127 ∧ k ≤ 1000) : (Ct.from_ (ks.map (tape Z))).length ≤ ks.length := by
  rw [from_tapes hn h]
  have h1 := Sr.compact_le Ct.same (Sr.isort Ct.less (ks.map (F Z)))
  rwa [Sr.isort_len, List.length_map] at h1
theorem from_parts {Z : Nat → Nat} {ks : List Nat} (hn : ks.Nodup) (h : ∀ k ∈ ks, Z k ≤ 127 ∧ k ≤ 1000) : ∀ f ∈ Ct.from_ (ks.map (tape Z)), f.parts.length ≤ 1000000 := by
  intro f hf
  rw [from_tapes hn h] at hf
  obtain ⟨k, _, rfl⟩ := List.mem_map.1 (Sr.mem_isort.1 (Sr.mem_compact hf))
  show 1 ≤ 1000000
  decide
end Co
end Go.Proofs.YtbijjgicjkmopaaDoor
namespace Go.Proofs.YtbijjgicjkmopaaDoor
open Go.RowKit
open Pt (Tx)

/-- a piece, as a slice -/
structure Pc where
  A : Option Addr
  n : Nat
  C : Nat
/-- the piece k of L bytes -/
def pcAt (b off L k : Nat) : Pc := ⟨some ⟨b, off + 64 * k, none⟩, min 64 (L - 64 * k), min 64 (L - 64 * k)⟩
/-- what has come when k rounds are over -/
def pcs (b off L k : Nat) : List Pc := (List.range k).map (pcAt b off L)
theorem pcs_succ (b off L k : Nat) : pcs b off L (k + 1) = pcs b off L k ++ [pcAt b off L k] := by simp [pcs, List.range_succ]
theorem pcs_len (b off L k : Nat) : (pcs b off L k).length = k := by simp [pcs]
/-- a unit as it lies in a row: its kind, and its load -/
structure Uv where
  kind : Int
  A : Option Addr
  n : Nat
  C : Nat
def cells4 (u : Uv) : List Value := [.int .i64 u.kind, .int .i64 0, .int .i64 0, .slice u.A u.n u.C]
def encU : Enc Uv where
  k := 4
  pos := by decide
  enc u := cells4 u
  len _ := rfl
  one q u hu := by
    simp only [cells4, List.mem_cons, List.not_mem_nil, or_false] at hu
    rcases hu with rfl | rfl | rfl | rfl <;> rfl
/-- a piece's unit -/
def pu (p : Pc) : Uv := ⟨3, p.A, p.n, p.C⟩
def uvs (Ah : Option Addr) (nh Ch : Nat) (ps : List Pc) : List Uv := ⟨2, Ah, nh, Ch⟩ :: ps.map pu
theorem uvs_snoc (Ah : Option Addr) (nh Ch : Nat) (ps : List Pc) (p : Pc) : uvs Ah nh Ch (ps ++ [p]) = uvs Ah nh Ch ps ++ [pu p] := by simp [uvs]
end Go.Proofs.YtbijjgicjkmopaaDoor
