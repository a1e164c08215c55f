/- Bounds and rooms of the tapes that the law of chapter 19 lays. A slice of slices of bytes: what its element is. No function of the program. A slice of slices of the law's own, made by append, each row its own. No function of the program. The document's own tape in memory, behind a pointer. No function of the program. A byte of one of a tape's own rows is turned. No function of the program. -/
import Derived.Test.YtndofmoepjfnfaaGreatMal
import Derived.Test.YtndofmoepjfnfaaGreatMad
import Derived.Test.YtndofmoepjfnfaaGreatChecked
import Derived.Test.YtndofmoepjfnfaaGreatMak
namespace Go.Proofs.YtndofmoepjfnfaaGreat.Rs
open Pt (Tx)

theorem mem_tps {caps : List Int} {β : Nat → List Tx} {t : St.T} (h : t ∈ tps caps β) : ∃ i, i < caps.length ∧ t = ⟨(i : Int) + 1, caps.getD i 0, β i, false⟩ := by
  unfold tps at h
  obtain ⟨i, hi, rfl⟩ := List.mem_map.1 h
  exact ⟨i, List.mem_range.1 hi, rfl⟩
theorem mem_now {caps : List Int} {b : Tx} {ps : List Pc} {Z : Nat → Nat → Bool} {t : St.T} (h : t ∈ now caps b ps Z) : ∃ i, i < caps.length ∧ t = ⟨(i : Int) + 1, caps.getD i 0, zed (Z i) (on b ps i), false⟩ := by
  unfold now at h
  obtain ⟨i, hi, rfl⟩ := List.mem_map.1 h
  exact ⟨i, List.mem_range.1 hi, rfl⟩
theorem rooms_tps {caps : List Int} (h : ∀ i, i < caps.length → 1 ≤ caps.getD i 0) : Wr.rooms (tps caps fun _ => []) [] = caps.map fun c => c - 1 := by
  rw [Wr.rooms_blank _ fun t ht => by
    obtain ⟨i, hi, rfl⟩ := mem_tps ht
    exact ⟨rfl, rfl, h i hi⟩]
  apply List.ext_getElem?
  intro i
  by_cases hi : i < caps.length
  · rw [List.getElem?_map, tps_get hi, List.getElem?_map, List.getElem?_eq_getElem hi]
    show some (caps.getD i 0 - 1) = some (caps[i] - 1)
    rw [List.getD_eq_getElem?_getD, List.getElem?_eq_getElem hi]; rfl
  · rw [List.getElem?_eq_none (by rw [List.length_map, tps_len]; omega), List.getElem?_eq_none (by rw [List.length_map]; omega)]
/-- blocks of what was laid are short -/
theorem on_short {caps : List Int} {b : Tx} {ps : List Pc} (hb : b.length ≤ 2000) (hc : caps.length ≤ 1000) (h : Chain caps b.length 0 0 ps) (i : Nat) : (on b ps i).length ≤ 1000 ∧ ∀ s ∈ on b ps i, s.length ≤ 1000 := by
  unfold on
  cases hf : ps.find? (fun p => p.tape == i) with
  | none => exact ⟨Nat.zero_le _, fun s hs => nomatch hs⟩
  | some p =>
    have hin := (h.in_ p (List.mem_of_find?_eq_some hf)).1
    have hlt := hin.lt
    have hle := hin.le
    refine ⟨?_, fun s hs => ?_⟩
    · show ((us b p).map Fm.blk).length ≤ 1000
      rw [List.length_map, us_len hin.le]
      unfold Vo.data
      omega
    · obtain ⟨u, hu, rfl⟩ := List.mem_map.1 hs
      have hok := us_ok hb hin (by omega) u hu
      have h1 := Fm.blk_len hok
      have h2 := Fm.room_le u.kind
      omega
theorem rot_len (x : Tx) : (rot x).length = x.length := by unfold rot; rw [List.length_set]
theorem now_short {caps : List Int} {b : Tx} {ps : List Pc} {Z : Nat → Nat → Bool} (hb : b.length ≤ 2000) (hc : caps.length ≤ 1000) (h : Chain caps b.length 0 0 ps) : ∀ t ∈ now caps b ps Z, t.blocks.length ≤ 1000 ∧ ∀ s ∈ t.blocks, s.length ≤ 1000 := fun t ht => by
  obtain ⟨i, hi, rfl⟩ := mem_now ht
  obtain ⟨h1, h2⟩ := on_short hb hc h i
  refine ⟨by show (zed (Z i) (on b ps i)).length ≤ 1000; rw [zed_len]; exact h1, fun s hs => ?_⟩
  obtain ⟨j, hj, rfl⟩ := List.mem_iff_getElem.1 hs
  have hj' : j < (on b ps i).length := by rw [← zed_len (Z i)]; exact hj
  have e := zed_get (Z := Z i) (List.getElem?_eq_getElem hj')
  have e2 : (zed (Z i) (on b ps i))[j] = if Z i j = true then rot (on b ps i)[j] else (on b ps i)[j] := Option.some.inj ((List.getElem?_eq_getElem hj).symm.trans e)
  show (zed (Z i) (on b ps i))[j].length ≤ 1000
  rw [e2]
  have := h2 _ (List.getElem_mem hj')
  split
  · rw [rot_len]; exact this
  · exact this
theorem laid_short {caps : List Int} {b : Tx} {ps : List Pc} (hb : b.length ≤ 2000) (hc : caps.length ≤ 1000) (h : Chain caps b.length 0 0 ps) : ∀ x ∈ up (laidSteps b ps), x.2.length ≤ 1000 := fun x hx => by
  unfold up laidSteps at hx
  rw [List.map_map] at hx
  obtain ⟨y, hy, rfl⟩ := List.mem_map.1 hx
  obtain ⟨p, hp, e, n, hn⟩ := mem_steps hy
  have hin := (h.in_ p hp).1
  have hlt := hin.lt
  have hok := us_ok hb hin (by omega) y.2 (List.mem_of_getElem? hn)
  have h1 := Fm.blk_len hok
  have h2 := Fm.room_le y.2.kind
  show (Fm.blk y.2).length ≤ 1000
  omega
/-- the parts of what was laid -/
theorem file_part {caps : List Int} {b : Tx} {ps : List Pc} (hb : b.length ≤ 2000) (h : Chain caps b.length 0 0 ps) : ∀ p ∈ (file b ps).parts, ∃ L a : Nat, p.h.len = (L : Int) ∧ L ≤ 1000000 ∧ p.at_ = (a : Int) ∧ a ≤ 1000000000 := fun p hp => by
  rw [file_parts] at hp
  obtain ⟨x, hx, rfl⟩ := List.mem_map.1 hp
  have hin := (h.in_ x hx).1
  have := hin.le
  exact ⟨x.len, 1, rfl, by omega, rfl, by omega⟩
/-- each tape has one piece at most: so many pieces -/
theorem chain_len {caps : List Int} {size : Nat} : ∀ {ps : List Pc} {next at_ : Nat}, Chain caps size next at_ ps → next ≤ caps.length → next + ps.length ≤ caps.length
  | [], _, _, _, h => h
  | p :: ps, next, at_, h, _ => by
    obtain ⟨h1, -, -, -, ⟨h5, -⟩, h7⟩ := h
    have := chain_len h7 (by omega)
    rw [List.length_cons]
    omega
theorem steps_len {caps : List Int} {b : Tx} (hb : b.length ≤ 2000) : ∀ {ps : List Pc} {next at_ : Nat}, Chain caps b.length next at_ ps → (laidSteps b ps).length ≤ 1000 * ps.length
  | [], _, _, _ => Nat.le_refl _
  | p :: ps, next, at_, h => by
    have hin := (h.in_ p List.mem_cons_self).1
    have hle := hin.le
    obtain ⟨-, -, -, -, -, h7⟩ := h
    have ih := steps_len hb h7
    unfold laidSteps steps at ih ⊢
    rw [List.flatMap_cons, List.map_append, List.length_append, List.length_map, List.length_map, us_len hle, List.length_cons]
    unfold Vo.data
    omega
end Go.Proofs.YtndofmoepjfnfaaGreat.Rs
namespace Go.Proofs.YtndofmoepjfnfaaGreat
open Go.RowKit

theorem infoRowT : (Tryz.prog.info? 22).map (fun i => (i.zero, i.size, i.bytes)) = some (some (.slice none 0 0), 1, 24) := by kernel_rfl
end Go.Proofs.YtndofmoepjfnfaaGreat
namespace Go.Proofs.YtndofmoepjfnfaaGreat
open Go.RowKit
open Pt (Tx)

/-- v is a slice of the call's own whose rows us are the call's own, hold bs, and lie in blocks of G, no two in one -/
structure TopB (w : World) (B : Nat) (G : Nat → Prop) (v : Value) (us : List Value) (bs : List Tx) : Prop where
  top : w.ownsRow B 22 1 v us.length us
  len : us.length = bs.length
  rows : ∀ i (h : i < us.length) (h' : i < bs.length), OwnL w B us[i] bs[i]
  gs : ∀ i (h : i < us.length) k, us[i].ownBlock = some k → G k
  inj : ∀ i j (hi : i < us.length) (hj : j < us.length) k, us[i].ownBlock = some k → us[j].ownBlock = some k → i = j
theorem own_blk {w : World} {B : Nat} {t : TypeId} {v : Value} {n : Nat} {xs : List Value} (h : w.ownsRow B t 1 v n xs) : ∀ k, v.ownBlock = some k → ∃ c, w.heap[k]? = some (.cells c t (0, 0)) := by
  intro k hk
  rcases h.2 with ⟨rfl, _⟩ | ⟨g, cap, cur, rfl, _, hg, _⟩
  · cases hk
  · cases hk; exact ⟨cur, hg⟩
theorem own_of {w w' : World} {B : Nat} {t : TypeId} {v : Value} {n : Nat} {xs : List Value} (h : w.ownsRow B t 1 v n xs) (hb : ∀ k, v.ownBlock = some k → w'.heap[k]? = w.heap[k]?) : w'.ownsRow B t 1 v n xs := by
  refine ⟨h.1, ?_⟩
  rcases h.2 with h0 | ⟨g, cap, cur, rfl, hb', hg, hr⟩
  · exact .inl h0
  · exact .inr ⟨g, cap, cur, rfl, hb', (hb g rfl).trans hg, hr⟩
namespace TopB
variable {w w' : World} {B : Nat} {G G' : Nat → Prop} {v : Value} {us : List Value} {bs : List Tx}
theorem nil (w : World) (B : Nat) (G : Nat → Prop) : TopB w B G (.slice none 0 0) [] [] :=
  ⟨World.ownsRow_nil _ _ _ _, rfl, fun i h => absurd h (by simp), fun i h => absurd h (by simp), fun i j h => absurd h (by simp)⟩
/-- what is not touched is as it was -/
theorem kp {S : Nat → Prop} (h : TopB w B G v us bs) (hk : Kp S w w') (h1 : ∀ k c, S k → w.heap[k]? ≠ some (.cells c 22 (0, 0))) (h2 : ∀ k, S k → ¬ G k) : TopB w' B G v us bs := by
  refine ⟨own_of h.top fun k e => ?_, h.len, fun i hi hi' => (h.rows i hi hi').kp hk fun k e hs => h2 k hs (h.gs i hi k e), h.gs, h.inj⟩
  obtain ⟨c, hc⟩ := own_blk h.top k e
  exact hk.block k (heap_lt hc) fun hs => h1 k c hs hc
/-- the same, told by what lies there -/
theorem kpT {S : Nat → Prop} (h : TopB w B G v us bs) (hk : Kp S w w') (h1 : ∀ k c, S k → w.heap[k]? ≠ some (.cells c 22 (0, 0))) (h2 : ∀ k c, S k → w.heap[k]? ≠ some (.cells c 5 (0, 0))) : TopB w' B G v us bs := by
  refine ⟨own_of h.top fun k e => ?_, h.len, fun i hi hi' => (h.rows i hi hi').kp hk fun k e hs => ?_, h.gs, h.inj⟩
  · obtain ⟨c, hc⟩ := own_blk h.top k e
    exact hk.block k (heap_lt hc) fun hs => h1 k c hs hc
  · obtain ⟨c, hc⟩ := (h.rows i hi hi').block k e
    exact h2 k c hs hc
theorem old (h : TopB w B G v us bs) (hb : Below w.heap.size w w') : TopB w' B G v us bs :=
  h.kp (S := fun _ => False) (Kp.of_below hb) (fun _ _ h => h.elim) (fun _ h => h.elim)
theorem mono (h : TopB w B G v us bs) (hg : ∀ k, G k → G' k) : TopB w B G' v us bs := ⟨h.top, h.len, h.rows, fun i hi k e => hg k (h.gs i hi k e), h.inj⟩
/-- all its rows are there -/
theorem there (h : TopB w B G v us bs) : TopB w B (fun k => G k ∧ k < w.heap.size) v us bs :=
  ⟨h.top, h.len, h.rows, fun i hi k e => ⟨h.gs i hi k e, (h.rows i hi (by rw [← h.len]; exact hi)).lt k e⟩, h.inj⟩
/-- as a value -/
theorem val (h : TopB w B G v us bs) : ∃ A C, v = .slice A bs.length C ∧ bs.length ≤ C ∧ C ≤ maxLen ∧ (A = none → bs.length = 0 ∧ C = 0) := by
  rcases h.top.2 with ⟨rfl, h0⟩ | ⟨g, cap, cur, rfl, _, _, hnc, hcm, _⟩
  · have : bs.length = 0 := by rw [← h.len, h0]
    exact ⟨none, 0, by rw [this], by omega, by decide, fun _ => ⟨this, rfl⟩⟩
  · exact ⟨_, cap, by rw [← h.len], by rw [← h.len]; exact hnc, hcm, fun h => by cases h⟩
/-- as what reads -/
theorem rdB {A : Option Addr} {n C : Nat} (h : TopB w B G (.slice A n C) us bs) : RdB w A bs (fun k => B ≤ k) := by
  intro hn
  rcases h.top.2 with ⟨e, h0⟩ | ⟨g, cap, cur, e, hb, hg, hnc, _, hs, ht⟩
  · have := h.len; omega
  · injection e with e1 e2 e3
    subst e1
    refine ⟨g, 0, rfl, hb, fun i hi => ?_⟩
    have hi' : i < us.length := by rw [h.len]; exact hi
    obtain ⟨A', C', hv, h1, -, h2, h3⟩ := (h.rows i hi' hi).rd
    refine ⟨A', C', ?_, h1, h2, h3.mono fun _ h => h.1⟩
    have hx : us[i]? = some (.slice A' bs[i].length C') := by rw [List.getElem?_eq_getElem hi', hv]
    rw [← ht, List.getElem?_take, if_pos (by omega), Array.getElem?_toList] at hx
    rw [Nat.zero_add, heap_cell hg, hx]
/-- a row is appended -/
theorem push (h : TopB w B G v us bs) {w1 : World} (hw : Below w.heap.size w w1) {u : Value} {s : Tx} (hu : OwnL w1 B u s) (hun : ∀ k, u.ownBlock = some k → w.heap.size ≤ k) (hG : ∀ k, u.ownBlock = some k → G k) {v' : Value} (ho : w'.ownsRow B 22 1 v' (us.length + 1) (us ++ [u])) (hg : w1.grownBy w' v.ownBlock) :
    TopB w' B G v' (us ++ [u]) (bs ++ [s]) := by
  have keep : ∀ {x : Value} {l : Tx}, OwnL w1 B x l → OwnL w' B x l := fun {x l} hx => hx.of_block fun k e => by
    refine hg.block k (hx.lt k e) fun e' => ?_
    obtain ⟨c, hc⟩ := own_blk h.top k e'.symm
    obtain ⟨c', hc'⟩ := hx.block k e
    rw [hw.block k (heap_lt hc), hc] at hc'
    injection hc' with hc'
    injection hc' with _ e2
    exact absurd e2 (by decide)
  have oldlt : ∀ i (hi : i < us.length) k, us[i].ownBlock = some k → k < w.heap.size := fun i hi k e => (h.rows i hi (by rw [← h.len]; exact hi)).lt k e
  refine ⟨by simpa using ho, by simp [h.len], fun i hi hi' => ?_, fun i hi k e => ?_, fun i j hi hj k e e' => ?_⟩
  · rcases Nat.lt_or_ge i us.length with hl | hl
    · rw [List.getElem_append_left hl, List.getElem_append_left (by rw [← h.len]; exact hl)]
      exact keep ((h.rows i hl (by rw [← h.len]; exact hl)).of_block fun k e => hw.block k (oldlt i hl k e))
    · have : i = us.length := by simp at hi; omega
      subst this
      have e2 : (bs ++ [s])[us.length] = s := by simp [h.len]
      rw [e2]
      simp only [List.getElem_concat_length]
      exact keep hu
  · rcases Nat.lt_or_ge i us.length with hl | hl
    · rw [List.getElem_append_left hl] at e
      exact h.gs i hl k e
    · have : i = us.length := by simp at hi; omega
      subst this
      simp only [List.getElem_concat_length] at e
      exact hG k e
  · rcases Nat.lt_or_ge i us.length with hl | hl <;> rcases Nat.lt_or_ge j us.length with hm | hm
    · rw [List.getElem_append_left hl] at e
      rw [List.getElem_append_left hm] at e'
      exact h.inj i j hl hm k e e'
    · have : j = us.length := by simp at hj; omega
      subst this
      rw [List.getElem_append_left hl] at e
      simp only [List.getElem_concat_length] at e'
      have := oldlt i hl k e
      have := hun k e'
      omega
    · have : i = us.length := by simp at hi; omega
      subst this
      rw [List.getElem_append_left hm] at e'
      simp only [List.getElem_concat_length] at e
      have := oldlt j hm k e'
      have := hun k e
      omega
    · simp at hi hj; omega
end TopB
/-- append of one row -/
theorem wpList_append_tp (w : World) {ops : Array Oper} {rest : List Oper} {o : Oper} {a : Act} {Q : Exit → Act → World → Prop} (hgd : o.guard = none) (s x : Operand)
    (ho : o.op = .call { callee := .builtin .append, args := #[s, x], argTypes := #[26, 26] })
    (base : Nat) (v : Value) (us : List Value) (hs : a.eval s = v) (hown : w.ownsRow base 22 1 v us.length us) (hl : us.length ≤ 1000000)
    (b off c : Nat) (A : Option Addr) (L C : Nat) (hx : a.eval x = .slice (some ⟨b, off, none⟩) 1 c) (hc : w.cell? ⟨b, off, none⟩ = some (.slice A L C)) (hbase : base ≤ w.heap.size)
    (h : ∀ v' w', w'.ownsRow base 22 1 v' (us.length + 1) (us ++ [.slice A L C]) → w.grownBy w' v.ownBlock → wpList Tryz.prog ops Q rest (a.put o.dst v') w') : wpList Tryz.prog ops Q (o :: rest) a w := by
  obtain ⟨i0, hi, hz0, hz1, hz2⟩ := info_parts infoRowT
  refine wpList_append_opt w hgd s x 26 ho base 22 i0 (.slice none 0 0) 24 Tryz.underlying26 hi hz0 hz1 hz2 rfl v us.length us hs hown (some ⟨b, off, none⟩) 1 c [.slice A L C] hx (fun h => by cases h) rfl (fun ad had j u hu => ?_) (fun u hu => by rw [List.mem_singleton.1 hu]; rfl) (by unfold maxLen; omega) (by omega) hbase h
  cases had
  have hj : j = 0 := by
    rcases Nat.eq_zero_or_pos j with h0 | h0
    · exact h0
    · rw [List.getElem?_eq_none (by simp; omega)] at hu; cases hu
  subst hj
  cases hu
  exact hc
end Go.Proofs.YtndofmoepjfnfaaGreat
namespace Go.Proofs.YtndofmoepjfnfaaGreat
open Go.RowKit
open Pt (Tx)

/-- the tape at block gr -/
structure Rt (w : World) (B gr : Nat) (G : Nat → Prop) (lab cap : Int) (bs : List Tx) : Prop where
  ex : ∃ v us, w.heap[gr]? = some (.cells #[.int .i64 lab, .int .i64 cap, v, .bool false] 28 (0, 0)) ∧ TopB w B G v us bs
  lo : B ≤ gr
/-- what a call on such a tape may turn -/
def RefS (B : Nat) (G : Nat → Prop) (w : World) (k : Nat) : Prop := B ≤ k ∧ ((∃ c, w.heap[k]? = some (.cells c 22 (0, 0))) ∨ (∃ c, w.heap[k]? = some (.cells c 28 (0, 0))) ∨ G k)
def RefT (B : Nat) (G : Nat → Prop) (w w' : World) : Prop := Kp (RefS B G w) w w'
theorem RefT.refl (B : Nat) (G : Nat → Prop) (w : World) : RefT B G w w := Kp.refl _ _
theorem RefT.trans {B : Nat} {G : Nat → Prop} {a b c : World} (h : RefT B G a b) (k : RefT B G b c) : RefT B G a c := by
  refine ⟨k.os.trans h.os, k.tape.trans h.tape, k.output.trans h.output, Nat.le_trans h.size k.size, fun i hi hs => ?_⟩
  have e := h.block i hi hs
  rw [← e]
  refine k.block i (Nat.lt_of_lt_of_le hi h.size) fun h' => hs ?_
  obtain ⟨h1, h2⟩ := h'
  rw [e] at h2
  exact ⟨h1, h2⟩
theorem RefT.below {B : Nat} {G : Nat → Prop} {a b : World} (h : RefT B G a b) (hB : B ≤ a.heap.size) : Below B a b := Kp.below h hB fun _ hk => hk.1
theorem RefT.of_below {B : Nat} {G : Nat → Prop} {a b : World} (h : Below a.heap.size a b) : RefT B G a b := Kp.of_below h
/-- a block of another kind is kept -/
theorem RefT.kept {B : Nat} {G : Nat → Prop} {a b : World} (h : RefT B G a b) {k : Nat} {c : Array Value} {t : TypeId} {fr : Nat × Nat} (hk : a.heap[k]? = some (.cells c t fr)) (h1 : t ≠ 22) (h2 : t ≠ 28) (h3 : ¬ G k) : b.heap[k]? = some (.cells c t fr) := by
  refine (h.block k (heap_lt hk) fun hs => ?_).trans hk
  rcases hs.2 with ⟨c', e⟩ | ⟨c', e⟩ | e
  · rw [hk] at e; injection e with e; injection e with _ e; exact h1 e
  · rw [hk] at e; injection e with e; injection e with _ e; exact h2 e
  · exact h3 e
namespace Rt
variable {w w' : World} {B gr : Nat} {G G' : Nat → Prop} {lab cap : Int} {bs : List Tx}
theorem lt (h : Rt w B gr G lab cap bs) : gr < w.heap.size := by obtain ⟨v, us, h1, _⟩ := h.ex; exact heap_lt h1
theorem kp {S : Nat → Prop} (h : Rt w B gr G lab cap bs) (hk : Kp S w w') (h0 : ¬ S gr) (h1 : ∀ k c, S k → w.heap[k]? ≠ some (.cells c 22 (0, 0))) (h2 : ∀ k, S k → ¬ G k) : Rt w' B gr G lab cap bs := by
  obtain ⟨⟨v, us, hb, ht⟩, hlo⟩ := h
  exact ⟨⟨v, us, (hk.block gr (heap_lt hb) h0).trans hb, ht.kp hk h1 h2⟩, hlo⟩
theorem old (h : Rt w B gr G lab cap bs) (hb : Below w.heap.size w w') : Rt w' B gr G lab cap bs :=
  h.kp (S := fun _ => False) (Kp.of_below hb) (fun h => h) (fun _ _ h => h.elim) (fun _ h => h.elim)
theorem mono (h : Rt w B gr G lab cap bs) (hg : ∀ k, G k → G' k) : Rt w B gr G' lab cap bs := by
  obtain ⟨⟨v, us, hb, ht⟩, hlo⟩ := h
  exact ⟨⟨v, us, hb, ht.mono hg⟩, hlo⟩
theorem there (h : Rt w B gr G lab cap bs) : Rt w B gr (fun k => G k ∧ k < w.heap.size) lab cap bs := by
  obtain ⟨⟨v, us, hb, ht⟩, hlo⟩ := h
  exact ⟨⟨v, us, hb, ht.there⟩, hlo⟩
end Rt
theorem own_down {w : World} {B B' : Nat} {t : TypeId} {v : Value} {n : Nat} {xs : List Value} (h : w.ownsRow B t 1 v n xs) (hB : B' ≤ B) : w.ownsRow B' t 1 v n xs := by
  refine ⟨h.1, ?_⟩
  rcases h.2 with h0 | ⟨g, c, cur, e, hb, hr⟩
  · exact .inl h0
  · exact .inr ⟨g, c, cur, e, Nat.le_trans hB hb, hr⟩
/-- what a call on such a tape answered, and left -/
def RefDid (r : Value) (B gr : Nat) (G : Nat → Prop) (lab cap : Int) (bs : List Tx) (w : World) (e : Ending) (w' : World) : Prop := e = .returned r ∧ Rt w' B gr G lab cap bs ∧ RefT B G w w'
theorem oneCellT (w : World) (u : Value) (t : TypeId) : ∀ j u', [u][j]? = some u' → (w.alloc (.cells #[u] t)).cell? ((⟨w.heap.size, 0, none⟩ : Addr).add j) = some u' := fun j u' hu => by
  have hj : j = 0 := by
    rcases Nat.eq_zero_or_pos j with h0 | h0
    · exact h0
    · rw [List.getElem?_eq_none (by simp; omega)] at hu; cases hu
  subst hj
  cases hu
  rw [addr_add]; simp
theorem oneTop (A : Option Addr) (L C : Nat) : ∀ u ∈ [Value.slice A L C], u.oneCell' = true := fun u hu => by rw [List.mem_singleton.1 hu]; rfl
/-- a row is appended to the tape at gr -/
theorem Rt.pushed {w wA wB : World} {B gr : Nat} {G : Nat → Prop} {lab cap : Int} {bs : List Tx} {v : Value} {us : List Value} {s : Tx} {u v' : Value} {o : Obj} (hM : w.heap[gr]? = some (.cells #[.int .i64 lab, .int .i64 cap, v, .bool false] 28 (0, 0))) (hT : TopB w B G v us bs) (hlo : B ≤ gr)
    (hA : Below w.heap.size w wA) (hu : OwnL wA B u s) (hun : ∀ k, u.ownBlock = some k → w.heap.size ≤ k) (hG : ∀ k, w.heap.size ≤ k → G k) (hB : wB.ownsRow B 22 1 v' (us.length + 1) (us ++ [u])) (hg : (wA.alloc o).grownBy wB v.ownBlock) :
    wB.heap[gr]? = w.heap[gr]? ∧ Rt (wB.setCell ⟨gr, 2, none⟩ v') B gr G lab cap (bs ++ [s]) ∧ RefT B G w (wB.setCell ⟨gr, 2, none⟩ v') := by
  have hlt := heap_lt hM
  have hA' : Below w.heap.size w (wA.alloc o) := hA.alloc hA.size _
  have hne : some gr ≠ v.ownBlock := fun e => by
    obtain ⟨x, hx⟩ := own_blk hT.top gr e.symm
    rw [hM] at hx
    injection hx with hx
    injection hx with _ e2
    exact absurd e2 (by decide)
  have e : wB.heap[gr]? = w.heap[gr]? := (hg.block gr (Nat.lt_of_lt_of_le hlt hA'.size) hne).trans (hA'.block gr hlt)
  have hp := hT.push hA' (hu.alloc o) hun (fun k hk => hG k (hun k hk)) hB hg
  refine ⟨e, ⟨⟨v', us ++ [u], by rw [heap_set (e.trans hM)]; rfl, hp.kpT (Kp.store _ gr 2 _) (fun x c hx hc => ?_) (fun x c hx hc => ?_)⟩, hlo⟩, ?_⟩
  · rw [hx, e, hM] at hc
    injection hc with hc
    injection hc with _ e2
    exact absurd e2 (by decide)
  · rw [hx, e, hM] at hc
    injection hc with hc
    injection hc with _ e2
    exact absurd e2 (by decide)
  · refine (RefT.of_below hA').trans (RefT.trans (Kp.grown (Kp.refl _ _) hg fun k hk => ?_) ((Kp.store wB gr 2 v').mono fun k hk => ?_))
    · obtain ⟨x, hx⟩ := own_blk hT.top k hk
      exact ⟨(hT.top.lt k hk).1, .inl ⟨x, (hA'.block k (heap_lt hx)).trans hx⟩⟩
    · rw [hk]
      exact ⟨hlo, .inr (.inl ⟨_, e.trans hM⟩)⟩
theorem own_row {w : World} {B B' : Nat} {v : Value} {n : Nat} {s : Tx} (h : w.ownsRow B' 5 1 v n ([] ++ cellsL s)) (hn : s.length = n) (hB : B ≤ B') : OwnL w B v s := by
  subst hn; exact own_down h hB
theorem own_base {w : World} {B g n c : Nat} {t : TypeId} {xs : List Value} (h : w.ownsRow B t 1 (.slice (some ⟨g, 0, none⟩) n c) n xs) : B ≤ g := by
  rcases h.2 with ⟨e, _⟩ | ⟨g', c', cur, e, hb, _⟩
  · cases e
  · cases e; exact hb
end Go.Proofs.YtndofmoepjfnfaaGreat
namespace Go.Proofs.YtndofmoepjfnfaaGreat
open Go.RowKit
open Pt (Tx)

/-- a byte of an own row is turned -/
theorem OwnL.set {w : World} {B g L C k : Nat} {s : Tx} (h : OwnL w B (.slice (some ⟨g, 0, none⟩) L C) s) (hk : k < s.length) (x : UInt8) : OwnL (w.setCell ⟨g, k, none⟩ (.int .u8 (x.toNat : Int))) B (.slice (some ⟨g, 0, none⟩) L C) (s.set k x) := by
  refine ⟨by simp [cellsL_len], ?_⟩
  rcases h.2 with ⟨e, _⟩ | ⟨g', cap, cur, e, hb, hg, hnc, hcm, hs, ht⟩
  · cases e
  · cases e
    refine .inr ⟨g, C, cur.setIfInBounds k (.int .u8 (x.toNat : Int)), by simp, hb, heap_set hg _, by simpa using hnc, hcm, by simpa using hs, ?_⟩
    rw [Nat.mul_one] at ht ⊢
    rw [List.length_set]
    apply List.ext_getElem?
    intro j
    have hj := congrArg (·[j]?) ht
    simp only [List.getElem?_take, Array.getElem?_toList] at hj
    simp only [List.getElem?_take, Array.getElem?_toList, Array.getElem?_setIfInBounds]
    by_cases hjl : j < s.length
    · rw [if_pos hjl] at hj ⊢
      rw [cellsL_get (by simpa using hjl)]
      rw [cellsL_get hjl] at hj
      by_cases e : k = j
      · subst e
        rw [if_pos rfl, if_pos (by omega)]
        simp
      · rw [if_neg e, hj]
        simp [List.getElem_set_ne e]
    · rw [if_neg hjl, List.getElem?_eq_none (by rw [cellsL_len, List.length_set]; omega)]
/-- a byte of a row is turned -/
theorem TopB.turned {w : World} {B : Nat} {G : Nat → Prop} {v : Value} {us : List Value} {bs : List Tx} (h : TopB w B G v us bs) {n : Nat} (hn : n < us.length) (hn' : n < bs.length) {g L C k : Nat} (hu : us[n] = .slice (some ⟨g, 0, none⟩) L C) {s : Tx} (hs : bs[n] = s) (hk : k < s.length) (x : UInt8) :
    TopB (w.setCell ⟨g, k, none⟩ (.int .u8 (x.toNat : Int))) B G v us (bs.set n (s.set k x)) := by
  subst hs
  have hK := Kp.store w g k (.int .u8 (x.toNat : Int))
  have hr := h.rows n hn hn'
  have hown : us[n].ownBlock = some g := by rw [hu]; rfl
  refine ⟨own_of h.top fun q e => hK.block q (h.top.lt q e).2 fun hq => ?_, by rw [List.length_set, h.len], fun i hi hi' => ?_, h.gs, h.inj⟩
  · obtain ⟨c, hc⟩ := own_blk h.top q e
    obtain ⟨c', hc'⟩ := hr.block g hown
    rw [hq, hc'] at hc
    injection hc with hc
    injection hc with _ e2
    exact absurd e2 (by decide)
  · by_cases e : n = i
    · subst e
      rw [List.getElem_set_self, hu]
      rw [hu] at hr
      exact hr.set hk x
    · rw [List.getElem_set_ne e]
      rw [List.length_set] at hi'
      exact (h.rows i hi hi').kp hK fun q hq hq' => e (h.inj n i hn hi g hown (by rw [← hq']; exact hq))
end Go.Proofs.YtndofmoepjfnfaaGreat
