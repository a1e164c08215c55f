/- A slice of slices of the law's own, made by append, each row its own. No function of the program. What laid of package write answers of a blank tape: the blocks of a part, the tape's own ahead. The document's own tape in memory, behind a pointer. No function of the program. Tapes in a row that a call makes longer by append: each in four cells. No function of the program. A byte of one of a tape's own rows is turned. No function of the program. -/
import Derived.Test.YtndofmoepjfnfaaDoorMal
import Derived.Test.YtndofmoepjfnfaaDoorMap
import Derived.Test.YtndofmoepjfnfaaDoorMat
import Derived.Test.YtndofmoepjfnfaaDoorMam
import Derived.Lib.SmallJoins
import Derived.Test.YtndofmoepjfnfaaDoorMao
import Derived.Test.YtndofmoepjfnfaaDoorStRow
namespace Go.Proofs.YtndofmoepjfnfaaDoor
open Go.RowKit
open Pt (Tx)

/-- v is a slice of the call's own whose rows us are the call's own, hold bs, and lie in blocks of G, no two in one -/
structure TopB (w : World) (B : Nat) (G : Nat → Prop) (v : Value) (us : List Value) (bs : List Tx) : Prop where
  top : w.ownsRow B 26 1 v us.length us
  len : us.length = bs.length
  rows : ∀ i (h : i < us.length) (h' : i < bs.length), OwnL w B us[i] bs[i]
  gs : ∀ i (h : i < us.length) k, us[i].ownBlock = some k → G k
  inj : ∀ i j (hi : i < us.length) (hj : j < us.length) k, us[i].ownBlock = some k → us[j].ownBlock = some k → i = j
theorem own_blk {w : World} {B : Nat} {t : TypeId} {v : Value} {n : Nat} {xs : List Value} (h : w.ownsRow B t 1 v n xs) : ∀ k, v.ownBlock = some k → ∃ c, w.heap[k]? = some (.cells c t (0, 0)) := by
  intro k hk
  rcases h.2 with ⟨rfl, _⟩ | ⟨g, cap, cur, rfl, _, hg, _⟩
  · cases hk
  · cases hk; exact ⟨cur, hg⟩
theorem own_of {w w' : World} {B : Nat} {t : TypeId} {v : Value} {n : Nat} {xs : List Value} (h : w.ownsRow B t 1 v n xs) (hb : ∀ k, v.ownBlock = some k → w'.heap[k]? = w.heap[k]?) : w'.ownsRow B t 1 v n xs := by
  refine ⟨h.1, ?_⟩
  rcases h.2 with h0 | ⟨g, cap, cur, rfl, hb', hg, hr⟩
  · exact .inl h0
  · exact .inr ⟨g, cap, cur, rfl, hb', (hb g rfl).trans hg, hr⟩
namespace TopB
variable {w w' : World} {B : Nat} {G G' : Nat → Prop} {v : Value} {us : List Value} {bs : List Tx}
theorem nil (w : World) (B : Nat) (G : Nat → Prop) : TopB w B G (.slice none 0 0) [] [] :=
  ⟨World.ownsRow_nil _ _ _ _, rfl, fun i h => absurd h (by simp), fun i h => absurd h (by simp), fun i j h => absurd h (by simp)⟩
/-- what is not touched is as it was -/
theorem kp {S : Nat → Prop} (h : TopB w B G v us bs) (hk : Kp S w w') (h1 : ∀ k c, S k → w.heap[k]? ≠ some (.cells c 26 (0, 0))) (h2 : ∀ k, S k → ¬ G k) : TopB w' B G v us bs := by
  refine ⟨own_of h.top fun k e => ?_, h.len, fun i hi hi' => (h.rows i hi hi').kp hk fun k e hs => h2 k hs (h.gs i hi k e), h.gs, h.inj⟩
  obtain ⟨c, hc⟩ := own_blk h.top k e
  exact hk.block k (heap_lt hc) fun hs => h1 k c hs hc
/-- the same, told by what lies there -/
theorem kpT {S : Nat → Prop} (h : TopB w B G v us bs) (hk : Kp S w w') (h1 : ∀ k c, S k → w.heap[k]? ≠ some (.cells c 26 (0, 0))) (h2 : ∀ k c, S k → w.heap[k]? ≠ some (.cells c 5 (0, 0))) : TopB w' B G v us bs := by
  refine ⟨own_of h.top fun k e => ?_, h.len, fun i hi hi' => (h.rows i hi hi').kp hk fun k e hs => ?_, h.gs, h.inj⟩
  · obtain ⟨c, hc⟩ := own_blk h.top k e
    exact hk.block k (heap_lt hc) fun hs => h1 k c hs hc
  · obtain ⟨c, hc⟩ := (h.rows i hi hi').block k e
    exact h2 k c hs hc
theorem old (h : TopB w B G v us bs) (hb : Below w.heap.size w w') : TopB w' B G v us bs :=
  h.kp (S := fun _ => False) (Kp.of_below hb) (fun _ _ h => h.elim) (fun _ h => h.elim)
theorem mono (h : TopB w B G v us bs) (hg : ∀ k, G k → G' k) : TopB w B G' v us bs := ⟨h.top, h.len, h.rows, fun i hi k e => hg k (h.gs i hi k e), h.inj⟩
/-- all its rows are there -/
theorem there (h : TopB w B G v us bs) : TopB w B (fun k => G k ∧ k < w.heap.size) v us bs :=
  ⟨h.top, h.len, h.rows, fun i hi k e => ⟨h.gs i hi k e, (h.rows i hi (by rw [← h.len]; exact hi)).lt k e⟩, h.inj⟩
/-- as a value -/
theorem val (h : TopB w B G v us bs) : ∃ A C, v = .slice A bs.length C ∧ bs.length ≤ C ∧ C ≤ maxLen ∧ (A = none → bs.length = 0 ∧ C = 0) := by
  rcases h.top.2 with ⟨rfl, h0⟩ | ⟨g, cap, cur, rfl, _, _, hnc, hcm, _⟩
  · have : bs.length = 0 := by rw [← h.len, h0]
    exact ⟨none, 0, by rw [this], by omega, by decide, fun _ => ⟨this, rfl⟩⟩
  · exact ⟨_, cap, by rw [← h.len], by rw [← h.len]; exact hnc, hcm, fun h => by cases h⟩
/-- as what reads -/
theorem rdB {A : Option Addr} {n C : Nat} (h : TopB w B G (.slice A n C) us bs) : RdB w A bs (fun k => B ≤ k) := by
  intro hn
  rcases h.top.2 with ⟨e, h0⟩ | ⟨g, cap, cur, e, hb, hg, hnc, _, hs, ht⟩
  · have := h.len; omega
  · injection e with e1 e2 e3
    subst e1
    refine ⟨g, 0, rfl, hb, fun i hi => ?_⟩
    have hi' : i < us.length := by rw [h.len]; exact hi
    obtain ⟨A', C', hv, h1, -, h2, h3⟩ := (h.rows i hi' hi).rd
    refine ⟨A', C', ?_, h1, h2, h3.mono fun _ h => h.1⟩
    have hx : us[i]? = some (.slice A' bs[i].length C') := by rw [List.getElem?_eq_getElem hi', hv]
    rw [← ht, List.getElem?_take, if_pos (by omega), Array.getElem?_toList] at hx
    rw [Nat.zero_add, heap_cell hg, hx]
/-- a row is appended -/
theorem push (h : TopB w B G v us bs) {w1 : World} (hw : Below w.heap.size w w1) {u : Value} {s : Tx} (hu : OwnL w1 B u s) (hun : ∀ k, u.ownBlock = some k → w.heap.size ≤ k) (hG : ∀ k, u.ownBlock = some k → G k) {v' : Value} (ho : w'.ownsRow B 26 1 v' (us.length + 1) (us ++ [u])) (hg : w1.grownBy w' v.ownBlock) :
    TopB w' B G v' (us ++ [u]) (bs ++ [s]) := by
  have keep : ∀ {x : Value} {l : Tx}, OwnL w1 B x l → OwnL w' B x l := fun {x l} hx => hx.of_block fun k e => by
    refine hg.block k (hx.lt k e) fun e' => ?_
    obtain ⟨c, hc⟩ := own_blk h.top k e'.symm
    obtain ⟨c', hc'⟩ := hx.block k e
    rw [hw.block k (heap_lt hc), hc] at hc'
    injection hc' with hc'
    injection hc' with _ e2
    exact absurd e2 (by decide)
  have oldlt : ∀ i (hi : i < us.length) k, us[i].ownBlock = some k → k < w.heap.size := fun i hi k e => (h.rows i hi (by rw [← h.len]; exact hi)).lt k e
  refine ⟨by simpa using ho, by simp [h.len], fun i hi hi' => ?_, fun i hi k e => ?_, fun i j hi hj k e e' => ?_⟩
  · rcases Nat.lt_or_ge i us.length with hl | hl
    · rw [List.getElem_append_left hl, List.getElem_append_left (by rw [← h.len]; exact hl)]
      exact keep ((h.rows i hl (by rw [← h.len]; exact hl)).of_block fun k e => hw.block k (oldlt i hl k e))
    · have : i = us.length := by simp at hi; omega
      subst this
      have e2 : (bs ++ [s])[us.length] = s := by simp [h.len]
      rw [e2]
      simp only [List.getElem_concat_length]
      exact keep hu
  · rcases Nat.lt_or_ge i us.length with hl | hl
    · rw [List.getElem_append_left hl] at e
      exact h.gs i hl k e
    · have : i = us.length := by simp at hi; omega
      subst this
      simp only [List.getElem_concat_length] at e
      exact hG k e
  · rcases Nat.lt_or_ge i us.length with hl | hl <;> rcases Nat.lt_or_ge j us.length with hm | hm
    · rw [List.getElem_append_left hl] at e
      rw [List.getElem_append_left hm] at e'
      exact h.inj i j hl hm k e e'
    · have : j = us.length := by simp at hj; omega
      subst this
      rw [List.getElem_append_left hl] at e
      simp only [List.getElem_concat_length] at e'
      have := oldlt i hl k e
      have := hun k e'
      omega
    · have : i = us.length := by simp at hi; omega
      subst this
      rw [List.getElem_append_left hm] at e'
      simp only [List.getElem_concat_length] at e
      have := oldlt j hm k e'
      have := hun k e
      omega
    · simp at hi hj; omega
end TopB
/-- append of one row -/
theorem wpList_append_tp (w : World) {ops : Array Oper} {rest : List Oper} {o : Oper} {a : Act} {Q : Exit → Act → World → Prop} (hgd : o.guard = none) (s x : Operand)
    (ho : o.op = .call { callee := .builtin .append, args := #[s, x], argTypes := #[33, 33] })
    (base : Nat) (v : Value) (us : List Value) (hs : a.eval s = v) (hown : w.ownsRow base 26 1 v us.length us) (hl : us.length ≤ 1000000)
    (b off c : Nat) (A : Option Addr) (L C : Nat) (hx : a.eval x = .slice (some ⟨b, off, none⟩) 1 c) (hc : w.cell? ⟨b, off, none⟩ = some (.slice A L C)) (hbase : base ≤ w.heap.size)
    (h : ∀ v' w', w'.ownsRow base 26 1 v' (us.length + 1) (us ++ [.slice A L C]) → w.grownBy w' v.ownBlock → wpList Tryd.prog ops Q rest (a.put o.dst v') w') : wpList Tryd.prog ops Q (o :: rest) a w := by
  obtain ⟨i0, hi, hz0, hz1, hz2⟩ := info_parts infoRowT
  refine wpList_append_opt w hgd s x 33 ho base 26 i0 (.slice none 0 0) 24 Tryd.underlying33 hi hz0 hz1 hz2 rfl v us.length us hs hown (some ⟨b, off, none⟩) 1 c [.slice A L C] hx (fun h => by cases h) rfl (fun ad had j u hu => ?_) (fun u hu => by rw [List.mem_singleton.1 hu]; rfl) (by unfold maxLen; omega) (by omega) hbase h
  cases had
  have hj : j = 0 := by
    rcases Nat.eq_zero_or_pos j with h0 | h0
    · exact h0
    · rw [List.getElem?_eq_none (by simp; omega)] at hu; cases hu
  subst hj
  cases hu
  exact hc
end Go.Proofs.YtndofmoepjfnfaaDoor
namespace Go.Proofs.YtndofmoepjfnfaaDoor
open Go.RowKit
open Pt (Tx)

/-- rows that read, as values -/
theorem rows_of {w : World} {ad : Addr} {bs : List Tx} {G : Nat → Prop} (hr : RdB w (some ad) bs G) : ∃ us : List Value, us.length = bs.length ∧ ∀ i (hi : i < bs.length), ∃ A' C', us[i]? = some (.slice A' bs[i].length C') ∧ w.cell? (ad.add i) = some (.slice A' bs[i].length C') ∧ bs[i].length ≤ C' ∧ (A' = none → bs[i].length = 0 ∧ C' = 0) ∧ RdL w A' bs[i] G := by
  refine ⟨(List.range bs.length).map fun i => (w.cell? (ad.add i)).getD (.bool false), by simp, fun i hi => ?_⟩
  obtain ⟨b, off, A', C', e, -, h1, h2, h3, h4⟩ := hr.at_ hi
  cases e
  refine ⟨A', C', ?_, by rw [addr_add]; exact h1, h2, h3, h4⟩
  rw [List.getElem?_map, List.getElem?_range hi]
  show some ((w.cell? ((⟨b, off, none⟩ : Addr).add i)).getD (.bool false)) = _
  rw [addr_add, h1]; rfl
/-- rows are answered that read -/
def LaidW (bs : List Tx) (w : World) (e : Ending) (w' : World) : Prop := ∃ A C, e = .returned (.tuple #[.slice A bs.length C, .int .i64 0]) ∧ RdB w' A bs (w.heap.size ≤ ·) ∧ Below w.heap.size w w'
set_option maxRecDepth 100000 in
set_option maxHeartbeats 8000000 in
theorem laid_blank (lab cap : Int) (At : Option Addr) (Ct : Nat) (lost : Bool) (p : Tx) (v z f l s m : Int) (g : Bool) (A : Option Addr) (b : Tx) (L C : Nat) (G : Nat → Prop) (w : World) (hp : p.length ≤ maxLen) (hk : Kept w) (hL : L = b.length) (hC : L ≤ C) (hr : RdL w A b G) (hR : Vo.Right lab 1 ⟨p, v, z, f, l, s, m, g⟩ b) :
    Calls Tryd.prog 31 #[.agg #[.int .i64 lab, .int .i64 cap, .slice At 0 Ct, .bool lost], .agg #[.string (tx p), .int .i64 v, .int .i64 z, .int .i64 f, .int .i64 l, .int .i64 s, .int .i64 m, .bool g], .slice A L C] w (LaidW (Fm.blk (Vo.first lab [68]) :: Vo.put lab 1 ⟨p, v, z, f, l, s, m, g⟩ b) w) := by
  obtain ⟨w1, hw1⟩ : ∃ x, x = (w.alloc (tapeObj lab cap At 0 Ct lost)).alloc (headObj p v z f l s m g) := ⟨_, rfl⟩
  have b1 : Below w.heap.size w w1 := by rw [hw1]; exact ((Below.refl _ _).alloc (Nat.le_refl _) _).alloc (by simp) _
  have s0 : (w.alloc (tapeObj lab cap At 0 Ct lost)).heap.size = w.heap.size + 1 := by simp
  have kT : w1.heap[w.heap.size]? = some (tapeObj lab cap At 0 Ct lost) := by
    rw [hw1, ((Below.refl _ _).alloc (Nat.le_refl _) _ : Below (w.alloc (tapeObj lab cap At 0 Ct lost)).heap.size _ _).block _ (by simp)]
    exact Go.Deep.blk_alloc_new _ _
  have kH : w1.heap[w.heap.size + 1]? = some (headObj p v z f l s m g) := by
    have := Go.Deep.blk_alloc_new (w.alloc (tapeObj lab cap At 0 Ct lost)) (headObj p v z f l s m g)
    rw [s0] at this
    rw [hw1]; exact this
  have HW1 : Hid (w1 = (w.alloc (.cells #[.int .i64 lab, .int .i64 cap, .slice At 0 Ct, .bool lost] 35)).alloc (.cells #[.string (tx p), .int .i64 v, .int .i64 z, .int .i64 f, .int .i64 l, .int .i64 s, .int .i64 m, .bool g] 50)) := Lib.hid hw1
  obtain ⟨w2, hw2⟩ : ∃ x, x = w1.alloc (.cells #[.int .u8 68] 5 (1, 2)) := ⟨_, rfl⟩
  have b12 : Below w1.heap.size w1 w2 := by rw [hw2]; exact (Below.refl _ _).alloc (Nat.le_refl _) _
  have hd : RdL w2 (some ⟨w1.heap.size, 0, none⟩) [68] (fun _ => True) := fun _ => ⟨w1.heap.size, 0, rfl, trivial, fun j hj => by
    have h0 : j = 0 := by simpa using hj
    subst h0
    rw [hw2, heap_cell (Go.Deep.blk_alloc_new _ _)]; rfl⟩
  have hfo := Vo.first_ok (lab := lab) (l := [68]) hR.2.1 (by decide)
  have HPUT := Lib.hid (put_own 1 lab 0 (some ⟨w1.heap.size, 0, none⟩) [68] 1 1 _ w2 rfl (fun h => by cases h) hd hfo)
  have HB2 := Lib.hid (b1.trans (b12.mono b1.size))
  have HW2 := Lib.hid hw2
  have HT1 := Lib.hid kT
  have HH1 := Lib.hid kH
  have HY : Hid (∀ y, Below w1.heap.size w1 y → (y.cell? ⟨w.heap.size, 0, none⟩ = some (.int .i64 lab) ∧ y.cell? ⟨w.heap.size, 1, none⟩ = some (.int .i64 cap) ∧ y.cell? ⟨w.heap.size, 2, none⟩ = some (.slice At 0 Ct) ∧ y.cell? ⟨w.heap.size, 3, none⟩ = some (.bool lost)) ∧ (y.cell? ⟨w.heap.size + 1, 0, none⟩ = some (.string (tx p)) ∧ y.cell? ⟨w.heap.size + 1, 1, none⟩ = some (.int .i64 v) ∧ y.cell? ⟨w.heap.size + 1, 2, none⟩ = some (.int .i64 z) ∧ y.cell? ⟨w.heap.size + 1, 3, none⟩ = some (.int .i64 f) ∧ y.cell? ⟨w.heap.size + 1, 4, none⟩ = some (.int .i64 l) ∧ y.cell? ⟨w.heap.size + 1, 5, none⟩ = some (.int .i64 s) ∧ y.cell? ⟨w.heap.size + 1, 6, none⟩ = some (.int .i64 m) ∧ y.cell? ⟨w.heap.size + 1, 7, none⟩ = some (.bool g))) := Lib.hid fun y hy => ⟨tape4 ((hy.block _ (heap_lt kT)).trans kT), head8 ((hy.block _ (heap_lt kH)).trans kH)⟩
  have HBG : Hid (∀ y, Below w1.heap.size w1 y → Calls Tryd.prog 28 #[.agg #[.int .i64 lab, .int .i64 cap, .slice At 0 Ct, .bool lost]] y fun e w' => e = .returned (.int .i64 1) ∧ Below y.heap.size y w') := Lib.hid fun y hy => (begin_any lab cap At 0 Ct lost y 1 rfl).mono fun e w' h => ⟨h.1, h.2⟩
  obtain ⟨K, hK⟩ : ∃ K, K = Vo.put lab 1 ⟨p, v, z, f, l, s, m, g⟩ b := ⟨_, rfl⟩
  have her := Vo.err_yes hR
  have HBL : Hid (∀ y, Below w1.heap.size w1 y → Calls Tryd.prog 44 #[.int .i64 lab, .int .i64 1, .agg #[.string (tx p), .int .i64 v, .int .i64 z, .int .i64 f, .int .i64 l, .int .i64 s, .int .i64 m, .bool g], .slice A L C] y fun e w' => ∃ A' C', e = .returned (.tuple #[.slice A' K.length C', .int .i64 0]) ∧ K.length ≤ C' ∧ (A' = none → K.length = 0 ∧ C' = 0) ∧ Hid (RdB w' A' K (y.heap.size ≤ ·)) ∧ Below y.heap.size y w') := Lib.hid fun y hy => by
    have hby := b1.trans (hy.mono b1.size)
    refine (blocks_any lab 1 p v z f l s m g A b L C _ y hp (hk.old hby) hL hC (hr.old hby) (by omega)).mono ?_
    rintro e w' ⟨A', n', C', rfl, h1, h2, h3, h4, h5⟩
    rw [← hK] at h1 h4
    subst h1
    exact ⟨A', C', by rw [her], h2, h3, Lib.hid h4, h5⟩
  have hK0 : 0 < K.length := by rw [hK, Vo.put_len hR]; omega
  have hKl : K.length ≤ 100000000 := by
    rw [hK, Vo.put_len hR]
    have := hR.2.2
    have h2 := hR.1.1
    obtain ⟨-, -, -, ⟨_, a⟩, b', c, d, _⟩ := h2
    have h3 := hR.1.2
    unfold Vo.data
    dsimp only at *
    omega
  rw [← hK]
  have hs2 : w1.heap.size = w2.heap.size - 1 := by rw [hw2]; simp
  have HS2 := Lib.hid hs2
  obtain ⟨⟨t0, t1, t2, t3⟩, -⟩ := HY.out w1 (Below.refl _ _)
  have hlabr := hR.2.1
  clear hw1 b1 s0 kT kH hw2 b12 hd hfo hK her hk hr hR hL hs2
  have kc := Go.Joins.run_convert_bytes_const_at (P := Tryd.prog) w1 26 5 #[.int .u8 68] 1 1 w1.heap.size rfl Tryd.underlying26 Tryd.underlying5
  go_enter Tryd.func31, Tryd.ntmps31
  go_upto_region 1 with fail
  rw [← HW1.out]
  go_upto_region 4 with (go_at_call 43; rw [← HW2.out]; refine HPUT.out.mono ?_; rintro e w3 ⟨A3, n3, C3, rfl, ho3, hn3, hb3⟩; have HO3 := Lib.hid ho3; have HN3 := Lib.hid hn3; have HB3 := Lib.hid hb3; clear ho3 hn3 hb3)
  have hb4 : ∀ {w4 : World}, Below (w3.alloc (.cells #[.slice A3 n3 C3] 26)).heap.size (w3.alloc (.cells #[.slice A3 n3 C3] 26)) w4 → Below w3.heap.size w3 w4 := fun {w4} h => ((Below.refl _ _).alloc (Nat.le_refl _) _).trans (h.mono (by simp))
  have HB4' : Hid (∀ w4, Below (w3.alloc (.cells #[.slice A3 n3 C3] 26)).heap.size (w3.alloc (.cells #[.slice A3 n3 C3] 26)) w4 → Below w3.heap.size w3 w4) := Lib.hid fun _ h => hb4 h
  have hsz : w.heap.size ≤ (w3.alloc (.cells #[.slice A3 n3 C3] 26)).heap.size := by
    have := HB2.out.size
    have := HB3.out.size
    simp; omega
  clear hb4 t0 t1 t2 t3
  go_upto_region 7 with (at_builtin; refine wpList_append_tp (w3.alloc (.cells #[.slice A3 n3 C3] 26)) rfl _ _ rfl w.heap.size _ [] rfl (World.ownsRow_nil _ _ _ _) (by simp) w3.heap.size 0 1 A3 n3 C3 rfl (by simp) hsz ?_; intro v4 w4 hv4 hg4; have HV4 := Lib.hid hv4; have HB4 := Lib.hid (HB4'.out _ (⟨hg4.os, hg4.tape, hg4.output, hg4.size, fun k hk => hg4.block k hk (fun e => by cases e)⟩)); clear hv4 hg4)
  clear HB4' hsz
  have hw14 : Below w1.heap.size w1 w4 := (by
    have h12 : Below w1.heap.size w1 w2 := by rw [HW2.out]; exact (Below.refl _ _).alloc (Nat.le_refl _) _
    exact (h12.trans (HB3.out.mono h12.size)).trans (HB4.out.mono (Nat.le_trans h12.size HB3.out.size)))
  have HB14 := Lib.hid hw14
  have HO4 := Lib.hid (HO3.out.of_block fun k e => HB4.out.block k (HO3.out.lt k e))
  have hd4 := hw14.drew
  have hx4 := HY.out _ hd4
  clear hw14
  go_region_held3 (fun y => (y.cell? ⟨w.heap.size, 0, none⟩ = some (.int .i64 lab) ∧ y.cell? ⟨w.heap.size, 1, none⟩ = some (.int .i64 cap) ∧ y.cell? ⟨w.heap.size, 2, none⟩ = some (.slice At 0 Ct) ∧ y.cell? ⟨w.heap.size, 3, none⟩ = some (.bool lost)) ∧ (y.cell? ⟨w.heap.size + 1, 0, none⟩ = some (.string (tx p)) ∧ y.cell? ⟨w.heap.size + 1, 1, none⟩ = some (.int .i64 v) ∧ y.cell? ⟨w.heap.size + 1, 2, none⟩ = some (.int .i64 z) ∧ y.cell? ⟨w.heap.size + 1, 3, none⟩ = some (.int .i64 f) ∧ y.cell? ⟨w.heap.size + 1, 4, none⟩ = some (.int .i64 l) ∧ y.cell? ⟨w.heap.size + 1, 5, none⟩ = some (.int .i64 s) ∧ y.cell? ⟨w.heap.size + 1, 6, none⟩ = some (.int .i64 m) ∧ y.cell? ⟨w.heap.size + 1, 7, none⟩ = some (.bool g)))
    (first
      | exact hx4
      | exact hx5
      | exact hx6)
    (first
      | (go_at_call 28; with_reducible refine (HBG.out w4.drew hd4).mono ?_; rintro e w5 ⟨rfl, hd5⟩; have h15 := hd4.trans (hd5.mono hd4.size); have hx5 := HY.out w5 h15)
      | (go_at_call 44; with_reducible refine (HBL.out w5 h15).mono ?_; rintro e w6 ⟨A6, C6, rfl, hA6, hN6, HR6, hd6⟩; have hx6 := HY.out w6 (h15.trans (hd6.mono h15.size))))
  -- the part's rows behind the label
  have hb46 : Below w4.heap.size w4 w6 := (Below.drew (Below.refl _ _)).trans ((hd5.mono (Nat.le_refl _)).trans (hd6.mono hd5.size))
  obtain ⟨b6, o6, hA6', -, -⟩ := HR6.out hK0
  have hR6 := HR6.out
  rw [hA6'] at hR6
  obtain ⟨us, hul, hus⟩ := rows_of hR6
  subst hA6'
  have HUS := Lib.hid hus
  have hone : ∀ u ∈ us, u.oneCell' = true := fun u hu => by
    obtain ⟨i, hi, e⟩ := List.mem_iff_getElem.1 hu
    obtain ⟨A', C', h2, -⟩ := HUS.out i (by omega)
    rw [List.getElem?_eq_getElem hi, e] at h2
    cases h2; rfl
  have hnews : ∀ ad : Addr, some (⟨b6, o6, none⟩ : Addr) = some ad → ∀ j u, us[j]? = some u → w6.cell? (ad.add j) = some u := fun ad e j u hu => by
    cases e
    have hj : j < K.length := by
      rcases Nat.lt_or_ge j us.length with h | h
      · omega
      · rw [List.getElem?_eq_none h] at hu; cases hu
    obtain ⟨A', C', h2, h3, -⟩ := HUS.out j hj
    rw [h2] at hu
    cases hu; exact h3
  have hv6 := own_of HV4.out (w' := w6) fun k e => by
    obtain ⟨c, hc⟩ := own_blk HV4.out k e
    exact hb46.block k (heap_lt hc)
  have hO6 := HO4.out.of_block (w' := w6) fun k e => hb46.block k (HO4.out.lt k e)
  have hb06 : Below w.heap.size w w6 := by
    have h1 := HB2.out
    have h3 := h1.trans (HB3.out.mono h1.size)
    have h4 := h3.trans (HB4.out.mono h3.size)
    exact h4.trans (hb46.mono h4.size)
  have hlt4 : ∀ k, v4.ownBlock = some k → w.heap.size ≤ k := fun k e => by
    rcases HV4.out.2 with ⟨e', -⟩ | ⟨g', cap', cur', e', hbb, -⟩
    · subst e'; cases e
    · subst e'; cases e; exact hbb
  have HV6 := Lib.hid hv6
  have HO6 := Lib.hid hO6
  have HB6 := Lib.hid hb06
  have HONE := Lib.hid hone
  have HNEW := Lib.hid hnews
  have HLT4 := Lib.hid hlt4
  have hlt4' : ∀ k, v4.ownBlock = some k → k < w5.heap.size := fun k e => by
    obtain ⟨c, hc⟩ := own_blk HV4.out k e
    have h1 := heap_lt hc
    have h2 := hd5.size
    have e : w4.drew.heap.size = w4.heap.size := rfl
    omega
  have HLT5 := Lib.hid hlt4'
  have hsz6 := hb06.size
  have h26 : w.heap.size ≤ w2.heap.size := HB2.out.size
  have h56 : w.heap.size ≤ w5.heap.size := by
    have := HB2.out.size
    have := HB3.out.size
    have := HB4.out.size
    have := hd5.size
    have e : w4.drew.heap.size = w4.heap.size := rfl
    omega
  clear hus hone hnews hv6 hO6 hb06 hlt4 hlt4' hb46 hd4 hx4 hd5 h15 hx5 hd6 hx6 hR6 HY HBG HBL HPUT HV4 HO4 HO3 HB3 HB4 HB14 HT1 HH1 HR6 kc
  obtain ⟨i0, hi0, hz0, hz1, hz2⟩ := info_parts infoRowT
  go_wp2_with (at_builtin; refine wpList_append_opt _ rfl _ _ 33 rfl w.heap.size 26 i0 (.slice none 0 0) 24 Tryd.underlying33 hi0 hz0 hz1 hz2 rfl _ 1 _ rfl HV6.out (some ⟨b6, o6, none⟩) K.length C6 us rfl (fun h => by cases h) hul HNEW.out HONE.out (by unfold maxLen; omega) (by omega) hsz6 ?_; intro v7 w7 hv7 hg7; have HV7 := Lib.hid hv7; have HB7 := Lib.hid (HB6.out.grown hg7 hsz6 HLT4.out); have HG7 := Lib.hid hg7; clear hv7 hg7)
  go_ret2
  have hkp : Kp (fun k => v4.ownBlock = some k) w6 w7 := ⟨HG7.out.os, HG7.out.tape, HG7.out.output, HG7.out.size, fun k hk hs => HG7.out.block k hk fun e => hs e.symm⟩
  have hO7 := HO6.out.of_block (w' := w7) fun k e => by
    obtain ⟨c, hc⟩ := HO6.out.block k e
    refine HG7.out.block k (heap_lt hc) fun e' => ?_
    obtain ⟨c', hc'⟩ := own_blk HV6.out k e'.symm
    rw [hc] at hc'
    injection hc' with hc'
    injection hc' with _ e2
    exact absurd e2 (by decide)
  obtain ⟨A3', C3', e3, h31, -, h32, h33⟩ := hO7.rd
  injection e3 with e3a e3b e3c
  subst e3a e3b e3c
  rcases HV7.out.2 with ⟨e, h0⟩ | ⟨g7, cap7, cur7, e, hB7, hg7, hnc, hcm, hs, ht⟩
  · omega
  · refine ⟨some ⟨g7, 0, none⟩, cap7, by rw [e, List.length_cons, Nat.add_comm 1]; rfl, fun _ => ⟨g7, 0, rfl, hB7, fun i hi => ?_⟩, HB7.out⟩
    have hcell : ∀ u, ([] ++ [Value.slice A3 (List.length (Fm.blk { kind := 1, label := lab, number := 0, load := [68] })) C3] ++ us)[i]? = some u → w7.cell? ⟨g7, 0 + i, none⟩ = some u := fun u hu => by
      have hu' := hu
      rw [← ht, List.getElem?_take, if_pos (by rw [List.length_cons] at hi; omega), Array.getElem?_toList] at hu'
      rw [Nat.zero_add, heap_cell hg7, hu']
    cases i with
    | zero => exact ⟨A3, C3, hcell _ rfl, h31, h32, h33.mono fun k hk => Nat.le_trans h26 hk.1⟩
    | succ i =>
      have hi' : i < K.length := by rw [List.length_cons] at hi; omega
      obtain ⟨A', C', h1, -, h3, h4, h5⟩ := HUS.out i hi'
      refine ⟨A', C', hcell _ ?_, h3, h4, ?_⟩
      · rw [List.getElem?_append_right (by simp)]; exact h1
      · exact (h5.kp hkp fun k hk e => by have := HLT5.out k e; omega).mono fun k hk => Nat.le_trans h56 hk
end Go.Proofs.YtndofmoepjfnfaaDoor
namespace Go.Proofs.YtndofmoepjfnfaaDoor
open Go.RowKit
open Pt (Tx)

/-- the tape at block gr -/
structure Rt (w : World) (B gr : Nat) (G : Nat → Prop) (lab cap : Int) (bs : List Tx) : Prop where
  ex : ∃ v us, w.heap[gr]? = some (.cells #[.int .i64 lab, .int .i64 cap, v, .bool false] 35 (0, 0)) ∧ TopB w B G v us bs
  lo : B ≤ gr
/-- what a call on such a tape may turn -/
def RefS (B : Nat) (G : Nat → Prop) (w : World) (k : Nat) : Prop := B ≤ k ∧ ((∃ c, w.heap[k]? = some (.cells c 26 (0, 0))) ∨ (∃ c, w.heap[k]? = some (.cells c 35 (0, 0))) ∨ G k)
def RefT (B : Nat) (G : Nat → Prop) (w w' : World) : Prop := Kp (RefS B G w) w w'
theorem RefT.refl (B : Nat) (G : Nat → Prop) (w : World) : RefT B G w w := Kp.refl _ _
theorem RefT.trans {B : Nat} {G : Nat → Prop} {a b c : World} (h : RefT B G a b) (k : RefT B G b c) : RefT B G a c := by
  refine ⟨k.os.trans h.os, k.tape.trans h.tape, k.output.trans h.output, Nat.le_trans h.size k.size, fun i hi hs => ?_⟩
  have e := h.block i hi hs
  rw [← e]
  refine k.block i (Nat.lt_of_lt_of_le hi h.size) fun h' => hs ?_
  obtain ⟨h1, h2⟩ := h'
  rw [e] at h2
  exact ⟨h1, h2⟩
theorem RefT.below {B : Nat} {G : Nat → Prop} {a b : World} (h : RefT B G a b) (hB : B ≤ a.heap.size) : Below B a b := Kp.below h hB fun _ hk => hk.1
theorem RefT.of_below {B : Nat} {G : Nat → Prop} {a b : World} (h : Below a.heap.size a b) : RefT B G a b := Kp.of_below h
/-- a block of another kind is kept -/
theorem RefT.kept {B : Nat} {G : Nat → Prop} {a b : World} (h : RefT B G a b) {k : Nat} {c : Array Value} {t : TypeId} {fr : Nat × Nat} (hk : a.heap[k]? = some (.cells c t fr)) (h1 : t ≠ 26) (h2 : t ≠ 35) (h3 : ¬ G k) : b.heap[k]? = some (.cells c t fr) := by
  refine (h.block k (heap_lt hk) fun hs => ?_).trans hk
  rcases hs.2 with ⟨c', e⟩ | ⟨c', e⟩ | e
  · rw [hk] at e; injection e with e; injection e with _ e; exact h1 e
  · rw [hk] at e; injection e with e; injection e with _ e; exact h2 e
  · exact h3 e
namespace Rt
variable {w w' : World} {B gr : Nat} {G G' : Nat → Prop} {lab cap : Int} {bs : List Tx}
theorem lt (h : Rt w B gr G lab cap bs) : gr < w.heap.size := by obtain ⟨v, us, h1, _⟩ := h.ex; exact heap_lt h1
theorem kp {S : Nat → Prop} (h : Rt w B gr G lab cap bs) (hk : Kp S w w') (h0 : ¬ S gr) (h1 : ∀ k c, S k → w.heap[k]? ≠ some (.cells c 26 (0, 0))) (h2 : ∀ k, S k → ¬ G k) : Rt w' B gr G lab cap bs := by
  obtain ⟨⟨v, us, hb, ht⟩, hlo⟩ := h
  exact ⟨⟨v, us, (hk.block gr (heap_lt hb) h0).trans hb, ht.kp hk h1 h2⟩, hlo⟩
theorem old (h : Rt w B gr G lab cap bs) (hb : Below w.heap.size w w') : Rt w' B gr G lab cap bs :=
  h.kp (S := fun _ => False) (Kp.of_below hb) (fun h => h) (fun _ _ h => h.elim) (fun _ h => h.elim)
theorem mono (h : Rt w B gr G lab cap bs) (hg : ∀ k, G k → G' k) : Rt w B gr G' lab cap bs := by
  obtain ⟨⟨v, us, hb, ht⟩, hlo⟩ := h
  exact ⟨⟨v, us, hb, ht.mono hg⟩, hlo⟩
theorem there (h : Rt w B gr G lab cap bs) : Rt w B gr (fun k => G k ∧ k < w.heap.size) lab cap bs := by
  obtain ⟨⟨v, us, hb, ht⟩, hlo⟩ := h
  exact ⟨⟨v, us, hb, ht.there⟩, hlo⟩
end Rt
theorem own_down {w : World} {B B' : Nat} {t : TypeId} {v : Value} {n : Nat} {xs : List Value} (h : w.ownsRow B t 1 v n xs) (hB : B' ≤ B) : w.ownsRow B' t 1 v n xs := by
  refine ⟨h.1, ?_⟩
  rcases h.2 with h0 | ⟨g, c, cur, e, hb, hr⟩
  · exact .inl h0
  · exact .inr ⟨g, c, cur, e, Nat.le_trans hB hb, hr⟩
/-- what a call on such a tape answered, and left -/
def RefDid (r : Value) (B gr : Nat) (G : Nat → Prop) (lab cap : Int) (bs : List Tx) (w : World) (e : Ending) (w' : World) : Prop := e = .returned r ∧ Rt w' B gr G lab cap bs ∧ RefT B G w w'
theorem oneCellT (w : World) (u : Value) (t : TypeId) : ∀ j u', [u][j]? = some u' → (w.alloc (.cells #[u] t)).cell? ((⟨w.heap.size, 0, none⟩ : Addr).add j) = some u' := fun j u' hu => by
  have hj : j = 0 := by
    rcases Nat.eq_zero_or_pos j with h0 | h0
    · exact h0
    · rw [List.getElem?_eq_none (by simp; omega)] at hu; cases hu
  subst hj
  cases hu
  rw [addr_add]; simp
theorem oneTop (A : Option Addr) (L C : Nat) : ∀ u ∈ [Value.slice A L C], u.oneCell' = true := fun u hu => by rw [List.mem_singleton.1 hu]; rfl
/-- a row is appended to the tape at gr -/
theorem Rt.pushed {w wA wB : World} {B gr : Nat} {G : Nat → Prop} {lab cap : Int} {bs : List Tx} {v : Value} {us : List Value} {s : Tx} {u v' : Value} {o : Obj} (hM : w.heap[gr]? = some (.cells #[.int .i64 lab, .int .i64 cap, v, .bool false] 35 (0, 0))) (hT : TopB w B G v us bs) (hlo : B ≤ gr)
    (hA : Below w.heap.size w wA) (hu : OwnL wA B u s) (hun : ∀ k, u.ownBlock = some k → w.heap.size ≤ k) (hG : ∀ k, w.heap.size ≤ k → G k) (hB : wB.ownsRow B 26 1 v' (us.length + 1) (us ++ [u])) (hg : (wA.alloc o).grownBy wB v.ownBlock) :
    wB.heap[gr]? = w.heap[gr]? ∧ Rt (wB.setCell ⟨gr, 2, none⟩ v') B gr G lab cap (bs ++ [s]) ∧ RefT B G w (wB.setCell ⟨gr, 2, none⟩ v') := by
  have hlt := heap_lt hM
  have hA' : Below w.heap.size w (wA.alloc o) := hA.alloc hA.size _
  have hne : some gr ≠ v.ownBlock := fun e => by
    obtain ⟨x, hx⟩ := own_blk hT.top gr e.symm
    rw [hM] at hx
    injection hx with hx
    injection hx with _ e2
    exact absurd e2 (by decide)
  have e : wB.heap[gr]? = w.heap[gr]? := (hg.block gr (Nat.lt_of_lt_of_le hlt hA'.size) hne).trans (hA'.block gr hlt)
  have hp := hT.push hA' (hu.alloc o) hun (fun k hk => hG k (hun k hk)) hB hg
  refine ⟨e, ⟨⟨v', us ++ [u], by rw [heap_set (e.trans hM)]; rfl, hp.kpT (Kp.store _ gr 2 _) (fun x c hx hc => ?_) (fun x c hx hc => ?_)⟩, hlo⟩, ?_⟩
  · rw [hx, e, hM] at hc
    injection hc with hc
    injection hc with _ e2
    exact absurd e2 (by decide)
  · rw [hx, e, hM] at hc
    injection hc with hc
    injection hc with _ e2
    exact absurd e2 (by decide)
  · refine (RefT.of_below hA').trans (RefT.trans (Kp.grown (Kp.refl _ _) hg fun k hk => ?_) ((Kp.store wB gr 2 v').mono fun k hk => ?_))
    · obtain ⟨x, hx⟩ := own_blk hT.top k hk
      exact ⟨(hT.top.lt k hk).1, .inl ⟨x, (hA'.block k (heap_lt hx)).trans hx⟩⟩
    · rw [hk]
      exact ⟨hlo, .inr (.inl ⟨_, e.trans hM⟩)⟩
theorem own_row {w : World} {B B' : Nat} {v : Value} {n : Nat} {s : Tx} (h : w.ownsRow B' 5 1 v n ([] ++ cellsL s)) (hn : s.length = n) (hB : B ≤ B') : OwnL w B v s := by
  subst hn; exact own_down h hB
theorem own_base {w : World} {B g n c : Nat} {t : TypeId} {xs : List Value} (h : w.ownsRow B t 1 (.slice (some ⟨g, 0, none⟩) n c) n xs) : B ≤ g := by
  rcases h.2 with ⟨e, _⟩ | ⟨g', c', cur, e, hb, _⟩
  · cases e
  · cases e; exact hb
end Go.Proofs.YtndofmoepjfnfaaDoor
namespace Go.Proofs.YtndofmoepjfnfaaDoor
open Go.RowKit
open Pt (Tx)

/-- a tape's four cells -/
structure Tv where
  label : Int
  cap : Int
  A : Option Addr
  n : Nat
  C : Nat
  lost : Bool
def encT : Enc Tv where
  k := 4
  pos := by decide
  enc t := [.int .i64 t.label, .int .i64 t.cap, .slice t.A t.n t.C, .bool t.lost]
  len _ := rfl
  one t u hu := by
    simp only [List.mem_cons, List.not_mem_nil, or_false] at hu
    rcases hu with rfl | rfl | rfl | rfl <;> rfl
theorem infoTape : (Tryd.prog.info? 35).map (fun i => (i.zero, i.size, i.bytes)) = some (some (.agg #[.int .i64 0, .int .i64 0, .slice none 0 0, .bool false]), 4, 48) := by kernel_rfl
/-- the value that is handed on -/
def Tv.val (t : Tv) : Value := .agg #[.int .i64 t.label, .int .i64 t.cap, .slice t.A t.n t.C, .bool t.lost]
/-- a row of such cells and what they point to read as tapes -/
theorem RdT.of_rows {w : World} {A : Option Addr} {tvs : List Tv} {ts : List St.T} {G : Nat → Prop} (h : encT.Rd w A tvs G) (hl : tvs.length = ts.length)
    (hb : ∀ i (hi : i < tvs.length) (hi' : i < ts.length), tvs[i].label = ts[i].label ∧ tvs[i].cap = ts[i].cap ∧ tvs[i].n = ts[i].blocks.length ∧ tvs[i].lost = ts[i].lost ∧ RdB w tvs[i].A ts[i].blocks G) : RdT w A ts G := by
  intro hn
  obtain ⟨b, off, e, hg, hc⟩ := h (by omega)
  refine ⟨b, off, e, hg, fun i hi => ?_⟩
  have hi' : i < tvs.length := by omega
  obtain ⟨h1, h2, h3, h4, h5⟩ := hb i hi' hi
  refine ⟨tvs[i].A, tvs[i].C, ?_, ?_, ?_, ?_, h5⟩
  · rw [← h1]; exact hc i hi' 0 _ rfl
  · rw [← h2]; exact hc i hi' 1 _ rfl
  · rw [← h3]; exact hc i hi' 2 _ rfl
  · rw [← h4]; exact hc i hi' 3 _ rfl
/-- and the other way round -/
theorem RdT.rows {w : World} {A : Option Addr} {ts : List St.T} {G : Nat → Prop} (h : RdT w A ts G) : ∃ tvs : List Tv, tvs.length = ts.length ∧ encT.Rd w A tvs G
    ∧ ∀ i (hi : i < tvs.length) (hi' : i < ts.length), tvs[i].label = ts[i].label ∧ tvs[i].cap = ts[i].cap ∧ tvs[i].n = ts[i].blocks.length ∧ tvs[i].lost = ts[i].lost ∧ RdB w tvs[i].A ts[i].blocks G := by
  rcases Nat.eq_zero_or_pos ts.length with h0 | h0
  · exact ⟨[], by rw [h0]; rfl, Enc.Rd.nil _ _ _, fun i hi => absurd hi (by simp)⟩
  · obtain ⟨b, off, e, hg, hc⟩ := h h0
    have key : ∀ i, ∃ q : Option Addr × Nat, ∀ hi : i < ts.length, w.cell? ⟨b, off + i * 4 + 2, none⟩ = some (.slice q.1 ts[i].blocks.length q.2) ∧ RdB w q.1 ts[i].blocks G := fun i => by
      by_cases hi : i < ts.length
      · obtain ⟨A', C', _, _, h2, _, h4⟩ := hc i hi
        exact ⟨(A', C'), fun _ => ⟨h2, h4⟩⟩
      · exact ⟨(none, 0), fun h => absurd h hi⟩
    refine ⟨(List.range ts.length).map fun i => ⟨(ts.getD i ⟨0, 0, [], false⟩).label, (ts.getD i ⟨0, 0, [], false⟩).cap, (key i).choose.1, (ts.getD i ⟨0, 0, [], false⟩).blocks.length, (key i).choose.2, (ts.getD i ⟨0, 0, [], false⟩).lost⟩, by simp, fun _ => ⟨b, off, e, hg, fun i hi j u hu => ?_⟩, fun i hi hi' => ?_⟩
    · have hi' : i < ts.length := by simpa using hi
      obtain ⟨k1, k2⟩ := (key i).choose_spec hi'
      obtain ⟨A', C', g0, g1, _, g3, _⟩ := hc i hi'
      have ht : ts.getD i ⟨0, 0, [], false⟩ = ts[i] := by rw [List.getD_eq_getElem?_getD, List.getElem?_eq_getElem hi']; rfl
      simp only [List.getElem_map, List.getElem_range, ht] at hu
      match j, hu with
      | 0, hu => cases hu; exact g0
      | 1, hu => cases hu; exact g1
      | 2, hu => cases hu; exact k1
      | 3, hu => cases hu; exact g3
    · obtain ⟨k1, k2⟩ := (key i).choose_spec hi'
      have ht : ts.getD i ⟨0, 0, [], false⟩ = ts[i] := by rw [List.getD_eq_getElem?_getD, List.getElem?_eq_getElem hi']; rfl
      simp only [List.getElem_map, List.getElem_range, ht]
      exact ⟨trivial, trivial, trivial, trivial, k2⟩
end Go.Proofs.YtndofmoepjfnfaaDoor
namespace Go.Proofs.YtndofmoepjfnfaaDoor
open Go.RowKit
open Pt (Tx)

/-- a byte of an own row is turned -/
theorem OwnL.set {w : World} {B g L C k : Nat} {s : Tx} (h : OwnL w B (.slice (some ⟨g, 0, none⟩) L C) s) (hk : k < s.length) (x : UInt8) : OwnL (w.setCell ⟨g, k, none⟩ (.int .u8 (x.toNat : Int))) B (.slice (some ⟨g, 0, none⟩) L C) (s.set k x) := by
  refine ⟨by simp [cellsL_len], ?_⟩
  rcases h.2 with ⟨e, _⟩ | ⟨g', cap, cur, e, hb, hg, hnc, hcm, hs, ht⟩
  · cases e
  · cases e
    refine .inr ⟨g, C, cur.setIfInBounds k (.int .u8 (x.toNat : Int)), by simp, hb, heap_set hg _, by simpa using hnc, hcm, by simpa using hs, ?_⟩
    rw [Nat.mul_one] at ht ⊢
    rw [List.length_set]
    apply List.ext_getElem?
    intro j
    have hj := congrArg (·[j]?) ht
    simp only [List.getElem?_take, Array.getElem?_toList] at hj
    simp only [List.getElem?_take, Array.getElem?_toList, Array.getElem?_setIfInBounds]
    by_cases hjl : j < s.length
    · rw [if_pos hjl] at hj ⊢
      rw [cellsL_get (by simpa using hjl)]
      rw [cellsL_get hjl] at hj
      by_cases e : k = j
      · subst e
        rw [if_pos rfl, if_pos (by omega)]
        simp
      · rw [if_neg e, hj]
        simp [List.getElem_set_ne e]
    · rw [if_neg hjl, List.getElem?_eq_none (by rw [cellsL_len, List.length_set]; omega)]
/-- a byte of a row is turned -/
theorem TopB.turned {w : World} {B : Nat} {G : Nat → Prop} {v : Value} {us : List Value} {bs : List Tx} (h : TopB w B G v us bs) {n : Nat} (hn : n < us.length) (hn' : n < bs.length) {g L C k : Nat} (hu : us[n] = .slice (some ⟨g, 0, none⟩) L C) {s : Tx} (hs : bs[n] = s) (hk : k < s.length) (x : UInt8) :
    TopB (w.setCell ⟨g, k, none⟩ (.int .u8 (x.toNat : Int))) B G v us (bs.set n (s.set k x)) := by
  subst hs
  have hK := Kp.store w g k (.int .u8 (x.toNat : Int))
  have hr := h.rows n hn hn'
  have hown : us[n].ownBlock = some g := by rw [hu]; rfl
  refine ⟨own_of h.top fun q e => hK.block q (h.top.lt q e).2 fun hq => ?_, by rw [List.length_set, h.len], fun i hi hi' => ?_, h.gs, h.inj⟩
  · obtain ⟨c, hc⟩ := own_blk h.top q e
    obtain ⟨c', hc'⟩ := hr.block g hown
    rw [hq, hc'] at hc
    injection hc with hc
    injection hc with _ e2
    exact absurd e2 (by decide)
  · by_cases e : n = i
    · subst e
      rw [List.getElem_set_self, hu]
      rw [hu] at hr
      exact hr.set hk x
    · rw [List.getElem_set_ne e]
      rw [List.length_set] at hi'
      exact (h.rows i hi hi').kp hK fun q hq hq' => e (h.inj n i hn hi g hown (by rw [← hq']; exact hq))
end Go.Proofs.YtndofmoepjfnfaaDoor
