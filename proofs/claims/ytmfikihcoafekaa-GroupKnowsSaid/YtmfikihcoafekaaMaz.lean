/- Two rows of tapes joined by append. No function of the program. A byte of one of a tape's own rows is turned. No function of the program. The tapes of the laws of chapter 15 once they are laid: what is kept while some are lost, and bytes of some are turned. No function of the program. GroupKnows: what is known of the parity tapes of a group while some are lost, and a byte of others is turned. No function of the program. -/
import Derived.Test.YtmfikihcoafekaaMay
import Derived.Deep.AppendLies
import Derived.Test.YtmfikihcoafekaaMah
import Derived.Test.YtmfikihcoafekaaMaj
import Derived.Test.YtmfikihcoafekaaMac
import Derived.Test.YtmfikihcoafekaaMap
namespace Go.Proofs.Ytmfikihcoafekaa
open Go.RowKit
open Pt (Tx)

theorem Enc.Own.news {α : Type} {E : Enc α} {w : World} {base : Nat} {t : TypeId} {v : Value} {l : List α} (h : E.Own w base t v l) (h0 : 0 < l.length) :
    ∃ g C, v = .slice (some ⟨g, 0, none⟩) l.length C ∧ base ≤ g ∧ ∀ j u, (E.cells l)[j]? = some u → w.cell? ((⟨g, 0, none⟩ : Addr).add j) = some u := by
  rcases h.2 with ⟨rfl, h1⟩ | ⟨g, cap, cur, rfl, hb, hg, hnc, hcm, hs, ht⟩
  · omega
  · refine ⟨g, cap, rfl, hb, fun j u hu => ?_⟩
    have hlt : j < l.length * E.k := by
      have h2 := (List.getElem?_eq_some_iff.1 hu).1
      rw [E.cells_len] at h2
      exact h2
    rw [← ht, List.getElem?_take, if_pos hlt, Array.getElem?_toList] at hu
    rw [addr_add, heap_cell hg, Nat.zero_add, hu]
theorem RowsT.app {w : World} {B N M : Nat} {tvs l : List Tv} {ts ts2 : List St.T} {L L2 : Nat → Nat} (h : RowsT w B N tvs ts L) (h2 : RowsT w N M l ts2 L2) :
    RowsT w B M (tvs ++ l) (ts ++ ts2) (fun i => if i < ts.length then L i else L2 (i - ts.length)) := by
  have hl := h.len
  have hl2 := h2.len
  have hBN : B ≤ N := Nat.le_trans (Nat.le_trans h.lo (h.le ts.length 0 (by omega) (Nat.le_refl _))) h.hi
  refine ⟨by simp [hl, hl2], ?_, fun i hi => ?_, ?_, fun i hi hi' => ?_⟩
  · split
    · exact h.lo
    · rename_i h0
      rw [Nat.zero_sub]
      exact Nat.le_trans hBN h2.lo
  · rw [List.length_append] at hi
    by_cases h0 : i < ts.length
    · rw [if_pos h0]
      by_cases h1 : i + 1 < ts.length
      · rw [if_pos h1]; exact h.mono i h0
      · rw [if_neg h1, show i + 1 - ts.length = 0 by omega]
        exact Nat.le_trans (Nat.le_trans (h.le ts.length i (by omega) (Nat.le_refl _)) h.hi) h2.lo
    · rw [if_neg h0, if_neg (by omega), show i + 1 - ts.length = (i - ts.length) + 1 by omega]
      exact h2.mono _ (by omega)
  · rw [List.length_append, if_neg (by omega), Nat.add_sub_cancel_left]; exact h2.hi
  · rw [List.length_append] at hi hi'
    by_cases h0 : i < ts.length
    · rw [if_pos h0, List.getElem_append_left h0, List.getElem_append_left (by omega)]
      by_cases h1 : i + 1 < ts.length
      · rw [if_pos h1]; exact h.one i (by omega) h0
      · rw [if_neg h1, show i + 1 - ts.length = 0 by omega]
        have e : i + 1 = ts.length := by omega
        have h3 := h.hi
        rw [← e] at h3
        exact (h.one i (by omega) h0).up (Nat.le_trans h3 h2.lo)
    · rw [if_neg h0, if_neg (by omega), List.getElem_append_right (by omega), List.getElem_append_right (by omega), show i + 1 - ts.length = (i - ts.length) + 1 by omega]
      have h9 := h2.one (i - ts.length) (by omega) (by omega)
      simp only [hl]
      exact h9
namespace LdR
variable {w wr y : World} {v : Value} {ts : List St.T}
/-- a row of tapes behind the other -/
theorem app (h : LdR w v ts wr) (l : List Tv) (ts2 : List St.T) {L2 : Nat → Nat} {M : Nat} (hr2 : RowsT y wr.heap.size M l ts2 L2) (hM : M ≤ y.heap.size) (h0 : 0 < l.length)
    (hb : Below wr.heap.size wr y) (ad : Addr) (n c N : Nat) (hn : n = l.length) (hnews : ∀ j u, (encT.cells l)[j]? = some u → y.cell? (ad.add j) = some u) (hmax : ts.length + l.length ≤ 1000000) (hN : N = ts.length + l.length) :
    ∃ g cap z, (∀ ty, (Builtin.append_ #[29, 29] ty #[v, .slice (some ad) n c]).run Try.prog y = .ok (.slice (some ⟨g, 0, none⟩) N cap) z) ∧ LdR w (.slice (some ⟨g, 0, none⟩) N cap) (ts ++ ts2) z ∧ Below w.heap.size w z ∧ y.grownBy z v.ownBlock := by
  subst hN hn
  obtain ⟨tvs, L, h1, h2⟩ := h.ex
  have hlen := h2.len
  obtain ⟨i0, hi, hz0, hz1, hz2⟩ := info_parts infoTape
  have hown : y.ownsRow w.heap.size 32 4 v tvs.length (encT.cells tvs) := h1.old hb
  have hw : w.heap.size ≤ y.heap.size := Nat.le_trans h.bel.size hb.size
  obtain ⟨g, cap, z, hr, ho, hg, hat, hlt⟩ := run_append_lies (P := Try.prog) (w := y) 29 3 w.heap.size 32 i0 (.agg #[.int .i64 0, .int .i64 0, .slice none 0 0, .bool false]) 4 48 Try.underlying29 hi hz0 hz1 hz2 rfl (by decide) v tvs.length (encT.cells tvs) hown ad l.length c (encT.cells l) (Enc.cells_len encT l) hnews (Enc.cells_all encT l) h0 (by rw [hlen]; unfold maxLen; omega) (by rw [hlen]; omega) hw y.heap.size rfl
  rw [hlen] at hr ho
  have hvb : ∀ k, v.ownBlock = some k → ∃ c, y.heap[k]? = some (.cells c 32 (0, 0)) := fun k e => by
    obtain ⟨c, hc⟩ := h1.block k e
    exact ⟨c, (hb.block k (heap_lt hc)).trans hc⟩
  have hk2 : Kp (fun k => v.ownBlock = some k) y z := ⟨hg.os, hg.tape, hg.output, hg.size, fun k hk hs => hg.block k hk fun e => hs e.symm⟩
  have hne1 : ∀ k c, v.ownBlock = some k → y.heap[k]? ≠ some (.cells c 24 (0, 0)) := fun k c e hc => by
    obtain ⟨c', hc'⟩ := hvb k e
    rw [hc'] at hc; injection hc with hc; injection hc with _ e2; exact absurd e2 (by decide)
  have hne2 : ∀ k c, v.ownBlock = some k → y.heap[k]? ≠ some (.cells c 5 (0, 0)) := fun k c e hc => by
    obtain ⟨c', hc'⟩ := hvb k e
    rw [hc'] at hc; injection hc with hc; injection hc with _ e2; exact absurd e2 (by decide)
  have hrow := ((h2.kp (S := fun _ => False) (Kp.of_below hb) (fun _ _ hs => hs.elim) (fun _ _ hs => hs.elim)).app hr2).kp hk2 (fun k c e _ => hne1 k c e) (fun k c e _ => hne2 k c e)
  have hbel : Below w.heap.size w z := (h.bel.trans (hb.mono h.bel.size)).grown hg hw fun k e => (h1.lt k e).1
  refine ⟨g, cap, z, fun ty => hr, ⟨⟨tvs ++ l, _, ?_, hrow.up (Nat.le_trans hM hg.size)⟩, hbel⟩, hbel, hg⟩
  unfold Enc.Own
  rw [Enc.cells_append, List.length_append, hlen]
  exact ho
end LdR
end Go.Proofs.Ytmfikihcoafekaa
namespace Go.Proofs.Ytmfikihcoafekaa
open Go.RowKit
open Pt (Tx)

/-- a byte of an own row is turned -/
theorem OwnL.set {w : World} {B g L C k : Nat} {s : Tx} (h : OwnL w B (.slice (some ⟨g, 0, none⟩) L C) s) (hk : k < s.length) (x : UInt8) : OwnL (w.setCell ⟨g, k, none⟩ (.int .u8 (x.toNat : Int))) B (.slice (some ⟨g, 0, none⟩) L C) (s.set k x) := by
  refine ⟨by simp [cellsL_len], ?_⟩
  rcases h.2 with ⟨e, _⟩ | ⟨g', cap, cur, e, hb, hg, hnc, hcm, hs, ht⟩
  · cases e
  · cases e
    refine .inr ⟨g, C, cur.setIfInBounds k (.int .u8 (x.toNat : Int)), by simp, hb, heap_set hg _, by simpa using hnc, hcm, by simpa using hs, ?_⟩
    rw [Nat.mul_one] at ht ⊢
    rw [List.length_set]
    apply List.ext_getElem?
    intro j
    have hj := congrArg (·[j]?) ht
    simp only [List.getElem?_take, Array.getElem?_toList] at hj
    simp only [List.getElem?_take, Array.getElem?_toList, Array.getElem?_setIfInBounds]
    by_cases hjl : j < s.length
    · rw [if_pos hjl] at hj ⊢
      rw [cellsL_get (by simpa using hjl)]
      rw [cellsL_get hjl] at hj
      by_cases e : k = j
      · subst e
        rw [if_pos rfl, if_pos (by omega)]
        simp
      · rw [if_neg e, hj]
        simp [List.getElem_set_ne e]
    · rw [if_neg hjl, List.getElem?_eq_none (by rw [cellsL_len, List.length_set]; omega)]
/-- a byte of a row is turned -/
theorem TopB.turned {w : World} {B : Nat} {G : Nat → Prop} {v : Value} {us : List Value} {bs : List Tx} (h : TopB w B G v us bs) {n : Nat} (hn : n < us.length) (hn' : n < bs.length) {g L C k : Nat} (hu : us[n] = .slice (some ⟨g, 0, none⟩) L C) {s : Tx} (hs : bs[n] = s) (hk : k < s.length) (x : UInt8) :
    TopB (w.setCell ⟨g, k, none⟩ (.int .u8 (x.toNat : Int))) B G v us (bs.set n (s.set k x)) := by
  subst hs
  have hK := Kp.store w g k (.int .u8 (x.toNat : Int))
  have hr := h.rows n hn hn'
  have hown : us[n].ownBlock = some g := by rw [hu]; rfl
  refine ⟨own_of h.top fun q e => hK.block q (h.top.lt q e).2 fun hq => ?_, by rw [List.length_set, h.len], fun i hi hi' => ?_, h.gs, h.inj⟩
  · obtain ⟨c, hc⟩ := own_blk h.top q e
    obtain ⟨c', hc'⟩ := hr.block g hown
    rw [hq, hc'] at hc
    injection hc with hc
    injection hc with _ e2
    exact absurd e2 (by decide)
  · by_cases e : n = i
    · subst e
      rw [List.getElem_set_self, hu]
      rw [hu] at hr
      exact hr.set hk x
    · rw [List.getElem_set_ne e]
      rw [List.length_set] at hi'
      exact (h.rows i hi hi').kp hK fun q hq hq' => e (h.inj n i hn hi g hown (by rw [← hq']; exact hq))
end Go.Proofs.Ytmfikihcoafekaa
namespace Go.Proofs.Ytmfikihcoafekaa
open Go.RowKit
open Pt (Tx)

namespace LdR
variable {w wr y : World} {v : Value} {ts : List St.T}
/-- a row of tapes behind the other, and where it lies -/
theorem app2 (h : LdR w v ts wr) (l : List Tv) (ts2 : List St.T) {L2 : Nat → Nat} {M : Nat} (hr2 : RowsT y wr.heap.size M l ts2 L2) (h0 : 0 < l.length)
    (hb : Below wr.heap.size wr y) (ad : Addr) (n c N : Nat) (hn : n = l.length) (hnews : ∀ j u, (encT.cells l)[j]? = some u → y.cell? (ad.add j) = some u) (hmax : ts.length + l.length ≤ 1000000) (hN : N = ts.length + l.length) :
    ∃ g cap z, (∀ ty, (Builtin.append_ #[29, 29] ty #[v, .slice (some ad) n c]).run Try.prog y = .ok (.slice (some ⟨g, 0, none⟩) N cap) z) ∧ (∃ tvs L, encT.Own z w.heap.size 32 (.slice (some ⟨g, 0, none⟩) N cap) tvs ∧ RowsT z w.heap.size M tvs (ts ++ ts2) L) ∧ Below w.heap.size w z ∧ y.grownBy z v.ownBlock ∧ (v.ownBlock = some g ∨ g = y.heap.size) := by
  subst hN hn
  obtain ⟨tvs, L, h1, h2⟩ := h.ex
  have hlen := h2.len
  obtain ⟨i0, hi, hz0, hz1, hz2⟩ := info_parts infoTape
  have hown : y.ownsRow w.heap.size 32 4 v tvs.length (encT.cells tvs) := h1.old hb
  have hw : w.heap.size ≤ y.heap.size := Nat.le_trans h.bel.size hb.size
  obtain ⟨g, cap, z, hr, ho, hg, hat, hlt⟩ := run_append_lies (P := Try.prog) (w := y) 29 3 w.heap.size 32 i0 (.agg #[.int .i64 0, .int .i64 0, .slice none 0 0, .bool false]) 4 48 Try.underlying29 hi hz0 hz1 hz2 rfl (by decide) v tvs.length (encT.cells tvs) hown ad l.length c (encT.cells l) (Enc.cells_len encT l) hnews (Enc.cells_all encT l) h0 (by rw [hlen]; unfold maxLen; omega) (by rw [hlen]; omega) hw y.heap.size rfl
  rw [hlen] at hr ho
  have hvb : ∀ k, v.ownBlock = some k → ∃ c, y.heap[k]? = some (.cells c 32 (0, 0)) := fun k e => by
    obtain ⟨c, hc⟩ := h1.block k e
    exact ⟨c, (hb.block k (heap_lt hc)).trans hc⟩
  have hk2 : Kp (fun k => v.ownBlock = some k) y z := ⟨hg.os, hg.tape, hg.output, hg.size, fun k hk hs => hg.block k hk fun e => hs e.symm⟩
  have hne1 : ∀ k c, v.ownBlock = some k → y.heap[k]? ≠ some (.cells c 24 (0, 0)) := fun k c e hc => by
    obtain ⟨c', hc'⟩ := hvb k e
    rw [hc'] at hc; injection hc with hc; injection hc with _ e2; exact absurd e2 (by decide)
  have hne2 : ∀ k c, v.ownBlock = some k → y.heap[k]? ≠ some (.cells c 5 (0, 0)) := fun k c e hc => by
    obtain ⟨c', hc'⟩ := hvb k e
    rw [hc'] at hc; injection hc with hc; injection hc with _ e2; exact absurd e2 (by decide)
  have hrow := ((h2.kp (S := fun _ => False) (Kp.of_below hb) (fun _ _ hs => hs.elim) (fun _ _ hs => hs.elim)).app hr2).kp hk2 (fun k c e _ => hne1 k c e) (fun k c e _ => hne2 k c e)
  have hbel : Below w.heap.size w z := (h.bel.trans (hb.mono h.bel.size)).grown hg hw fun k e => (h1.lt k e).1
  refine ⟨g, cap, z, fun ty => hr, ⟨tvs ++ l, _, ?_, hrow⟩, hbel, hg, hat⟩
  unfold Enc.Own
  rw [Enc.cells_append, List.length_append, hlen]
  exact ho
end LdR
theorem Enc.Own.down {α : Type} {E : Enc α} {w : World} {B B' : Nat} {t : TypeId} {v : Value} {l : List α} (h : E.Own w B t v l) (hB : B' ≤ B) : E.Own w B' t v l := by
  refine ⟨h.1, ?_⟩
  rcases h.2 with h0 | ⟨g, c, cur, e, hb, hr⟩
  · exact .inl h0
  · exact .inr ⟨g, c, cur, e, Nat.le_trans hB hb, hr⟩
/-- a tape of a row is lost -/
theorem ownT_lost {w : World} {base g cap : Nat} {tvs : List Tv} (h : encT.Own w base 32 (.slice (some ⟨g, 0, none⟩) tvs.length cap) tvs) {i : Nat} (hi : i < tvs.length) :
    encT.Own (w.setCell ⟨g, i * 4 + 3, none⟩ (.bool true)) base 32 (.slice (some ⟨g, 0, none⟩) tvs.length cap) (tvs.set i ⟨tvs[i].label, tvs[i].cap, tvs[i].A, tvs[i].n, tvs[i].C, true⟩) := by
  unfold Enc.Own at h ⊢
  rw [List.length_set]
  refine ⟨by rw [Enc.cells_len, List.length_set], ?_⟩
  rcases h.2 with ⟨e, _⟩ | ⟨g', cap', cur, e, hb, hg, hnc, hcm, hs, ht⟩
  · cases e
  · injection e with e1 _ e3
    injection e1 with e1
    injection e1 with e1 _ _
    subst e1 e3
    refine .inr ⟨g, cap, cur.setIfInBounds (i * 4 + 3) (.bool true), rfl, hb, heap_set hg _, hnc, hcm, by simpa using hs, ?_⟩
    apply List.ext_getElem?
    intro j
    have hj := congrArg (·[j]?) ht
    simp only [List.getElem?_take, Array.getElem?_toList] at hj
    simp only [List.getElem?_take, Array.getElem?_toList, Array.getElem?_setIfInBounds]
    have hk : encT.k = 4 := rfl
    rw [hk] at hj ⊢
    by_cases hjl : j < tvs.length * 4
    · rw [if_pos hjl] at hj ⊢
      obtain ⟨q, r, hr4, rfl⟩ : ∃ q r, r < 4 ∧ j = q * 4 + r := ⟨j / 4, j % 4, Nat.mod_lt _ (by decide), by omega⟩
      have hq : q < tvs.length := by omega
      have c1 := encT.cells_get tvs q r hr4 hq
      have c2 := encT.cells_get (tvs.set i ⟨tvs[i].label, tvs[i].cap, tvs[i].A, tvs[i].n, tvs[i].C, true⟩) q r hr4 (by rw [List.length_set]; exact hq)
      rw [hk] at c1 c2
      rw [c2]
      rw [c1] at hj
      by_cases e : i = q
      · subst e
        rw [List.getElem_set_self]
        match r, hr4 with
        | 0, _ => rw [if_neg (by omega), hj]; rfl
        | 1, _ => rw [if_neg (by omega), hj]; rfl
        | 2, _ => rw [if_neg (by omega), hj]; rfl
        | 3, _ =>
          have hlt : i * 4 + 3 < cur.size := by
            rw [hs]
            have : tvs.length * 4 ≤ cap * 4 := Nat.mul_le_mul_right _ hnc
            show i * 4 + 3 < cap * 4
            omega
          rw [if_pos rfl, if_pos hlt]; rfl
      · rw [if_neg (by omega), hj, List.getElem_set_ne e]
    · rw [if_neg hjl, List.getElem?_eq_none (by rw [Enc.cells_len, List.length_set, hk]; omega)]
namespace RowsT
variable {w w' : World} {B N : Nat} {tvs : List Tv} {ts : List St.T} {L : Nat → Nat}
theorem lost (h : RowsT w B N tvs ts L) {i : Nat} (hi : i < tvs.length) (hi' : i < ts.length) :
    RowsT w B N (tvs.set i ⟨tvs[i].label, tvs[i].cap, tvs[i].A, tvs[i].n, tvs[i].C, true⟩) (ts.set i ⟨ts[i].label, ts[i].cap, ts[i].blocks, true⟩) L := by
  refine ⟨by simp [h.len], h.lo, fun j hj => h.mono j (by simpa using hj), by rw [List.length_set]; exact h.hi, fun j hj hj' => ?_⟩
  rw [List.length_set] at hj hj'
  by_cases e : i = j
  · subst e
    rw [List.getElem_set_self, List.getElem_set_self]
    have o := h.one i hi hi'
    exact ⟨o.label, o.cap, o.n, rfl, o.rows, o.top⟩
  · rw [List.getElem_set_ne e, List.getElem_set_ne e]
    exact h.one j hj hj'
/-- a byte of a block of one of them is turned -/
theorem turned (h : RowsT w B N tvs ts L) {i n p : Nat} {s : Tx} (hi : i < tvs.length) (hi' : i < ts.length) (hs : ts[i].blocks[n]? = some s) (hp : p < s.length) :
    ∃ g' gb Cb c c', tvs[i].A = some ⟨g', 0, none⟩ ∧ tvs[i].n = ts[i].blocks.length ∧ w.heap[g']? = some (.cells c' 24 (0, 0)) ∧ w.cell? ⟨g', n, none⟩ = some (.slice (some ⟨gb, 0, none⟩) s.length Cb) ∧ w.heap[gb]? = some (.cells c 5 (0, 0)) ∧ w.cell? ⟨gb, p, none⟩ = some (.int .u8 ((s[p].toNat : Nat) : Int)) ∧ B ≤ gb ∧ gb < N ∧
      ∀ x : UInt8, RowsT (w.setCell ⟨gb, p, none⟩ (.int .u8 (x.toNat : Int))) B N tvs (ts.set i ⟨ts[i].label, ts[i].cap, ts[i].blocks.set n (s.set p x), ts[i].lost⟩) L := by
  have o := h.one i hi hi'
  obtain ⟨us, ht⟩ := o.rows
  obtain ⟨hn', hsn⟩ := List.getElem?_eq_some_iff.1 hs
  have hn : n < us.length := by rw [ht.len]; exact hn'
  have hr := ht.rows n hn hn'
  obtain ⟨Ar, Cr, er, h1, h2, h3, h4⟩ := hr.rd
  rw [hsn] at hr er h1 h3 h4
  obtain ⟨gb, cp, cur, e, hB, hg⟩ : ∃ g cap cur, us[n] = .slice (some ⟨g, 0, none⟩) s.length cap ∧ L i ≤ g ∧ w.heap[g]? = some (.cells cur 5 (0, 0)) := by
    rcases hr.2 with ⟨e, h0⟩ | ⟨g, cap, cur, e, hB, hg, _⟩
    · omega
    · exact ⟨g, cap, cur, e, hB, hg⟩
  rw [er] at e
  injection e with e1 e2 e3
  subst e1 e3
  obtain ⟨b, off, e5, -, hc⟩ := h4 (by omega)
  cases e5
  have hcp := hc p hp
  rw [Nat.zero_add] at hcp
  have hgb := (ht.gs n hn gb (by rw [er]; rfl))
  have hLi : B ≤ L i := Nat.le_trans h.lo (h.le i 0 (by omega) (by omega))
  have hLi1 : L (i + 1) ≤ N := Nat.le_trans (h.le ts.length (i + 1) (by omega) (Nat.le_refl _)) h.hi
  obtain ⟨g', cur', hA, hg', hcell⟩ : ∃ g' cur', tvs[i].A = some ⟨g', 0, none⟩ ∧ w.heap[g']? = some (.cells cur' 24 (0, 0)) ∧ w.cell? ⟨g', n, none⟩ = some (.slice (some ⟨gb, 0, none⟩) s.length Cr) := by
    rcases ht.top.2 with ⟨_, h0⟩ | ⟨g', cap', cur', e', _, hg', _, _, _, htk⟩
    · omega
    · injection e' with e' _ _
      refine ⟨g', cur', e', hg', ?_⟩
      have hx : us[n]? = some (.slice (some ⟨gb, 0, none⟩) s.length Cr) := by rw [List.getElem?_eq_getElem hn, er]
      rw [← htk, List.getElem?_take, if_pos (by omega), Array.getElem?_toList] at hx
      rw [heap_cell hg', hx]
  refine ⟨g', gb, Cr, cur, cur', hA, o.n, hg', hcell, hg, hcp, by omega, by omega, fun x => ?_⟩
  have hkp := Kp.store w gb p (.int .u8 (x.toNat : Int))
  refine ⟨by simp [h.len], h.lo, fun j hj => h.mono j (by simpa using hj), by rw [List.length_set]; exact h.hi, fun j hj hj' => ?_⟩
  rw [List.length_set] at hj'
  by_cases e : i = j
  · subst e
    rw [List.getElem_set_self]
    exact ⟨o.label, o.cap, by rw [o.n]; simp, o.lost, ⟨us, ht.turned hn hn' er (s := s) hsn hp x⟩, o.top⟩
  · rw [List.getElem_set_ne e]
    have oj := h.one j hj hj'
    obtain ⟨usj, htj⟩ := oj.rows
    refine ⟨oj.label, oj.cap, oj.n, oj.lost, ⟨usj, htj.kp hkp (fun k c hk hc => ?_) (fun k hk hG => ?_)⟩, oj.top⟩
    · have hk' : k = gb := hk
      rw [hk', hg] at hc
      injection hc with hc
      injection hc with _ e2
      exact absurd e2 (by decide)
    · have hk' : k = gb := hk
      rw [hk'] at hG
      rcases Nat.lt_or_ge i j with hij | hij
      · have := h.le j (i + 1) (by omega) (by omega)
        omega
      · have := h.le i (j + 1) (by omega) (by omega)
        omega
end RowsT
/-- tapes in a row made by append, and a seal -/
structure LdK (w1 : World) (g cap M M2 : Nat) (x : Sx) (ts : List St.T) (wr : World) : Prop where
  ex : ∃ tvs L, encT.Own wr w1.heap.size 32 (.slice (some ⟨g, 0, none⟩) ts.length cap) tvs ∧ RowsT wr w1.heap.size M tvs ts L
  sx : x.Ok wr (fun b => M ≤ b ∧ b < M2)
  gne : g < M ∨ M2 ≤ g
  bel : Below w1.heap.size w1 wr
  lo : w1.heap.size ≤ g
namespace LdK
variable {w1 wr w2 : World} {g cap M M2 : Nat} {x : Sx} {ts : List St.T}
theorem old (h : LdK w1 g cap M M2 x ts wr) (hb : Below wr.heap.size wr w2) : LdK w1 g cap M M2 x ts w2 := by
  obtain ⟨tvs, L, h1, h2⟩ := h.ex
  exact ⟨⟨tvs, L, h1.old hb, h2.kp (S := fun _ => False) (Kp.of_below hb) (fun _ _ hs => hs.elim) (fun _ _ hs => hs.elim)⟩, h.sx.old hb, h.gne, h.bel.trans (hb.mono h.bel.size), h.lo⟩
theorem rd (h : LdK w1 g cap M M2 x ts wr) : RdT wr (some ⟨g, 0, none⟩) ts (fun _ => True) := by
  obtain ⟨tvs, L, h1, h2⟩ := h.ex
  obtain ⟨A, C, hv, -, -, -, hr⟩ := h1.rd
  have e : (some ⟨g, 0, none⟩ : Option Addr) = A := by injection hv
  rw [e]
  exact h2.rdT (hr.mono fun _ _ => trivial) fun _ _ => trivial
theorem blk (h : LdK w1 g cap M M2 x ts wr) : ∃ c, wr.heap[g]? = some (.cells c 32 (0, 0)) := by
  obtain ⟨tvs, L, h1, h2⟩ := h.ex
  exact h1.block g rfl
/-- a seal elsewhere is stored into -/
theorem beside (h : LdK w1 g cap M M2 x ts wr) {q : Nat} (hk : Kp (· = q) wr w2) (hq : w1.heap.size ≤ q) (hqM : q < M) (ht : ∃ c, wr.heap[q]? = some (.cells c 41 (0, 0))) : LdK w1 g cap M M2 x ts w2 := by
  obtain ⟨tvs, L, h1, h2⟩ := h.ex
  obtain ⟨c, hc⟩ := ht
  have hno : ∀ k c' t, k = q → wr.heap[k]? = some (Obj.cells c' t (0, 0)) → t = 41 := fun k c' t e h' => by
    rw [e, hc] at h'
    injection h' with h'
    injection h' with _ e2
    exact e2.symm
  refine ⟨⟨tvs, L, h1.of_block fun k e => hk.block k (h1.lt k e).2 fun e' => ?_, h2.kp hk (fun k c' e _ h' => absurd (hno k c' _ e h') (by decide)) (fun k c' e _ h' => absurd (hno k c' _ e h') (by decide))⟩, h.sx.kp hk (fun b hb e => by have e' : b = q := e; omega), h.gne, h.bel.trans (hk.below h.bel.size fun k e => by have e' : k = q := e; omega), h.lo⟩
  obtain ⟨c2, hc2⟩ := h1.block k e
  exact absurd (hno k c2 _ e' hc2) (by decide)
/-- a tape is lost -/
theorem lost (h : LdK w1 g cap M M2 x ts wr) {i : Nat} (hi : i < ts.length) : LdK w1 g cap M M2 x (ts.set i ⟨ts[i].label, ts[i].cap, ts[i].blocks, true⟩) (wr.setCell ⟨g, i * 4 + 3, none⟩ (.bool true)) := by
  obtain ⟨tvs, L, h1, h2⟩ := h.ex
  obtain ⟨c, hc⟩ := h1.block g rfl
  have hl := h2.len
  have hi' : i < tvs.length := by rw [hl]; exact hi
  have hk := Kp.store wr g (i * 4 + 3) (.bool true)
  have hno : ∀ k c' t, k = g → wr.heap[k]? = some (Obj.cells c' t (0, 0)) → t = 32 := fun k c' t e h' => by
    rw [e, hc] at h'
    injection h' with h'
    injection h' with _ e2
    exact e2.symm
  refine ⟨⟨_, L, ?_, (h2.kp hk (fun k c' e _ h' => absurd (hno k c' _ e h') (by decide)) (fun k c' e _ h' => absurd (hno k c' _ e h') (by decide))).lost hi' hi⟩, h.sx.kp hk (fun b hb e => by have := h.gne; have e' : b = g := e; omega), h.gne, h.bel.trans (hk.below h.bel.size fun k e => by have := h.lo; have e' : k = g := e; omega), h.lo⟩
  rw [List.length_set, ← hl]
  rw [← hl] at h1
  exact ownT_lost h1 hi'
/-- a byte of a block is turned -/
theorem turned (h : LdK w1 g cap M M2 x ts wr) {i n p : Nat} {s : Tx} (hi : i < ts.length) (hs : ts[i].blocks[n]? = some s) (hp : p < s.length) :
    ∃ g' C' gb Cb c, wr.cell? ⟨g, i * 4 + 2, none⟩ = some (.slice (some ⟨g', 0, none⟩) ts[i].blocks.length C') ∧ wr.cell? ⟨g', n, none⟩ = some (.slice (some ⟨gb, 0, none⟩) s.length Cb) ∧ wr.heap[gb]? = some (.cells c 5 (0, 0)) ∧ wr.cell? ⟨gb, p, none⟩ = some (.int .u8 ((s[p].toNat : Nat) : Int)) ∧
      ∀ y : UInt8, LdK w1 g cap M M2 x (ts.set i ⟨ts[i].label, ts[i].cap, ts[i].blocks.set n (s.set p y), ts[i].lost⟩) (wr.setCell ⟨gb, p, none⟩ (.int .u8 (y.toNat : Int))) := by
  obtain ⟨tvs, L, h1, h2⟩ := h.ex
  have hl := h2.len
  have hi' : i < tvs.length := by rw [hl]; exact hi
  obtain ⟨g', gb, Cb, c, c', hA, hn, -, hcell, hgb, hcp, hB, hN, hall⟩ := h2.turned hi' hi hs hp
  obtain ⟨A, C, hv, -, -, -, hr⟩ := h1.rd
  have e : (some ⟨g, 0, none⟩ : Option Addr) = A := by injection hv
  rw [← e] at hr
  obtain ⟨b, off, e2, -, hc⟩ := hr.at_ hi'
  cases e2
  have hc2 := hc 2 _ rfl
  rw [hA, hn, Nat.zero_add] at hc2
  refine ⟨g', tvs[i].C, gb, Cb, c, hc2, hcell, hgb, hcp, fun y => ?_⟩
  have hk := Kp.store wr gb p (.int .u8 (y.toNat : Int))
  refine ⟨⟨tvs, L, ?_, hall y⟩, h.sx.kp hk (fun b hb e => by have e' : b = gb := e; omega), h.gne, h.bel.trans (hk.below h.bel.size fun k e => by have e' : k = gb := e; omega), h.lo⟩
  rw [List.length_set]
  refine h1.of_block fun k e => hk.block k (h1.lt k e).2 fun e' => ?_
  obtain ⟨c2, hc2'⟩ := h1.block k e
  have e'' : k = gb := e'
  rw [e'', hgb] at hc2'
  injection hc2' with hc2'
  injection hc2' with _ e3
  exact absurd e3 (by decide)
end LdK
end Go.Proofs.Ytmfikihcoafekaa
namespace Go.Proofs.Ytmfikihcoafekaa
open Go.RowKit Mx
open Pt (Tx)

namespace Kn
theorem modK {N : Nat} (h0 : 0 < N) (q : Nat) : ∃ p : Nat, p < N ∧ ((q : Int)).tmod (N : Int) = (p : Int) :=
  ⟨q % N, Nat.mod_lt _ h0, by rw [Int.tmod_eq_emod_of_nonneg (by omega)]; exact (Int.natCast_emod q N).symm⟩
theorem byte_turns (c : UInt8) : byF (feB c + feB 16) ≠ c := fun e => by
  have h1 := byF_nat (feB c + feB 16)
  rw [e] at h1
  have h2 : feB c + feB 16 = feB c := Fe.ext (by rw [← h1]; exact (nat_mk _ _).symm)
  have h3 : feB 16 = 0 := by
    have := congrArg (fun x => feB c + x) h2
    simpa [← Mx.add_assoc, Mx.add_self, Mx.zero_add] using this
  exact absurd (congrArg Fe.nat h3) (by decide)
/-- the last block of a tape that is sealed -/
theorem last {t : St.T} (h : (Gr.sealed t).isSome = true) : ∃ hn : t.blocks.length - 1 < t.blocks.length, Fm.Good t.blocks[t.blocks.length - 1] ∧ t.blocks[t.blocks.length - 1].length = 79 := by
  obtain ⟨lab, cap, bs, lost⟩ := t
  cases lost with
  | true => rw [Gr.sealed_lost (t := ⟨lab, cap, bs, true⟩) rfl] at h; cases h
  | false =>
    by_cases hn : bs.length - 1 < bs.length
    · have e : Vo.good (Gr.vo ⟨lab, cap, bs, false⟩) (bs.length - 1) = if Fm.Good bs[bs.length - 1] ∧ (Fm.parse bs[bs.length - 1]).label = lab ∧ (Fm.parse bs[bs.length - 1]).number = ((bs.length - 1 : Nat) : Int) then some (Fm.parse bs[bs.length - 1]) else none := good_is hn
      by_cases hg : Fm.Good bs[bs.length - 1] ∧ (Fm.parse bs[bs.length - 1]).label = lab ∧ (Fm.parse bs[bs.length - 1]).number = ((bs.length - 1 : Nat) : Int)
      · rw [if_pos hg] at e
        refine ⟨hn, hg.1, ?_⟩
        by_cases hk : (Fm.parse bs[bs.length - 1]).kind = 5
        · have h1 := Fm.good_len hg.1
          rw [hk] at h1
          exact h1
        · rw [Gr.sealed_kind (t := ⟨lab, cap, bs, false⟩) e hk] at h; cases h
      · rw [if_neg hg] at e
        rw [Gr.sealed_bad (t := ⟨lab, cap, bs, false⟩) e] at h; cases h
    · have e : Vo.good (Gr.vo ⟨lab, cap, bs, false⟩) (bs.length - 1) = none := Vo.good_end (t := Gr.vo ⟨lab, cap, bs, false⟩) (by show bs.length ≤ bs.length - 1; omega)
      rw [Gr.sealed_bad (t := ⟨lab, cap, bs, false⟩) e] at h; cases h
/-- a byte of it is turned: it is sealed no more -/
theorem turned {lab cap : Int} {bs : List Tx} {lost : Bool} {n p : Nat} {s : Tx} (hl : n + 1 = bs.length) (hg : Fm.Good s) (hp : p < s.length) {x : UInt8} (hx : x ≠ s[p]) : Gr.sealed ⟨lab, cap, bs.set n (s.set p x), lost⟩ = none := by
  refine Gr.sealed_bad ?_
  show Vo.good (Gr.vo ⟨lab, cap, bs.set n (s.set p x), lost⟩) ((bs.set n (s.set p x)).length - 1) = none
  rw [List.length_set, show bs.length - 1 = n by omega]
  have hb : (bs.set n (s.set p x))[n]? = some (s.set p x) := by rw [List.getElem?_set_self (by omega)]
  exact Vo.good_none (t := Gr.vo ⟨lab, cap, bs.set n (s.set p x), lost⟩) hb (Fm.turn_no hg hp hx)
/-- the tapes of the law -/
def bl (p : Nat) : List St.T := (List.range p).map fun (j : Nat) => ⟨2 + (j : Int), 5, [], false⟩
theorem bl_len (p : Nat) : (bl p).length = p := by simp [bl]
theorem bl_succ (p : Nat) : bl (p + 1) = bl p ++ [⟨2 + (p : Int), 5, [], false⟩] := by simp [bl, List.range_succ]
def D : List St.T := [Ex.d 1 5]
theorem bl_blank (p : Nat) : Ex.Blank (bl p) := fun t ht => by
  obtain ⟨j, -, rfl⟩ := List.mem_map.1 ht
  exact ⟨rfl, rfl, by show (3 : Int) ≤ 5; decide⟩
theorem labs {p : Nat} (h : p ≤ 6) : Rc.Labs (1 :: (bl p).map St.T.label) := by
  have h' : p = 0 ∨ p = 1 ∨ p = 2 ∨ p = 3 ∨ p = 4 ∨ p = 5 ∨ p = 6 := by omega
  rcases h' with rfl | rfl | rfl | rfl | rfl | rfl | rfl <;> decide
theorem mk {p : Nat} (h1 : 1 ≤ p) (h : p ≤ 6) : Gr.mkE D (bl p) 4 = 0 := Ex.mk_zero ⟨by decide, by decide⟩ (by rw [bl_len]; omega) (by rw [bl_len]; omega) (bl_blank p) (labs h)
theorem sealK {p : Nat} (h1 : 1 ≤ p) (h : p ≤ 6) : Rc.SOk (Gr.sealOf D (bl p) 4 0) := Gr.chk_seal (Ex.chk_zero ⟨by decide, by decide⟩ (by rw [bl_len]; omega) (by rw [bl_len]; omega) (bl_blank p) (labs h))
def T (p : Nat) : List St.T := Gr.made D (bl p) 4
theorem T_len (p : Nat) : (T p).length = p := by unfold T; rw [Gr.made_len, bl_len]
theorem T_at {p k : Nat} (hk : k < (T p).length) : (T p)[k] = Gr.madeT D (bl p) 4 k ((bl p)[k]'(by rw [bl_len]; rwa [T_len] at hk)) := Gr.made_at (by rw [bl_len]; rwa [T_len] at hk) hk
theorem T_three {p k : Nat} (hk : k < (T p).length) : (T p)[k].blocks.length = 3 := by rw [T_at hk, Gr.madeT_len]; rfl
theorem T_sealed {p k : Nat} (h1 : 1 ≤ p) (h : p ≤ 6) (hk : k < (T p).length) : (Gr.sealed (T p)[k]).isSome = true := by
  rw [T_at hk, Gr.made_sealed (sealK h1 h) (by decide) (by rw [bl_len]; rwa [T_len] at hk)]; rfl
theorem T_cand {p k : Nat} (h1 : 1 ≤ p) (h : p ≤ 6) (hk : k < (T p).length) : Gr.cand (T p)[k] = some (Gr.sealOf D (bl p) 4 (D.length + k)) := by
  rw [T_at hk, Gr.made_cand (sealK h1 h) (by decide) (by rw [bl_len]; rwa [T_len] at hk)]
def Short (t : St.T) : Prop := t.blocks.length ≤ 1000000 ∧ ∀ s ∈ t.blocks, s.length ≤ 1000000
theorem T_short (p : Nat) : ∀ t ∈ T p, Short t := made_sizes (by decide)
/-- what is known of the tapes: h tells which are hurt -/
structure I (p : Nat) (l : List St.T) (h : Nat → Bool) : Prop where
  len : l.length = p
  same : ∀ k (hk : k < l.length) (hk' : k < (T p).length), h k = false → l[k] = (T p)[k]
  hurt : ∀ k (hk : k < l.length), h k = true → Gr.cand l[k] = none
  three : ∀ k (hk : k < l.length), l[k].blocks.length = 3 ∧ ∃ s, l[k].blocks[2]? = some s ∧ s.length = 79
  short : ∀ t ∈ l, Short t
namespace I
variable {p : Nat} {l : List St.T} {h : Nat → Bool}
theorem start (h1 : 1 ≤ p) (h6 : p ≤ 6) : I p (T p) (fun _ => false) := by
  refine ⟨T_len p, fun _ _ _ _ => rfl, fun _ _ e => (by cases e), fun k hk => ?_, T_short p⟩
  obtain ⟨hn, hg, hl⟩ := last (T_sealed h1 h6 hk)
  have h3 := T_three hk
  refine ⟨h3, _, List.getElem?_eq_getElem (by omega), ?_⟩
  have e : (T p)[k].blocks.length - 1 = 2 := by omega
  simp only [e] at hl
  exact hl
theorem set (hi : I p l h) {k : Nat} (hk : k < l.length) {t : St.T} (h1 : Gr.cand t = none) (h3 : t.blocks.length = 3 ∧ ∃ s, t.blocks[2]? = some s ∧ s.length = 79) (hs : Short t) : I p (l.set k t) (fun j => if j = k then true else h j) := by
  refine ⟨by rw [List.length_set]; exact hi.len, fun j hj hj' e => ?_, fun j hj e => ?_, fun j hj => ?_, fun x hx => ?_⟩
  · rw [List.length_set] at hj
    by_cases e' : j = k
    · rw [if_pos e'] at e; cases e
    · rw [if_neg e'] at e
      rw [List.getElem_set_ne (fun e => e' e.symm)]
      exact hi.same j hj hj' e
  · rw [List.length_set] at hj
    by_cases e' : j = k
    · subst e'; rw [List.getElem_set_self]; exact h1
    · rw [if_neg e'] at e
      rw [List.getElem_set_ne (fun e => e' e.symm)]
      exact hi.hurt j hj e
  · rw [List.length_set] at hj
    by_cases e' : j = k
    · subst e'; rw [List.getElem_set_self]; exact h3
    · rw [List.getElem_set_ne (fun e => e' e.symm)]
      exact hi.three j hj
  · rcases List.mem_or_eq_of_mem_set hx with hx | rfl
    · exact hi.short x hx
    · exact hs
theorem lost (hi : I p l h) {k : Nat} (hk : k < l.length) : I p (l.set k ⟨l[k].label, l[k].cap, l[k].blocks, true⟩) (fun j => if j = k then true else h j) :=
  hi.set hk (Gr.cand_none (Gr.sealed_lost rfl)) (hi.three k hk) ⟨(hi.short _ (List.getElem_mem hk)).1, (hi.short _ (List.getElem_mem hk)).2⟩
theorem turn (hi : I p l h) (h1 : 1 ≤ p) (h6 : p ≤ 6) {k : Nat} (hk : k < l.length) (hf : h k = false) {s : Tx} (hs : l[k].blocks[2]? = some s) (hp : 20 < s.length) {x : UInt8} (hx : x ≠ s[20]) : I p (l.set k ⟨l[k].label, l[k].cap, l[k].blocks.set 2 (s.set 20 x), l[k].lost⟩) (fun j => if j = k then true else h j) := by
  have hkT : k < (T p).length := by rw [T_len, ← hi.len]; exact hk
  have e := hi.same k hk hkT hf
  obtain ⟨h3, s', hs', hl'⟩ := hi.three k hk
  rw [hs] at hs'
  cases hs'
  have hsh := hi.short _ (List.getElem_mem hk)
  refine hi.set hk ?_ ?_ ?_
  · refine Gr.cand_none (turned (by omega) ?_ hp hx)
    obtain ⟨hn, hg, -⟩ := last (T_sealed h1 h6 hkT)
    rw [e] at hs h3
    obtain ⟨h2, hs2⟩ := List.getElem?_eq_some_iff.1 hs
    have e2 : (T p)[k].blocks.length - 1 = 2 := by omega
    simp only [e2] at hg
    rw [hs2] at hg
    exact hg
  · refine ⟨by show (l[k].blocks.set 2 _).length = 3; rw [List.length_set]; exact h3, s.set 20 x, ?_, by rw [List.length_set]; exact hl'⟩
    show (l[k].blocks.set 2 _)[2]? = _
    rw [List.getElem?_set_self (by omega)]
  · refine ⟨by show (l[k].blocks.set 2 _).length ≤ _; rw [List.length_set]; exact hsh.1, fun y hy => ?_⟩
    have hy' : y ∈ l[k].blocks.set 2 (s.set 20 x) := hy
    rcases List.mem_or_eq_of_mem_set hy' with hy | rfl
    · exact hsh.2 y hy
    · rw [List.length_set, hl']; omega
/-- one of them is not hurt -/
def any (h : Nat → Bool) (i : Nat) : Bool := (List.range i).any fun k => !h k
theorem any_zero : any h 0 = false := rfl
theorem any_succ (i : Nat) : any h (i + 1) = (any h i || !h i) := by unfold any; rw [List.range_succ, List.any_append]; simp
theorem num (hi : I p l h) (h1 : 1 ≤ p) (h6 : p ≤ 6) : ∀ s ∈ Gr.cands l, s.number = 4 := by
  intro s hs
  obtain ⟨t, ht, hc⟩ := List.mem_filterMap.1 hs
  obtain ⟨k, hk, rfl⟩ := List.mem_iff_getElem.1 ht
  have hkT : k < (T p).length := by rw [T_len, ← hi.len]; exact hk
  cases hf : h k with
  | true => rw [hi.hurt k hk hf] at hc; cases hc
  | false =>
    rw [hi.same k hk hkT hf, T_cand h1 h6 hkT] at hc
    rw [← Option.some.inj hc]; rfl
theorem found (hi : I p l h) (h1 : 1 ≤ p) (h6 : p ≤ 6) : (Gr.find l).length = (if any h p = true then 1 else 0) ∧ ∀ s ∈ Gr.find l, s.number = 4 := by
  have e : Gr.find l = (Gr.cands l).take 1 := Gr.all_one (hi.num h1 h6)
  refine ⟨?_, fun s hs => ?_⟩
  · rw [e, List.length_take]
    cases ha : any h p with
    | true =>
      rw [if_pos rfl]
      obtain ⟨k, hk, hf⟩ := List.any_eq_true.1 ha
      have hk := List.mem_range.1 hk
      have hkl : k < l.length := by rw [hi.len]; exact hk
      have hkT : k < (T p).length := by rw [T_len]; exact hk
      have hf' : h k = false := by simpa using hf
      have hm : Gr.sealOf D (bl p) 4 (D.length + k) ∈ Gr.cands l := List.mem_filterMap.2 ⟨l[k], List.getElem_mem hkl, by rw [hi.same k hkl hkT hf', T_cand h1 h6 hkT]⟩
      have := List.length_pos_of_mem hm
      omega
    | false =>
      rw [if_neg (by simp)]
      have hz : Gr.cands l = [] := by
        unfold Gr.cands
        rw [List.filterMap_eq_nil_iff]
        intro t ht
        obtain ⟨k, hk, rfl⟩ := List.mem_iff_getElem.1 ht
        refine hi.hurt k hk ?_
        have := List.any_eq_false.1 ha k (List.mem_range.2 (by rw [← hi.len]; exact hk))
        simpa using this
      rw [hz]; rfl
  · rw [e] at hs
    exact hi.num h1 h6 s (List.mem_of_mem_take hs)
end I
end Kn
/-- a made row of truth values -/
theorem setBK {w : World} {g n k : Nat} {f : Nat → Bool} (h : RowV w 4 g n (fun j => .bool (f j))) : RowV (w.setCell ⟨g, k, none⟩ (.bool true)) 4 g n (fun j => .bool (if j = k then true else f j)) :=
  (h.set k (.bool true)).congr fun x _ => by
    by_cases e : x = k
    · simp [e]
    · simp [e]
namespace LdK
variable {w1 wr w2 : World} {g cap M M2 : Nat} {x : Sx} {ts : List St.T}
/-- something of another kind elsewhere is stored into -/
theorem besideT (h : LdK w1 g cap M M2 x ts wr) {q : Nat} {ty : TypeId} (hk : Kp (· = q) wr w2) (hq : w1.heap.size ≤ q) (hqM : q < M ∨ M2 ≤ q) (ht : ∃ c, wr.heap[q]? = some (.cells c ty (0, 0))) (n1 : ty ≠ 32) (n2 : ty ≠ 24) (n3 : ty ≠ 5) : LdK w1 g cap M M2 x ts w2 := by
  obtain ⟨tvs, L, h1, h2⟩ := h.ex
  obtain ⟨c, hc⟩ := ht
  have hno : ∀ k c' t, k = q → wr.heap[k]? = some (Obj.cells c' t (0, 0)) → ty = t := fun k c' t e h' => by
    rw [e, hc] at h'
    injection h' with h'
    injection h' with _ e2
  refine ⟨⟨tvs, L, h1.of_block fun k e => hk.block k (h1.lt k e).2 fun e' => ?_, h2.kp hk (fun k c' e _ h' => absurd (hno k c' _ e h') n2) (fun k c' e _ h' => absurd (hno k c' _ e h') n3)⟩, h.sx.kp hk (fun b hb e => by have e' : b = q := e; omega), h.gne, h.bel.trans (hk.below h.bel.size fun k e => by have e' : k = q := e; omega), h.lo⟩
  obtain ⟨c2, hc2⟩ := h1.block k e
  exact absurd (hno k c2 _ e' hc2) n1
/-- from a made row -/
theorem of_own {w w' : World} {g n : Nat} {tvs : List Tv} {ts : List St.T} {L : Nat → Nat} (ho : encT.Own w' w.heap.size 32 (.slice (some ⟨g, 0, none⟩) n n) tvs) (hr : RowsT w' w.heap.size w'.heap.size tvs ts L) (hn : n = ts.length) (hb : Below w.heap.size w w') :
    LdK w g n w'.heap.size w'.heap.size ⟨⟨0, 0, 0, 0, []⟩, none, 0⟩ ts w' := by
  subst hn
  have hlt := (ho.lt g rfl)
  exact ⟨⟨tvs, L, ho, hr⟩, ⟨Nat.le_refl _, by decide, fun _ => ⟨rfl, rfl⟩, fun h => absurd h (by simp)⟩, .inl hlt.2, hb, hlt.1⟩
end LdK
end Go.Proofs.Ytmfikihcoafekaa
