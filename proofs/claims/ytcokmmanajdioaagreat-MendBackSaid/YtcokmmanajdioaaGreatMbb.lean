/- What the group of the laws of chapter 15 holds: how long its rows are, and that each tape of parity is sealed. No function of the program. Two rows of tapes joined by append. No function of the program. A byte of one of a tape's own rows is turned. No function of the program. The tapes of the laws of chapter 15 once they are laid: what is kept while some are lost, and bytes of some are turned. No function of the program. A region that draws its order, loads a cell, and stores into that cell at its end: what holds of the world is asked behind every operation but that store. No function of the program. -/
import Derived.Test.YtcokmmanajdioaaGreatMba
import Derived.Deep.AppendLies
import Derived.Test.YtcokmmanajdioaaGreatMaf
import Derived.Test.YtcokmmanajdioaaGreatMau
import Derived.Test.YtcokmmanajdioaaGreatMac
import Derived.Test.YtcokmmanajdioaaGreatChecked
import Derived.Deep.RegionHeld
import Derived.StillTail
import Derived.Says
namespace Go.Proofs.YtcokmmanajdioaaGreat
open Go.RowKit
open Pt (Tx)

theorem Ld.blk_short (u : Fm.U) (h : u.load.length ≤ 79) : (Fm.blk u).length ≤ 200 := by
  have h1 := Fm.room_le u.kind
  unfold Fm.blk Fm.body Fm.pad
  rw [List.length_append, List.length_append, List.length_append, Fm.head_len, List.length_replicate, Cd.be4_len]
  omega
theorem Ld.made_short {data blank : List St.T} {number : Int} (h : St.len data ≤ 1000) : ∀ t ∈ Gr.made data blank number, t.blocks.length ≤ 1000000 ∧ ∀ s ∈ t.blocks, s.length ≤ 200 := by
  intro t ht
  obtain ⟨i, hi, rfl⟩ := List.mem_iff_getElem.1 ht
  have hi' : i < blank.length := by rwa [Gr.made_len] at hi
  rw [Gr.made_at hi']
  refine ⟨by rw [Gr.madeT_len]; omega, fun s hs => ?_⟩
  have hs' : s ∈ framedL blank[i].label (says (Gr.rowsOf data blank.length i) (Gr.sealOf data blank number (data.length + i))) := hs
  obtain ⟨k, hk, rfl⟩ := List.mem_iff_getElem.1 hs'
  rw [framedL_at (by rwa [framedL_len] at hk)]
  refine Ld.blk_short _ ?_
  show ((says (Gr.rowsOf data blank.length i) (Gr.sealOf data blank number (data.length + i)))[k]'(by rwa [framedL_len] at hk)).2.length ≤ 79
  have hm := List.getElem_mem (by rwa [framedL_len] at hk : k < (says (Gr.rowsOf data blank.length i) (Gr.sealOf data blank number (data.length + i))).length)
  generalize (says (Gr.rowsOf data blank.length i) (Gr.sealOf data blank number (data.length + i)))[k]'(by rwa [framedL_len] at hk) = u at hm ⊢
  unfold says at hm
  rcases List.mem_append.1 hm with hm | hm
  · rcases List.mem_cons.1 hm with rfl | hm
    · show 1 ≤ 79; omega
    · obtain ⟨r, hr, rfl⟩ := List.mem_map.1 hm
      show r.length ≤ 79
      rw [Gr.rowsOf_79 hr]; exact Nat.le_refl _
  · rw [List.mem_singleton.1 hm]
    have := Rc.sput_le (Gr.sealOf data blank number (data.length + i))
    show (Rc.sput _).length ≤ 79
    omega
theorem Ld.chk {z : Nat → Int} {d p : Nat} (hd1 : 1 ≤ d) (hd : d ≤ 6) (hp1 : 1 ≤ p) (hp : p ≤ 4) : Gr.chk (Ld.data z d) (Ld.bl p) 3 = 0 :=
  Me.chk_fine ⟨by decide, by decide⟩ (by rw [Ld.data_len]; exact hd1) (by rw [Ld.bl_len]; exact hp1) (by rw [Ld.data_len, Ld.bl_len]; omega) (Ld.data_fine hd) (Ld.len_pos hd1) (fun t ht => by
    obtain ⟨i, _, rfl⟩ := List.mem_map.1 ht
    have := Ld.len_le (z := z) (d := d)
    exact ⟨rfl, rfl, by show (_ : Int) + 2 ≤ 20; omega⟩) (Ld.labs hd hp)
theorem Ld.sealOk {z : Nat → Int} {d p : Nat} (hd1 : 1 ≤ d) (hd : d ≤ 6) (hp1 : 1 ≤ p) (hp : p ≤ 4) : Rc.SOk (Gr.sealOf (Ld.data z d) (Ld.bl p) 3 0) := Gr.chk_seal (Ld.chk hd1 hd hp1 hp)
theorem Ld.sealed_made {z : Nat → Int} {d p : Nat} (hd1 : 1 ≤ d) (hd : d ≤ 6) (hp1 : 1 ≤ p) (hp : p ≤ 4) {i : Nat} (hi : i < (Gr.made (Ld.data z d) (Ld.bl p) 3).length) :
    Gr.sealed ((Gr.made (Ld.data z d) (Ld.bl p) 3)[i]) = some (Gr.sealOf (Ld.data z d) (Ld.bl p) 3 (d + i)) := by
  have hi' : i < (Ld.bl p).length := by rwa [Gr.made_len] at hi
  rw [Gr.made_at hi', Gr.made_sealed (Ld.sealOk hd1 hd hp1 hp) (Nat.le_trans Ld.len_le (by omega)) hi', Ld.data_len]
end Go.Proofs.YtcokmmanajdioaaGreat
namespace Go.Proofs.YtcokmmanajdioaaGreat
open Go.RowKit
open Pt (Tx)

theorem Enc.Own.news {α : Type} {E : Enc α} {w : World} {base : Nat} {t : TypeId} {v : Value} {l : List α} (h : E.Own w base t v l) (h0 : 0 < l.length) :
    ∃ g C, v = .slice (some ⟨g, 0, none⟩) l.length C ∧ base ≤ g ∧ ∀ j u, (E.cells l)[j]? = some u → w.cell? ((⟨g, 0, none⟩ : Addr).add j) = some u := by
  rcases h.2 with ⟨rfl, h1⟩ | ⟨g, cap, cur, rfl, hb, hg, hnc, hcm, hs, ht⟩
  · omega
  · refine ⟨g, cap, rfl, hb, fun j u hu => ?_⟩
    have hlt : j < l.length * E.k := by
      have h2 := (List.getElem?_eq_some_iff.1 hu).1
      rw [E.cells_len] at h2
      exact h2
    rw [← ht, List.getElem?_take, if_pos hlt, Array.getElem?_toList] at hu
    rw [addr_add, heap_cell hg, Nat.zero_add, hu]
theorem RowsT.app {w : World} {B N M : Nat} {tvs l : List Tv} {ts ts2 : List St.T} {L L2 : Nat → Nat} (h : RowsT w B N tvs ts L) (h2 : RowsT w N M l ts2 L2) :
    RowsT w B M (tvs ++ l) (ts ++ ts2) (fun i => if i < ts.length then L i else L2 (i - ts.length)) := by
  have hl := h.len
  have hl2 := h2.len
  have hBN : B ≤ N := Nat.le_trans (Nat.le_trans h.lo (h.le ts.length 0 (by omega) (Nat.le_refl _))) h.hi
  refine ⟨by simp [hl, hl2], ?_, fun i hi => ?_, ?_, fun i hi hi' => ?_⟩
  · split
    · exact h.lo
    · rename_i h0
      rw [Nat.zero_sub]
      exact Nat.le_trans hBN h2.lo
  · rw [List.length_append] at hi
    by_cases h0 : i < ts.length
    · rw [if_pos h0]
      by_cases h1 : i + 1 < ts.length
      · rw [if_pos h1]; exact h.mono i h0
      · rw [if_neg h1, show i + 1 - ts.length = 0 by omega]
        exact Nat.le_trans (Nat.le_trans (h.le ts.length i (by omega) (Nat.le_refl _)) h.hi) h2.lo
    · rw [if_neg h0, if_neg (by omega), show i + 1 - ts.length = (i - ts.length) + 1 by omega]
      exact h2.mono _ (by omega)
  · rw [List.length_append, if_neg (by omega), Nat.add_sub_cancel_left]; exact h2.hi
  · rw [List.length_append] at hi hi'
    by_cases h0 : i < ts.length
    · rw [if_pos h0, List.getElem_append_left h0, List.getElem_append_left (by omega)]
      by_cases h1 : i + 1 < ts.length
      · rw [if_pos h1]; exact h.one i (by omega) h0
      · rw [if_neg h1, show i + 1 - ts.length = 0 by omega]
        have e : i + 1 = ts.length := by omega
        have h3 := h.hi
        rw [← e] at h3
        exact (h.one i (by omega) h0).up (Nat.le_trans h3 h2.lo)
    · rw [if_neg h0, if_neg (by omega), List.getElem_append_right (by omega), List.getElem_append_right (by omega), show i + 1 - ts.length = (i - ts.length) + 1 by omega]
      have h9 := h2.one (i - ts.length) (by omega) (by omega)
      simp only [hl]
      exact h9
namespace LdR
variable {w wr y : World} {v : Value} {ts : List St.T}
/-- a row of tapes behind the other -/
theorem app (h : LdR w v ts wr) (l : List Tv) (ts2 : List St.T) {L2 : Nat → Nat} {M : Nat} (hr2 : RowsT y wr.heap.size M l ts2 L2) (hM : M ≤ y.heap.size) (h0 : 0 < l.length)
    (hb : Below wr.heap.size wr y) (ad : Addr) (n c N : Nat) (hn : n = l.length) (hnews : ∀ j u, (encT.cells l)[j]? = some u → y.cell? (ad.add j) = some u) (hmax : ts.length + l.length ≤ 1000000) (hN : N = ts.length + l.length) :
    ∃ g cap z, (∀ ty, (Builtin.append_ #[24, 24] ty #[v, .slice (some ad) n c]).run Tryz.prog y = .ok (.slice (some ⟨g, 0, none⟩) N cap) z) ∧ LdR w (.slice (some ⟨g, 0, none⟩) N cap) (ts ++ ts2) z ∧ Below w.heap.size w z ∧ y.grownBy z v.ownBlock := by
  subst hN hn
  obtain ⟨tvs, L, h1, h2⟩ := h.ex
  have hlen := h2.len
  obtain ⟨i0, hi, hz0, hz1, hz2⟩ := info_parts infoTape
  have hown : y.ownsRow w.heap.size 31 4 v tvs.length (encT.cells tvs) := h1.old hb
  have hw : w.heap.size ≤ y.heap.size := Nat.le_trans h.bel.size hb.size
  obtain ⟨g, cap, z, hr, ho, hg, hat, hlt⟩ := run_append_lies (P := Tryz.prog) (w := y) 24 3 w.heap.size 31 i0 (.agg #[.int .i64 0, .int .i64 0, .slice none 0 0, .bool false]) 4 48 Tryz.underlying24 hi hz0 hz1 hz2 rfl (by decide) v tvs.length (encT.cells tvs) hown ad l.length c (encT.cells l) (Enc.cells_len encT l) hnews (Enc.cells_all encT l) h0 (by rw [hlen]; unfold maxLen; omega) (by rw [hlen]; omega) hw y.heap.size rfl
  rw [hlen] at hr ho
  have hvb : ∀ k, v.ownBlock = some k → ∃ c, y.heap[k]? = some (.cells c 31 (0, 0)) := fun k e => by
    obtain ⟨c, hc⟩ := h1.block k e
    exact ⟨c, (hb.block k (heap_lt hc)).trans hc⟩
  have hk2 : Kp (fun k => v.ownBlock = some k) y z := ⟨hg.os, hg.tape, hg.output, hg.size, fun k hk hs => hg.block k hk fun e => hs e.symm⟩
  have hne1 : ∀ k c, v.ownBlock = some k → y.heap[k]? ≠ some (.cells c 34 (0, 0)) := fun k c e hc => by
    obtain ⟨c', hc'⟩ := hvb k e
    rw [hc'] at hc; injection hc with hc; injection hc with _ e2; exact absurd e2 (by decide)
  have hne2 : ∀ k c, v.ownBlock = some k → y.heap[k]? ≠ some (.cells c 5 (0, 0)) := fun k c e hc => by
    obtain ⟨c', hc'⟩ := hvb k e
    rw [hc'] at hc; injection hc with hc; injection hc with _ e2; exact absurd e2 (by decide)
  have hrow := ((h2.kp (S := fun _ => False) (Kp.of_below hb) (fun _ _ hs => hs.elim) (fun _ _ hs => hs.elim)).app hr2).kp hk2 (fun k c e _ => hne1 k c e) (fun k c e _ => hne2 k c e)
  have hbel : Below w.heap.size w z := (h.bel.trans (hb.mono h.bel.size)).grown hg hw fun k e => (h1.lt k e).1
  refine ⟨g, cap, z, fun ty => hr, ⟨⟨tvs ++ l, _, ?_, hrow.up (Nat.le_trans hM hg.size)⟩, hbel⟩, hbel, hg⟩
  unfold Enc.Own
  rw [Enc.cells_append, List.length_append, hlen]
  exact ho
end LdR
end Go.Proofs.YtcokmmanajdioaaGreat
namespace Go.Proofs.YtcokmmanajdioaaGreat
open Go.RowKit
open Pt (Tx)

/-- a byte of an own row is turned -/
theorem OwnL.set {w : World} {B g L C k : Nat} {s : Tx} (h : OwnL w B (.slice (some ⟨g, 0, none⟩) L C) s) (hk : k < s.length) (x : UInt8) : OwnL (w.setCell ⟨g, k, none⟩ (.int .u8 (x.toNat : Int))) B (.slice (some ⟨g, 0, none⟩) L C) (s.set k x) := by
  refine ⟨by simp [cellsL_len], ?_⟩
  rcases h.2 with ⟨e, _⟩ | ⟨g', cap, cur, e, hb, hg, hnc, hcm, hs, ht⟩
  · cases e
  · cases e
    refine .inr ⟨g, C, cur.setIfInBounds k (.int .u8 (x.toNat : Int)), by simp, hb, heap_set hg _, by simpa using hnc, hcm, by simpa using hs, ?_⟩
    rw [Nat.mul_one] at ht ⊢
    rw [List.length_set]
    apply List.ext_getElem?
    intro j
    have hj := congrArg (·[j]?) ht
    simp only [List.getElem?_take, Array.getElem?_toList] at hj
    simp only [List.getElem?_take, Array.getElem?_toList, Array.getElem?_setIfInBounds]
    by_cases hjl : j < s.length
    · rw [if_pos hjl] at hj ⊢
      rw [cellsL_get (by simpa using hjl)]
      rw [cellsL_get hjl] at hj
      by_cases e : k = j
      · subst e
        rw [if_pos rfl, if_pos (by omega)]
        simp
      · rw [if_neg e, hj]
        simp [List.getElem_set_ne e]
    · rw [if_neg hjl, List.getElem?_eq_none (by rw [cellsL_len, List.length_set]; omega)]
/-- a byte of a row is turned -/
theorem TopB.turned {w : World} {B : Nat} {G : Nat → Prop} {v : Value} {us : List Value} {bs : List Tx} (h : TopB w B G v us bs) {n : Nat} (hn : n < us.length) (hn' : n < bs.length) {g L C k : Nat} (hu : us[n] = .slice (some ⟨g, 0, none⟩) L C) {s : Tx} (hs : bs[n] = s) (hk : k < s.length) (x : UInt8) :
    TopB (w.setCell ⟨g, k, none⟩ (.int .u8 (x.toNat : Int))) B G v us (bs.set n (s.set k x)) := by
  subst hs
  have hK := Kp.store w g k (.int .u8 (x.toNat : Int))
  have hr := h.rows n hn hn'
  have hown : us[n].ownBlock = some g := by rw [hu]; rfl
  refine ⟨own_of h.top fun q e => hK.block q (h.top.lt q e).2 fun hq => ?_, by rw [List.length_set, h.len], fun i hi hi' => ?_, h.gs, h.inj⟩
  · obtain ⟨c, hc⟩ := own_blk h.top q e
    obtain ⟨c', hc'⟩ := hr.block g hown
    rw [hq, hc'] at hc
    injection hc with hc
    injection hc with _ e2
    exact absurd e2 (by decide)
  · by_cases e : n = i
    · subst e
      rw [List.getElem_set_self, hu]
      rw [hu] at hr
      exact hr.set hk x
    · rw [List.getElem_set_ne e]
      rw [List.length_set] at hi'
      exact (h.rows i hi hi').kp hK fun q hq hq' => e (h.inj n i hn hi g hown (by rw [← hq']; exact hq))
end Go.Proofs.YtcokmmanajdioaaGreat
namespace Go.Proofs.YtcokmmanajdioaaGreat
open Go.RowKit
open Pt (Tx)

namespace LdR
variable {w wr y : World} {v : Value} {ts : List St.T}
/-- a row of tapes behind the other, and where it lies -/
theorem app2 (h : LdR w v ts wr) (l : List Tv) (ts2 : List St.T) {L2 : Nat → Nat} {M : Nat} (hr2 : RowsT y wr.heap.size M l ts2 L2) (h0 : 0 < l.length)
    (hb : Below wr.heap.size wr y) (ad : Addr) (n c N : Nat) (hn : n = l.length) (hnews : ∀ j u, (encT.cells l)[j]? = some u → y.cell? (ad.add j) = some u) (hmax : ts.length + l.length ≤ 1000000) (hN : N = ts.length + l.length) :
    ∃ g cap z, (∀ ty, (Builtin.append_ #[24, 24] ty #[v, .slice (some ad) n c]).run Tryz.prog y = .ok (.slice (some ⟨g, 0, none⟩) N cap) z) ∧ (∃ tvs L, encT.Own z w.heap.size 31 (.slice (some ⟨g, 0, none⟩) N cap) tvs ∧ RowsT z w.heap.size M tvs (ts ++ ts2) L) ∧ Below w.heap.size w z ∧ y.grownBy z v.ownBlock ∧ (v.ownBlock = some g ∨ g = y.heap.size) := by
  subst hN hn
  obtain ⟨tvs, L, h1, h2⟩ := h.ex
  have hlen := h2.len
  obtain ⟨i0, hi, hz0, hz1, hz2⟩ := info_parts infoTape
  have hown : y.ownsRow w.heap.size 31 4 v tvs.length (encT.cells tvs) := h1.old hb
  have hw : w.heap.size ≤ y.heap.size := Nat.le_trans h.bel.size hb.size
  obtain ⟨g, cap, z, hr, ho, hg, hat, hlt⟩ := run_append_lies (P := Tryz.prog) (w := y) 24 3 w.heap.size 31 i0 (.agg #[.int .i64 0, .int .i64 0, .slice none 0 0, .bool false]) 4 48 Tryz.underlying24 hi hz0 hz1 hz2 rfl (by decide) v tvs.length (encT.cells tvs) hown ad l.length c (encT.cells l) (Enc.cells_len encT l) hnews (Enc.cells_all encT l) h0 (by rw [hlen]; unfold maxLen; omega) (by rw [hlen]; omega) hw y.heap.size rfl
  rw [hlen] at hr ho
  have hvb : ∀ k, v.ownBlock = some k → ∃ c, y.heap[k]? = some (.cells c 31 (0, 0)) := fun k e => by
    obtain ⟨c, hc⟩ := h1.block k e
    exact ⟨c, (hb.block k (heap_lt hc)).trans hc⟩
  have hk2 : Kp (fun k => v.ownBlock = some k) y z := ⟨hg.os, hg.tape, hg.output, hg.size, fun k hk hs => hg.block k hk fun e => hs e.symm⟩
  have hne1 : ∀ k c, v.ownBlock = some k → y.heap[k]? ≠ some (.cells c 34 (0, 0)) := fun k c e hc => by
    obtain ⟨c', hc'⟩ := hvb k e
    rw [hc'] at hc; injection hc with hc; injection hc with _ e2; exact absurd e2 (by decide)
  have hne2 : ∀ k c, v.ownBlock = some k → y.heap[k]? ≠ some (.cells c 5 (0, 0)) := fun k c e hc => by
    obtain ⟨c', hc'⟩ := hvb k e
    rw [hc'] at hc; injection hc with hc; injection hc with _ e2; exact absurd e2 (by decide)
  have hrow := ((h2.kp (S := fun _ => False) (Kp.of_below hb) (fun _ _ hs => hs.elim) (fun _ _ hs => hs.elim)).app hr2).kp hk2 (fun k c e _ => hne1 k c e) (fun k c e _ => hne2 k c e)
  have hbel : Below w.heap.size w z := (h.bel.trans (hb.mono h.bel.size)).grown hg hw fun k e => (h1.lt k e).1
  refine ⟨g, cap, z, fun ty => hr, ⟨tvs ++ l, _, ?_, hrow⟩, hbel, hg, hat⟩
  unfold Enc.Own
  rw [Enc.cells_append, List.length_append, hlen]
  exact ho
end LdR
theorem Enc.Own.down {α : Type} {E : Enc α} {w : World} {B B' : Nat} {t : TypeId} {v : Value} {l : List α} (h : E.Own w B t v l) (hB : B' ≤ B) : E.Own w B' t v l := by
  refine ⟨h.1, ?_⟩
  rcases h.2 with h0 | ⟨g, c, cur, e, hb, hr⟩
  · exact .inl h0
  · exact .inr ⟨g, c, cur, e, Nat.le_trans hB hb, hr⟩
/-- a tape of a row is lost -/
theorem ownT_lost {w : World} {base g cap : Nat} {tvs : List Tv} (h : encT.Own w base 31 (.slice (some ⟨g, 0, none⟩) tvs.length cap) tvs) {i : Nat} (hi : i < tvs.length) :
    encT.Own (w.setCell ⟨g, i * 4 + 3, none⟩ (.bool true)) base 31 (.slice (some ⟨g, 0, none⟩) tvs.length cap) (tvs.set i ⟨tvs[i].label, tvs[i].cap, tvs[i].A, tvs[i].n, tvs[i].C, true⟩) := by
  unfold Enc.Own at h ⊢
  rw [List.length_set]
  refine ⟨by rw [Enc.cells_len, List.length_set], ?_⟩
  rcases h.2 with ⟨e, _⟩ | ⟨g', cap', cur, e, hb, hg, hnc, hcm, hs, ht⟩
  · cases e
  · injection e with e1 _ e3
    injection e1 with e1
    injection e1 with e1 _ _
    subst e1 e3
    refine .inr ⟨g, cap, cur.setIfInBounds (i * 4 + 3) (.bool true), rfl, hb, heap_set hg _, hnc, hcm, by simpa using hs, ?_⟩
    apply List.ext_getElem?
    intro j
    have hj := congrArg (·[j]?) ht
    simp only [List.getElem?_take, Array.getElem?_toList] at hj
    simp only [List.getElem?_take, Array.getElem?_toList, Array.getElem?_setIfInBounds]
    have hk : encT.k = 4 := rfl
    rw [hk] at hj ⊢
    by_cases hjl : j < tvs.length * 4
    · rw [if_pos hjl] at hj ⊢
      obtain ⟨q, r, hr4, rfl⟩ : ∃ q r, r < 4 ∧ j = q * 4 + r := ⟨j / 4, j % 4, Nat.mod_lt _ (by decide), by omega⟩
      have hq : q < tvs.length := by omega
      have c1 := encT.cells_get tvs q r hr4 hq
      have c2 := encT.cells_get (tvs.set i ⟨tvs[i].label, tvs[i].cap, tvs[i].A, tvs[i].n, tvs[i].C, true⟩) q r hr4 (by rw [List.length_set]; exact hq)
      rw [hk] at c1 c2
      rw [c2]
      rw [c1] at hj
      by_cases e : i = q
      · subst e
        rw [List.getElem_set_self]
        match r, hr4 with
        | 0, _ => rw [if_neg (by omega), hj]; rfl
        | 1, _ => rw [if_neg (by omega), hj]; rfl
        | 2, _ => rw [if_neg (by omega), hj]; rfl
        | 3, _ =>
          have hlt : i * 4 + 3 < cur.size := by
            rw [hs]
            have : tvs.length * 4 ≤ cap * 4 := Nat.mul_le_mul_right _ hnc
            show i * 4 + 3 < cap * 4
            omega
          rw [if_pos rfl, if_pos hlt]; rfl
      · rw [if_neg (by omega), hj, List.getElem_set_ne e]
    · rw [if_neg hjl, List.getElem?_eq_none (by rw [Enc.cells_len, List.length_set, hk]; omega)]
namespace RowsT
variable {w w' : World} {B N : Nat} {tvs : List Tv} {ts : List St.T} {L : Nat → Nat}
theorem lost (h : RowsT w B N tvs ts L) {i : Nat} (hi : i < tvs.length) (hi' : i < ts.length) :
    RowsT w B N (tvs.set i ⟨tvs[i].label, tvs[i].cap, tvs[i].A, tvs[i].n, tvs[i].C, true⟩) (ts.set i ⟨ts[i].label, ts[i].cap, ts[i].blocks, true⟩) L := by
  refine ⟨by simp [h.len], h.lo, fun j hj => h.mono j (by simpa using hj), by rw [List.length_set]; exact h.hi, fun j hj hj' => ?_⟩
  rw [List.length_set] at hj hj'
  by_cases e : i = j
  · subst e
    rw [List.getElem_set_self, List.getElem_set_self]
    have o := h.one i hi hi'
    exact ⟨o.label, o.cap, o.n, rfl, o.rows, o.top⟩
  · rw [List.getElem_set_ne e, List.getElem_set_ne e]
    exact h.one j hj hj'
/-- a byte of a block of one of them is turned -/
theorem turned (h : RowsT w B N tvs ts L) {i n p : Nat} {s : Tx} (hi : i < tvs.length) (hi' : i < ts.length) (hs : ts[i].blocks[n]? = some s) (hp : p < s.length) :
    ∃ g' gb Cb c c', tvs[i].A = some ⟨g', 0, none⟩ ∧ tvs[i].n = ts[i].blocks.length ∧ w.heap[g']? = some (.cells c' 34 (0, 0)) ∧ w.cell? ⟨g', n, none⟩ = some (.slice (some ⟨gb, 0, none⟩) s.length Cb) ∧ w.heap[gb]? = some (.cells c 5 (0, 0)) ∧ w.cell? ⟨gb, p, none⟩ = some (.int .u8 ((s[p].toNat : Nat) : Int)) ∧ B ≤ gb ∧ gb < N ∧
      ∀ x : UInt8, RowsT (w.setCell ⟨gb, p, none⟩ (.int .u8 (x.toNat : Int))) B N tvs (ts.set i ⟨ts[i].label, ts[i].cap, ts[i].blocks.set n (s.set p x), ts[i].lost⟩) L := by
  have o := h.one i hi hi'
  obtain ⟨us, ht⟩ := o.rows
  obtain ⟨hn', hsn⟩ := List.getElem?_eq_some_iff.1 hs
  have hn : n < us.length := by rw [ht.len]; exact hn'
  have hr := ht.rows n hn hn'
  obtain ⟨Ar, Cr, er, h1, h2, h3, h4⟩ := hr.rd
  rw [hsn] at hr er h1 h3 h4
  obtain ⟨gb, cp, cur, e, hB, hg⟩ : ∃ g cap cur, us[n] = .slice (some ⟨g, 0, none⟩) s.length cap ∧ L i ≤ g ∧ w.heap[g]? = some (.cells cur 5 (0, 0)) := by
    rcases hr.2 with ⟨e, h0⟩ | ⟨g, cap, cur, e, hB, hg, _⟩
    · omega
    · exact ⟨g, cap, cur, e, hB, hg⟩
  rw [er] at e
  injection e with e1 e2 e3
  subst e1 e3
  obtain ⟨b, off, e5, -, hc⟩ := h4 (by omega)
  cases e5
  have hcp := hc p hp
  rw [Nat.zero_add] at hcp
  have hgb := (ht.gs n hn gb (by rw [er]; rfl))
  have hLi : B ≤ L i := Nat.le_trans h.lo (h.le i 0 (by omega) (by omega))
  have hLi1 : L (i + 1) ≤ N := Nat.le_trans (h.le ts.length (i + 1) (by omega) (Nat.le_refl _)) h.hi
  obtain ⟨g', cur', hA, hg', hcell⟩ : ∃ g' cur', tvs[i].A = some ⟨g', 0, none⟩ ∧ w.heap[g']? = some (.cells cur' 34 (0, 0)) ∧ w.cell? ⟨g', n, none⟩ = some (.slice (some ⟨gb, 0, none⟩) s.length Cr) := by
    rcases ht.top.2 with ⟨_, h0⟩ | ⟨g', cap', cur', e', _, hg', _, _, _, htk⟩
    · omega
    · injection e' with e' _ _
      refine ⟨g', cur', e', hg', ?_⟩
      have hx : us[n]? = some (.slice (some ⟨gb, 0, none⟩) s.length Cr) := by rw [List.getElem?_eq_getElem hn, er]
      rw [← htk, List.getElem?_take, if_pos (by omega), Array.getElem?_toList] at hx
      rw [heap_cell hg', hx]
  refine ⟨g', gb, Cr, cur, cur', hA, o.n, hg', hcell, hg, hcp, by omega, by omega, fun x => ?_⟩
  have hkp := Kp.store w gb p (.int .u8 (x.toNat : Int))
  refine ⟨by simp [h.len], h.lo, fun j hj => h.mono j (by simpa using hj), by rw [List.length_set]; exact h.hi, fun j hj hj' => ?_⟩
  rw [List.length_set] at hj'
  by_cases e : i = j
  · subst e
    rw [List.getElem_set_self]
    exact ⟨o.label, o.cap, by rw [o.n]; simp, o.lost, ⟨us, ht.turned hn hn' er (s := s) hsn hp x⟩, o.top⟩
  · rw [List.getElem_set_ne e]
    have oj := h.one j hj hj'
    obtain ⟨usj, htj⟩ := oj.rows
    refine ⟨oj.label, oj.cap, oj.n, oj.lost, ⟨usj, htj.kp hkp (fun k c hk hc => ?_) (fun k hk hG => ?_)⟩, oj.top⟩
    · have hk' : k = gb := hk
      rw [hk', hg] at hc
      injection hc with hc
      injection hc with _ e2
      exact absurd e2 (by decide)
    · have hk' : k = gb := hk
      rw [hk'] at hG
      rcases Nat.lt_or_ge i j with hij | hij
      · have := h.le j (i + 1) (by omega) (by omega)
        omega
      · have := h.le i (j + 1) (by omega) (by omega)
        omega
end RowsT
/-- tapes in a row made by append, and a seal -/
structure LdK (w1 : World) (g cap M M2 : Nat) (x : Sx) (ts : List St.T) (wr : World) : Prop where
  ex : ∃ tvs L, encT.Own wr w1.heap.size 31 (.slice (some ⟨g, 0, none⟩) ts.length cap) tvs ∧ RowsT wr w1.heap.size M tvs ts L
  sx : x.Ok wr (fun b => M ≤ b ∧ b < M2)
  gne : g < M ∨ M2 ≤ g
  bel : Below w1.heap.size w1 wr
  lo : w1.heap.size ≤ g
namespace LdK
variable {w1 wr w2 : World} {g cap M M2 : Nat} {x : Sx} {ts : List St.T}
theorem old (h : LdK w1 g cap M M2 x ts wr) (hb : Below wr.heap.size wr w2) : LdK w1 g cap M M2 x ts w2 := by
  obtain ⟨tvs, L, h1, h2⟩ := h.ex
  exact ⟨⟨tvs, L, h1.old hb, h2.kp (S := fun _ => False) (Kp.of_below hb) (fun _ _ hs => hs.elim) (fun _ _ hs => hs.elim)⟩, h.sx.old hb, h.gne, h.bel.trans (hb.mono h.bel.size), h.lo⟩
theorem rd (h : LdK w1 g cap M M2 x ts wr) : RdT wr (some ⟨g, 0, none⟩) ts (fun _ => True) := by
  obtain ⟨tvs, L, h1, h2⟩ := h.ex
  obtain ⟨A, C, hv, -, -, -, hr⟩ := h1.rd
  have e : (some ⟨g, 0, none⟩ : Option Addr) = A := by injection hv
  rw [e]
  exact h2.rdT (hr.mono fun _ _ => trivial) fun _ _ => trivial
theorem blk (h : LdK w1 g cap M M2 x ts wr) : ∃ c, wr.heap[g]? = some (.cells c 31 (0, 0)) := by
  obtain ⟨tvs, L, h1, h2⟩ := h.ex
  exact h1.block g rfl
/-- a seal elsewhere is stored into -/
theorem beside (h : LdK w1 g cap M M2 x ts wr) {q : Nat} (hk : Kp (· = q) wr w2) (hq : w1.heap.size ≤ q) (hqM : q < M) (ht : ∃ c, wr.heap[q]? = some (.cells c 26 (0, 0))) : LdK w1 g cap M M2 x ts w2 := by
  obtain ⟨tvs, L, h1, h2⟩ := h.ex
  obtain ⟨c, hc⟩ := ht
  have hno : ∀ k c' t, k = q → wr.heap[k]? = some (Obj.cells c' t (0, 0)) → t = 26 := fun k c' t e h' => by
    rw [e, hc] at h'
    injection h' with h'
    injection h' with _ e2
    exact e2.symm
  refine ⟨⟨tvs, L, h1.of_block fun k e => hk.block k (h1.lt k e).2 fun e' => ?_, h2.kp hk (fun k c' e _ h' => absurd (hno k c' _ e h') (by decide)) (fun k c' e _ h' => absurd (hno k c' _ e h') (by decide))⟩, h.sx.kp hk (fun b hb e => by have e' : b = q := e; omega), h.gne, h.bel.trans (hk.below h.bel.size fun k e => by have e' : k = q := e; omega), h.lo⟩
  obtain ⟨c2, hc2⟩ := h1.block k e
  exact absurd (hno k c2 _ e' hc2) (by decide)
/-- a tape is lost -/
theorem lost (h : LdK w1 g cap M M2 x ts wr) {i : Nat} (hi : i < ts.length) : LdK w1 g cap M M2 x (ts.set i ⟨ts[i].label, ts[i].cap, ts[i].blocks, true⟩) (wr.setCell ⟨g, i * 4 + 3, none⟩ (.bool true)) := by
  obtain ⟨tvs, L, h1, h2⟩ := h.ex
  obtain ⟨c, hc⟩ := h1.block g rfl
  have hl := h2.len
  have hi' : i < tvs.length := by rw [hl]; exact hi
  have hk := Kp.store wr g (i * 4 + 3) (.bool true)
  have hno : ∀ k c' t, k = g → wr.heap[k]? = some (Obj.cells c' t (0, 0)) → t = 31 := fun k c' t e h' => by
    rw [e, hc] at h'
    injection h' with h'
    injection h' with _ e2
    exact e2.symm
  refine ⟨⟨_, L, ?_, (h2.kp hk (fun k c' e _ h' => absurd (hno k c' _ e h') (by decide)) (fun k c' e _ h' => absurd (hno k c' _ e h') (by decide))).lost hi' hi⟩, h.sx.kp hk (fun b hb e => by have := h.gne; have e' : b = g := e; omega), h.gne, h.bel.trans (hk.below h.bel.size fun k e => by have := h.lo; have e' : k = g := e; omega), h.lo⟩
  rw [List.length_set, ← hl]
  rw [← hl] at h1
  exact ownT_lost h1 hi'
/-- a byte of a block is turned -/
theorem turned (h : LdK w1 g cap M M2 x ts wr) {i n p : Nat} {s : Tx} (hi : i < ts.length) (hs : ts[i].blocks[n]? = some s) (hp : p < s.length) :
    ∃ g' C' gb Cb c, wr.cell? ⟨g, i * 4 + 2, none⟩ = some (.slice (some ⟨g', 0, none⟩) ts[i].blocks.length C') ∧ wr.cell? ⟨g', n, none⟩ = some (.slice (some ⟨gb, 0, none⟩) s.length Cb) ∧ wr.heap[gb]? = some (.cells c 5 (0, 0)) ∧ wr.cell? ⟨gb, p, none⟩ = some (.int .u8 ((s[p].toNat : Nat) : Int)) ∧
      ∀ y : UInt8, LdK w1 g cap M M2 x (ts.set i ⟨ts[i].label, ts[i].cap, ts[i].blocks.set n (s.set p y), ts[i].lost⟩) (wr.setCell ⟨gb, p, none⟩ (.int .u8 (y.toNat : Int))) := by
  obtain ⟨tvs, L, h1, h2⟩ := h.ex
  have hl := h2.len
  have hi' : i < tvs.length := by rw [hl]; exact hi
  obtain ⟨g', gb, Cb, c, c', hA, hn, -, hcell, hgb, hcp, hB, hN, hall⟩ := h2.turned hi' hi hs hp
  obtain ⟨A, C, hv, -, -, -, hr⟩ := h1.rd
  have e : (some ⟨g, 0, none⟩ : Option Addr) = A := by injection hv
  rw [← e] at hr
  obtain ⟨b, off, e2, -, hc⟩ := hr.at_ hi'
  cases e2
  have hc2 := hc 2 _ rfl
  rw [hA, hn, Nat.zero_add] at hc2
  refine ⟨g', tvs[i].C, gb, Cb, c, hc2, hcell, hgb, hcp, fun y => ?_⟩
  have hk := Kp.store wr gb p (.int .u8 (y.toNat : Int))
  refine ⟨⟨tvs, L, ?_, hall y⟩, h.sx.kp hk (fun b hb e => by have e' : b = gb := e; omega), h.gne, h.bel.trans (hk.below h.bel.size fun k e => by have e' : k = gb := e; omega), h.lo⟩
  rw [List.length_set]
  refine h1.of_block fun k e => hk.block k (h1.lt k e).2 fun e' => ?_
  obtain ⟨c2, hc2'⟩ := h1.block k e
  have e'' : k = gb := e'
  rw [e'', hgb] at hc2'
  injection hc2' with hc2'
  injection hc2' with _ e3
  exact absurd e3 (by decide)
end LdK
end Go.Proofs.YtcokmmanajdioaaGreat
namespace Go.Proofs.YtcokmmanajdioaaGreat

section
variable {P : Program} {ops : Array Oper} {Q : Exit → Act → World → Prop} {md : Region.Mode} {S : World → Prop} {z : Nat}

/-- whatever order is picked from here on; S holds behind each operation but z -/
def wpAnyX (P : Program) (md : Region.Mode) (ops : Array Oper) (Q : Exit → Act → World → Prop) (S : World → Prop) (z : Nat) : Nat → Array Bool → Act → World → Prop
  | 0, listed, a, w => Region.ready md ops listed = [] ∧ Q .normal a w
  | fuel + 1, listed, a, w =>
    (Region.ready md ops listed = [] → Q .normal a w) ∧
    ∀ i ∈ Region.ready md ops listed, wpOp P ops Q i (fun a' w' => (i = z ∨ S w') ∧ wpAnyX P md ops Q S z fuel (listed.setIfInBounds i true) a' w') a w
theorem wpAny_of_X : ∀ (fuel : Nat) (listed : Array Bool) (a : Act) (w : World), wpAnyX P md ops Q S z fuel listed a w → wpAny P md ops Q fuel listed a w
  | 0, _, _, _, h => h
  | fuel + 1, _, _, _, h => ⟨h.1, fun i hi => wpOp_mono (fun a' w' h' => wpAny_of_X fuel _ a' w' h'.2) (h.2 i hi)⟩
theorem wpAnyX_first {i : Nat} {oi : Oper} {v : Value} (hi : ops[i]? = some oi) (hsel : ∀ (j : Nat) (o : Oper) cs b, ops[j]? = some o → o.op ≠ .select cs b) (hz : Region.waitsFor md ops z i = true)
    (hQ : ∀ c a w, Q (.panic c) (a.put oi.dst v) w → Q (.panic c) a w) :
    ∀ (fuel : Nat) (listed : Array Bool) (a : Act) (w : World),
      (∀ j oj, ops[j]? = some oj → j ≠ i → listed.getD j true = false → (∀ e ∈ oj.after, Region.binds md e = true → e.on ≠ i) → oi.apart ops oj = true) →
      i ∈ Region.ready md ops listed → YieldsIf P ops S oi v a → S w →
      wpAnyX P md ops Q S z fuel (listed.setIfInBounds i true) (a.put oi.dst v) w → wpAnyX P md ops Q S z (fuel + 1) listed a w := by
  intro fuel
  induction fuel with
  | zero =>
    intro listed a w _ hr hy hS H
    refine ⟨fun h => (by rw [h] at hr; cases hr), fun j hj => ?_⟩
    by_cases hji : j = i
    · subst hji; exact hy.wpOp hi hS ⟨.inr hS, H⟩
    · have := ready_mono hj hji
      rw [H.1] at this
      cases this
  | succ fuel ih =>
    intro listed a w hfree hr hy hS H
    refine ⟨fun h => (by rw [h] at hr; cases hr), fun j hj => ?_⟩
    by_cases hji : j = i
    · subst hji; exact hy.wpOp hi hS ⟨.inr hS, H⟩
    · have h1 := H.2 j (ready_mono hj hji)
      obtain ⟨hjun, oj, hoj, hall⟩ := mem_ready.1 hj
      have hun : listed.getD i false = false := getD_both (mem_ready.1 hr).1
      have hnot : ∀ e ∈ oj.after, Region.binds md e = true → e.on ≠ i := fun e he hb heq => by
        have h1 := hall e he hb
        rw [heq, hun] at h1
        cases h1
      have hjz : j ≠ z := fun e => by
        subst e
        obtain ⟨oz, hoz, e, he, hb, hon⟩ := Region.waitsFor_spec hz
        have : oz = oj := Option.some.inj (hoz.symm.trans hoj)
        subst this
        exact hnot e he hb hon
      have h2 := wpOp_putIf hoj (hfree j oj hoj hji hjun hnot) (fun cs b => hsel i oi cs b hi) (fun cs b => hsel j oj cs b hoj) hQ hy h1
      have hfree' : ∀ k ok, ops[k]? = some ok → k ≠ i → (listed.setIfInBounds j true).getD k true = false →
          (∀ e ∈ ok.after, Region.binds md e = true → e.on ≠ i) → oi.apart ops ok = true := fun k ok hk hki hun hno => by
        refine hfree k ok hk hki ?_ hno
        by_cases hjk : j = k
        · subst hjk; exact hjun
        · rw [getD_set_ne true hjk] at hun; exact hun
      refine wpOp_mono (fun a' w' h3 => ⟨h3.2.1, ih (listed.setIfInBounds j true) a' w' hfree' (ready_mono hr (Ne.symm hji)) h3.1 (h3.2.1.resolve_left hjz) ?_⟩) h2
      rw [Array.setIfInBounds_comm _ _ hji]
      exact h3.2.2
/-- take number i first -/
theorem wpAnyX_take {i : Nat} {oi : Oper} {v : Value} {fuel : Nat} {listed : Array Bool} {a : Act} {w : World} (hi : ops[i]? = some oi)
    (hs : Region.noSelect ops = true) (hf : Region.free md ops listed i = true) (hr : (Region.ready md ops listed).contains i = true) (hz : Region.waitsFor md ops z i = true)
    (hQ : ∀ c a w, Q (.panic c) (a.put oi.dst v) w → Q (.panic c) a w) (hy : YieldsIf P ops S oi v a) (hS : S w)
    (h : wpAnyX P md ops Q S z fuel (listed.setIfInBounds i true) (a.put oi.dst v) w) : wpAnyX P md ops Q S z (fuel + 1) listed a w :=
  wpAnyX_first hi (Region.noSelect_spec hs) hz hQ fuel listed a w (Region.free_spec hi hf) (by simpa using hr) hy hS h
/-- the one that may come up comes up -/
theorem wpAnyX_one {i : Nat} {o : Oper} {fuel : Nat} {listed : Array Bool} {a : Act} {w : World} (hr : Region.ready md ops listed = [i]) (ho : ops[i]? = some o)
    (h : ∀ K' : Act → World → Prop, Shut (∀ a w, (i = z ∨ S w) → wpAnyX P md ops Q S z fuel (listed.setIfInBounds i true) a w → K' a w) → if Region.wanted o (yielded ops a.tmps) = true then Oper.wp P o a w K' Q else K' (a.put o.dst undef) w) :
    wpAnyX P md ops Q S z (fuel + 1) listed a w := by
  refine ⟨fun h0 => (by rw [h0] at hr; cases hr), fun j hj => ?_⟩
  rw [hr] at hj
  rw [List.mem_singleton.1 hj]
  exact wpOp_step ho (fun K' hK => h K' (fun a w hS hW => hK a w ⟨hS, hW⟩))
theorem wpAnyX_done' {fuel : Nat} {listed : Array Bool} {a : Act} {w : World} (hr : Region.ready md ops listed = []) (h : Q .normal a w) : wpAnyX P md ops Q S z fuel listed a w := by
  cases fuel with
  | zero => exact ⟨hr, h⟩
  | succ n => exact ⟨fun _ => h, by rw [hr]; simp⟩
/-- take number i first, its slot told -/
theorem wpAnyX_slot {i d : Nat} {oi : Oper} {v : Value} {fuel : Nat} {listed : Array Bool} {a : Act} {w : World} (hi : ops[i]? = some oi) (hd : oi.dst = some d)
    (hs : Region.noSelect ops = true) (hf : Region.free md ops listed i = true) (hr : (Region.ready md ops listed).contains i = true) (hz : Region.waitsFor md ops z i = true)
    (hQ : ∀ c a w, Q (.panic c) (a.put (some d) v) w → Q (.panic c) a w) (hw : Region.wanted oi (yielded ops a.tmps) = true) (hy : ∀ w, S w → (execOp a.eval oi).run P w = .ok (.value v) w) (hS : S w)
    (h : wpAnyX P md ops Q S z fuel (listed.setIfInBounds i true) (a.put (some d) v) w) : wpAnyX P md ops Q S z (fuel + 1) listed a w :=
  wpAnyX_take hi hs hf hr hz (by rw [hd]; exact hQ) (.inl ⟨hw, hy⟩) hS (by rw [hd]; exact h)
/-- number i alone may come up, and is carried out -/
theorem wpAnyX_next {i : Nat} {o : Oper} {fuel : Nat} {listed : Array Bool} {a : Act} {w : World} (hr : Region.ready md ops listed = [i]) (ho : ops[i]? = some o)
    (h : ∀ K' : Act → World → Prop, Shut (∀ a w, S w → (S w → wpAnyX P md ops Q S z fuel (listed.setIfInBounds i true) a w) → K' a w) → if Region.wanted o (yielded ops a.tmps) = true then Oper.wp P o a w K' Q else K' (a.put o.dst undef) w) :
    wpAnyX P md ops Q S z (fuel + 1) listed a w := wpAnyX_one hr ho fun K' hK => h K' (fun a w hS hW => hK.out a w (.inr hS) (hW hS))
/-- the last one, number z -/
theorem wpAnyX_last {o : Oper} {fuel : Nat} {listed : Array Bool} {a : Act} {w : World} (hr : Region.ready md ops listed = [z]) (ho : ops[z]? = some o) (hr' : Region.ready md ops (listed.setIfInBounds z true) = [])
    (h : ∀ K' : Act → World → Prop, Shut (∀ a w, Q .normal a w → K' a w) → if Region.wanted o (yielded ops a.tmps) = true then Oper.wp P o a w K' Q else K' (a.put o.dst undef) w) :
    wpAnyX P md ops Q S z (fuel + 1) listed a w := wpAnyX_one hr ho fun K' hK => h K' (fun a w hW => hK.out a w (.inl rfl) (wpAnyX_done' hr' hW))
theorem wp_region_X {id : Nat} {a : Act} {w : World} (S : World → Prop) (z : Nat) (hm : P.follows .mixedOrders = true) (hS : S w.drew)
    (h : S w.drew → wpAnyX P .any ops Q S z ops.size (Array.replicate ops.size false) a w.drew) : (Code.region id ops true).wp P Q a w :=
  wp_region_any hm (wpAny_of_X _ _ _ _ (h hS))
end
end Go.Proofs.YtcokmmanajdioaaGreat
