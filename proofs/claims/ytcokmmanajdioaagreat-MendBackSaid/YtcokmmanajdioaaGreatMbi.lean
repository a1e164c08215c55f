/- MendBack: what is known of the copies of a group's tapes while some are lost, and bytes of some blocks are turned. No function of the program. What the document's own CopyTape makes (parted from TpRefE: no function of package tape). What the document's own SameRows and SameTape answer where all is the same; of the first one's rows the room is not known. One tape, and one row, in a block of its own. No function of the program. The example of chapter 15, and a block that is gone: alive of package cartridgelaw15. -/
import Derived.Test.YtcokmmanajdioaaGreatMbh
import Derived.Test.YtcokmmanajdioaaGreatMaf
import Derived.Deep.RegionLaw
import Derived.Deep.AppendLies
import Derived.Test.YtcokmmanajdioaaGreatMaj
import Derived.Test.YtcokmmanajdioaaGreatMak
import Derived.Deep.RegionHeld3
import Derived.BigQuiet
import Derived.Deep.DeepFit
import Derived.Test.YtcokmmanajdioaaGreatMao
import Derived.Test.YtcokmmanajdioaaGreatMbg
import Derived.Test.YtcokmmanajdioaaGreatRefGrMk
import Derived.Test.YtcokmmanajdioaaGreatMbe
import Derived.Test.YtcokmmanajdioaaGreatMbb
namespace Go.Proofs.YtcokmmanajdioaaGreat
open Go.RowKit Mx
open Pt (Tx)

namespace Bk
theorem modB {N : Nat} (h0 : 0 < N) (q : Nat) : ∃ p : Nat, p < N ∧ ((q : Int)).tmod (N : Int) = (p : Int) :=
  ⟨q % N, Nat.mod_lt _ h0, by rw [Int.tmod_eq_emod_of_nonneg (by omega)]; exact (Int.natCast_emod q N).symm⟩
theorem set_self (s : Tx) (k : Nat) : s.set k (s.getD k 0) = s := by
  refine List.ext_getElem (by simp) fun j h1 h2 => ?_
  rw [List.getElem_set]
  split
  · rename_i e
    subst e
    rw [List.getD_eq_getElem?_getD, List.getElem?_eq_getElem h2]; rfl
  · rfl
theorem cnt_mono' {P Q : Nat → Bool} {n : Nat} (h : ∀ x, x < n → P x = true → Q x = true) : Mx.cnt P n ≤ Mx.cnt Q n := by
  induction n with
  | zero => exact Nat.le_refl _
  | succ n ih =>
    have h1 := ih fun x hx => h x (by omega)
    simp only [Mx.cnt]
    cases hp : P n with
    | true => rw [h n (by omega) hp]; omega
    | false => simp; omega
/-- a tape whose blocks' bytes 5 are turned somehow, and that may be lost -/
structure Tw (t t0 : St.T) : Prop where
  label : t.label = t0.label
  cap : t.cap = t0.cap
  len : t.blocks.length = t0.blocks.length
  blk : ∀ (n : Nat) (s : Tx), t.blocks[n]? = some s → ∃ (s0 : Tx) (x : UInt8), t0.blocks[n]? = some s0 ∧ s = s0.set 5 x
namespace Tw
variable {t t0 : St.T}
theorem refl (t : St.T) : Tw t t := ⟨rfl, rfl, rfl, fun _ s h => ⟨s, s.getD 5 0, h, (set_self s 5).symm⟩⟩
theorem lost (h : Tw t t0) : Tw ⟨t.label, t.cap, t.blocks, true⟩ t0 := ⟨h.label, h.cap, h.len, h.blk⟩
theorem turn (h : Tw t t0) {n : Nat} {s : Tx} (hs : t.blocks[n]? = some s) (x : UInt8) : Tw ⟨t.label, t.cap, t.blocks.set n (s.set 5 x), t.lost⟩ t0 := by
  refine ⟨h.label, h.cap, by show (t.blocks.set n _).length = _; rw [List.length_set]; exact h.len, fun m u hu => ?_⟩
  have hu' : (t.blocks.set n (s.set 5 x))[m]? = some u := hu
  by_cases e : n = m
  · subst e
    rw [List.getElem?_set_self (List.getElem?_eq_some_iff.1 hs).1] at hu'
    obtain ⟨s0, x0, h1, h2⟩ := h.blk n s hs
    refine ⟨s0, x, h1, ?_⟩
    rw [← Option.some.inj hu', h2, List.set_set]
  · rw [List.getElem?_set_ne e] at hu'
    exact h.blk m u hu'
end Tw
/-- a tape whose blocks are good -/
def Whole (t : St.T) : Prop := t.lost = false ∧ ∀ (n : Nat) (s : Tx), t.blocks[n]? = some s → Fm.Good s
theorem Tw.sub {t t0 : St.T} (h : Tw t t0) (hw : Whole t0) : Me.Sub t t0 := by
  obtain ⟨lab, cap, bs, lo⟩ := t
  refine ⟨h.label, ?_⟩
  cases lo with
  | true => exact .inl rfl
  | false =>
    refine .inr ⟨hw.1.symm, h.len, fun n => ?_⟩
    cases hn : bs[n]? with
    | none =>
      right
      have h1 := List.getElem?_eq_none_iff.1 hn
      have h2 := h.len
      rw [List.getElem?_eq_none (by have h3 : bs.length = t0.blocks.length := h2; omega)]
    | some s =>
      obtain ⟨s0, x, h1, h2⟩ := h.blk n s hn
      have hg := hw.2 n s0 h1
      have h79 := Fm.good_ge hg
      by_cases hx : x = s0[5]'(by omega)
      · right
        rw [h1, h2, hx, List.set_getElem_self]
      · left
        rw [h2] at hn
        exact Vo.good_none (t := Gr.vo ⟨lab, cap, bs, false⟩) hn (Fm.turn_no hg (by omega) hx)
theorem Tw.short {t t0 : St.T} (h : Tw t t0) (hs : Ld.Short t0) : Ld.Short t := by
  refine ⟨by rw [h.len]; exact hs.1, fun s hm => ?_⟩
  obtain ⟨n, hn⟩ := List.mem_iff_getElem?.1 hm
  obtain ⟨s0, x, h1, rfl⟩ := h.blk n s hn
  rw [List.length_set]
  exact hs.2 s0 (List.mem_of_getElem? h1)
theorem Tw.five {t t0 : St.T} (h : Tw t t0) (hw : Whole t0) {n : Nat} {s : Tx} (hs : t.blocks[n]? = some s) : 79 ≤ s.length := by
  obtain ⟨s0, x, h1, rfl⟩ := h.blk n s hs
  rw [List.length_set]
  exact Fm.good_ge (hw.2 n s0 h1)
section
variable {z : Nat → Int} {d p : Nat}
theorem T_whole {n i : Nat} (hn : n ≤ 8) (hi : i ≤ 8) : Whole (Ld.T n i) := by
  refine ⟨rfl, fun k s hs => ?_⟩
  obtain ⟨hk, hs'⟩ := List.getElem?_eq_some_iff.1 hs
  have hk' : k < n := by simpa [Ld.T] using hk
  have e : (Ld.T n i).blocks[k] = Ld.b i k := by simp [Ld.T]
  rw [← hs', e]
  exact Fm.good_blk (Ld.ok hi (by omega))
theorem all_data {i : Nat} (hi : i < d) : (Ld.all z d p)[i]? = some (Ld.T (Ld.num z i) i) := by
  unfold Ld.all
  rw [Me.whole_data (by rw [Ld.data_len]; exact hi)]
  simp [Ld.data]
theorem all_whole (hd1 : 1 ≤ d) (hd : d ≤ 6) (hp1 : 1 ≤ p) (hp : p ≤ 4) {j : Nat} (hj : j < (Ld.all z d p).length) : Whole (Ld.all z d p)[j] := by
  have hj' := hj
  rw [Ld.all_len] at hj'
  by_cases h : j < d
  · have e := all_data (z := z) (p := p) h
    rw [List.getElem?_eq_getElem hj] at e
    rw [Option.some.inj e]
    exact T_whole (Ld.num_le z j).2 (by omega)
  · obtain ⟨i, rfl⟩ : ∃ i, j = d + i := ⟨j - d, by omega⟩
    have hi : i < (Ld.bl p).length := by rw [Ld.bl_len]; omega
    have e := Me.whole_par (data := Ld.data z d) (bl := Ld.bl p) (number := 3) hi
    rw [Ld.data_len] at e
    have e' : (Ld.all z d p)[d + i]? = some (Gr.madeT (Ld.data z d) (Ld.bl p) 3 i (Ld.bl p)[i]) := e
    rw [List.getElem?_eq_getElem hj] at e'
    rw [Option.some.inj e']
    refine ⟨rfl, fun k s hs => ?_⟩
    have hs2 : (framedL (Ld.bl p)[i].label (says (Gr.rowsOf (Ld.data z d) (Ld.bl p).length i) (Gr.sealOf (Ld.data z d) (Ld.bl p) 3 ((Ld.data z d).length + i))))[k]? = some s := hs
    obtain ⟨hk, hs3⟩ := List.getElem?_eq_some_iff.1 hs2
    rw [framedL_at (by rwa [framedL_len] at hk)] at hs3
    rw [← hs3]
    refine Fm.good_blk (says_ok (Gr.seal_labels (Ld.seal0 (z := z) hd1 hd hp1 hp) (List.mem_append_right _ (List.getElem_mem hi))) (fun b hb => by rw [Gr.rowsOf_79 hb]; exact Nat.le_refl _) (by rw [Gr.rowsOf_len]; have := Ld.len_le (z := z) (d := d); omega) k _ (List.getElem?_eq_getElem (by rwa [framedL_len] at hk)))
theorem all_blocks {j : Nat} (hj : j < (Ld.all z d p).length) : 1 ≤ (Ld.all z d p)[j].blocks.length := by
  have hj' := hj
  rw [Ld.all_len] at hj'
  by_cases h : j < d
  · have e := all_data (z := z) (p := p) h
    rw [List.getElem?_eq_getElem hj] at e
    rw [Option.some.inj e]
    have := (Ld.num_le z j).1
    simpa [Ld.T] using this
  · obtain ⟨i, rfl⟩ : ∃ i, j = d + i := ⟨j - d, by omega⟩
    have hi : i < (Ld.bl p).length := by rw [Ld.bl_len]; omega
    have e := Me.whole_par (data := Ld.data z d) (bl := Ld.bl p) (number := 3) hi
    rw [Ld.data_len] at e
    have e' : (Ld.all z d p)[d + i]? = some (Gr.madeT (Ld.data z d) (Ld.bl p) 3 i (Ld.bl p)[i]) := e
    rw [List.getElem?_eq_getElem hj] at e'
    rw [Option.some.inj e', Gr.madeT_len]
    omega
theorem all_sealed (hd1 : 1 ≤ d) (hd : d ≤ 6) (hp1 : 1 ≤ p) (hp : p ≤ 4) {j : Nat} (hj : d ≤ j) (hj' : j < (Ld.all z d p).length) : (Gr.sealed (Ld.all z d p)[j]).isSome = true := by
  rw [Ld.all_len] at hj'
  have e : (Ld.all z d p)[j]'(by rw [Ld.all_len]; exact hj') = (Gr.made (Ld.data z d) (Ld.bl p) 3)[j - d]'(by rw [Gr.made_len, Ld.bl_len]; omega) := by
    unfold Ld.all Me.whole
    rw [List.getElem_append_right (by rw [Ld.data_len]; exact hj)]
    simp [Ld.data_len]
  rw [e, Ld.sealed_made hd1 hd hp1 hp]
  rfl
/-- what is known of the copies: h tells which are hurt, n how many -/
structure I (z : Nat → Int) (d p : Nat) (ts : List St.T) (h : Nat → Bool) (n : Nat) : Prop where
  len : ts.length = d + p
  same : ∀ j (hj : j < ts.length) (hj' : j < (Ld.all z d p).length), h j = false → ts[j] = (Ld.all z d p)[j]
  tw : ∀ j (hj : j < ts.length) (hj' : j < (Ld.all z d p).length), Tw ts[j] (Ld.all z d p)[j]
  cnt : n = cnt h (d + p)
  le : n ≤ p
  last : h (d + p - 1) = false
namespace I
variable {ts : List St.T} {h : Nat → Bool} {n : Nat}
theorem start : I z d p (Ld.all z d p) (fun _ => false) 0 :=
  ⟨Ld.all_len z d p, fun _ _ _ _ => rfl, fun _ _ _ => Tw.refl _, by
    have e := cnt_not (fun _ => true) (d + p)
    have e2 : ∀ m, Mx.cnt (fun _ => true) m = m := fun m => by induction m with
      | zero => rfl
      | succ m ih => simp [Mx.cnt, ih]
    rw [e2] at e
    have e3 : (fun x : Nat => !(fun _ => true : Nat → Bool) x) = fun _ => false := rfl
    rw [e3] at e
    omega, Nat.zero_le _, rfl⟩
theorem hit (hi : I z d p ts h n) {k : Nat} (hk : k < d + p) (hl : k ≠ d + p - 1) (hn : n < p) (hf : h k = false) : I z d p ts (fun j => if j = k then true else h j) (n + 1) :=
  ⟨hi.len, fun j hj hj' e => by
    by_cases e' : j = k
    · rw [if_pos e'] at e; cases e
    · rw [if_neg e'] at e; exact hi.same j hj hj' e, hi.tw, by rw [cnt_set hk hf, ← hi.cnt], hn, by
    show (if d + p - 1 = k then true else h (d + p - 1)) = false
    rw [if_neg (fun e => hl e.symm)]; exact hi.last⟩
theorem again (hi : I z d p ts h n) {k : Nat} (hf : h k = true) : I z d p ts (fun j => if j = k then true else h j) n := by
  have e : (fun j => if j = k then true else h j) = h := funext fun j => by
    by_cases e' : j = k
    · rw [if_pos e', e', hf]
    · rw [if_neg e']
  rw [e]; exact hi
theorem set (hi : I z d p ts h n) {k : Nat} (hf : h k = true) {t : St.T} (ht : ∀ hk' : k < (Ld.all z d p).length, Tw t (Ld.all z d p)[k]) : I z d p (ts.set k t) h n := by
  refine ⟨by rw [List.length_set]; exact hi.len, fun j hj hj' e => ?_, fun j hj hj' => ?_, hi.cnt, hi.le, hi.last⟩
  · rw [List.length_set] at hj
    have e' : k ≠ j := fun e' => by rw [← e', hf] at e; cases e
    rw [List.getElem_set_ne e']
    exact hi.same j hj hj' e
  · rw [List.length_set] at hj
    by_cases e' : k = j
    · subst e'; rw [List.getElem_set_self]; exact ht hj'
    · rw [List.getElem_set_ne e']
      exact hi.tw j hj hj'
theorem lost (hi : I z d p ts h n) {k : Nat} (hk : k < ts.length) (hf : h k = true) : I z d p (ts.set k ⟨ts[k].label, ts[k].cap, ts[k].blocks, true⟩) h n := hi.set hf fun hk' => (hi.tw k hk hk').lost
theorem turn (hi : I z d p ts h n) {k : Nat} (hk : k < ts.length) (hf : h k = true) {m : Nat} {s : Tx} (hs : ts[k].blocks[m]? = some s) (x : UInt8) : I z d p (ts.set k ⟨ts[k].label, ts[k].cap, ts[k].blocks.set m (s.set 5 x), ts[k].lost⟩) h n := hi.set hf fun hk' => (hi.tw k hk hk').turn hs x
theorem subs (hi : I z d p ts h n) (hd1 : 1 ≤ d) (hd : d ≤ 6) (hp1 : 1 ≤ p) (hp : p ≤ 4) : Me.Subs ts (Ld.all z d p) :=
  ⟨by rw [hi.len, Ld.all_len], fun j hj hj' => (hi.tw j hj hj').sub (all_whole hd1 hd hp1 hp hj')⟩
theorem short (hi : I z d p ts h n) (hd : d ≤ 6) : ∀ t ∈ ts, Ld.Short t := fun t ht => by
  obtain ⟨j, hj, rfl⟩ := List.mem_iff_getElem.1 ht
  have hj' : j < (Ld.all z d p).length := by rw [Ld.all_len, ← hi.len]; exact hj
  exact (hi.tw j hj hj').short (Ld.all_short hd _ (List.getElem_mem hj'))
/-- the blocks of a copy -/
theorem block (hi : I z d p ts h n) (hd1 : 1 ≤ d) (hd : d ≤ 6) (hp1 : 1 ≤ p) (hp : p ≤ 4) {k : Nat} (hk : k < ts.length) : 1 ≤ ts[k].blocks.length ∧ ts[k].blocks.length ≤ 1000000 ∧ ∀ (m : Nat) (s : Tx), ts[k].blocks[m]? = some s → 79 ≤ s.length := by
  have hk' : k < (Ld.all z d p).length := by rw [Ld.all_len, ← hi.len]; exact hk
  have ht := hi.tw k hk hk'
  exact ⟨by rw [ht.len]; exact all_blocks hk', (hi.short hd _ (List.getElem_mem hk)).1, fun m s hs => ht.five (all_whole hd1 hd hp1 hp hk') hs⟩
theorem rows (hi : I z d p ts h n) (hd1 : 1 ≤ d) (hd : d ≤ 6) (hp1 : 1 ≤ p) (hp : p ≤ 4) : Me.rows (ts.drop d) = some (St.len (Ld.data z d)) := by
  have e := Me.subs_rows (data := Ld.data z d) (bl := Ld.bl p) (number := 3) (ts := ts) (hi.subs hd1 hd hp1 hp)
  rw [Ld.data_len] at e
  have hl := hi.len
  have hj : d + p - 1 < ts.length := by omega
  have hj' : d + p - 1 < (Ld.all z d p).length := by rw [Ld.all_len]; omega
  refine e ⟨ts[d + p - 1], ?_, ?_⟩
  · rw [List.mem_iff_getElem]
    refine ⟨p - 1, by rw [List.length_drop]; omega, ?_⟩
    rw [List.getElem_drop]
    have e9 : d + (p - 1) = d + p - 1 := by omega
    simp only [e9]
  · rw [hi.same _ hj hj' hi.last]
    exact all_sealed hd1 hd hp1 hp (by omega) hj'
theorem there (hi : I z d p ts h n) (hd1 : 1 ≤ d) (hd : d ≤ 6) (hp1 : 1 ≤ p) (hp : p ≤ 4) {no : Nat} (hno : no < St.len (Ld.data z d)) : d ≤ Me.there_ ts d p no := by
  unfold Me.there_
  rw [plsN_cnt]
  have hl := hi.len
  have h1 := cnt_not h (d + p)
  have h2 := cnt_mono' (n := d + p) (P := fun x => !h x) (Q := _root_.Go.Proofs.YtcokmmanajdioaaGreat.there fun i => (Me.have_ ts d no i).length) fun x hx hh => by
    have hf : h x = false := by simpa using hh
    have hxl : x < ts.length := by omega
    have hxa : x < (Ld.all z d p).length := by rw [Ld.all_len]; exact hx
    have hs := Me.have_same (data := Ld.data z d) (bl := Ld.bl p) (number := 3) (hi.subs hd1 hd hp1 hp) (n := no) (j := x) (by rw [Ld.data_len, Ld.bl_len]; exact hx) (by
      rw [List.getElem?_eq_getElem hxl, hi.same x hxl hxa hf]
      exact (List.getElem?_eq_getElem hxa).symm)
    have hr := (Me.whole_row (data := Ld.data z d) (bl := Ld.bl p) (number := 3) (Ld.data_fine hd) (Ld.seal0 hd1 hd hp1 hp) (by have := Ld.len_le (z := z) (d := d); omega) hno (j := x) (by rw [Ld.data_len, Ld.bl_len]; exact hx)).1
    rw [Ld.data_len] at hs hr
    exact there_true.2 (by rw [hs, hr]; decide)
  have h3 := hi.cnt
  have h4 := hi.le
  omega
theorem first (hi : I z d p ts h n) (hd : d ≤ 6) (hp : p ≤ 4) (hd1 : 1 ≤ d) (hp1 : 1 ≤ p) {i : Nat} (hid : i < d) : ts.any (fun t => decide (t.label = (i : Int) + 1)) = true ∧ (Me.first ts ((i : Int) + 1)).cap = 20 := by
  have hl := hi.len
  have hil : i < ts.length := by omega
  have hia : i < (Ld.all z d p).length := by rw [Ld.all_len]; omega
  have e := all_data (z := z) (p := p) hid
  rw [List.getElem?_eq_getElem hia] at e
  have ht := hi.tw i hil hia
  rw [Option.some.inj e] at ht
  have hlab : ts[i].label = (i : Int) + 1 := ht.label
  have hnd : (ts.map St.T.label).Nodup := by
    rw [(hi.subs hd1 hd hp1 hp).labels]
    unfold Ld.all
    rw [Me.whole_labels]
    exact Ld.nodup hd hp
  refine ⟨List.any_eq_true.2 ⟨ts[i], List.getElem_mem hil, decide_eq_true hlab⟩, ?_⟩
  rw [← hlab, Me.first_self hnd hil]
  exact ht.cap
end I
/-- what a row of the data is -/
theorem row_is {i no : Nat} (hd : d ≤ 6) (hi : i < d) : lst (St.mat (St.row (Ld.data z d) (no : Int)) i) 79 = St.blk (no : Int) (Ld.T (Ld.num z i) i) := by
  have hid : i < (Ld.data z d).length := by rw [Ld.data_len]; exact hi
  have e := Me.encD_data (data := Ld.data z d) (p := 1) (n := no) (x := i) hid
  have e3 : (Ld.data z d)[i] = Ld.T (Ld.num z i) i := by simp [Ld.data]
  rw [e3] at e
  have h79 := Me.blk_fine (Ld.fine (n := Ld.num z i) (i := i) (Ld.num_le z i).2 (by omega)) no
  have h2 := lst_rowL (St.blk (no : Int) (Ld.T (Ld.num z i) i))
  rw [h79] at h2
  rw [← h2]
  refine lst_congr fun c _ => ?_
  have h3 := congrFun e c
  unfold encD at h3
  rw [if_pos hid] at h3
  exact h3
theorem blk_T {n i no : Nat} (hn : n ≤ 8) (hi : i ≤ 8) : St.blk (no : Int) (Ld.T n i) = if no < n then Ld.b i no else St.zeros := by
  by_cases h : no < n
  · rw [if_pos h]
    have hl : no < (Ld.T n i).blocks.length := by simpa [Ld.T] using h
    have e : (Ld.T n i).blocks[no] = Ld.b i no := by simp [Ld.T]
    rw [St.blk_some (t := Ld.T n i) rfl hl (by rw [e]; exact Ld.b_len hi (by omega)), e]
  · rw [if_neg h, St.blk_none (.inr (.inr (by simp [Ld.T]; omega)))]
theorem nz_zeros : Me.nz St.zeros = false := by decide
theorem nz_b {i k : Nat} (hi : i ≤ 8) (hk : k ≤ 8) : Me.nz (Ld.b i k) = true := by
  cases h : Me.nz (Ld.b i k) with
  | true => rfl
  | false =>
    have e : Ld.b i k = St.zeros := by
      refine List.eq_replicate_iff.2 ⟨Ld.b_len hi hk, fun c hc => ?_⟩
      have := List.any_eq_false.1 h c hc
      simpa using this
    have h2 : Fm.parse (Ld.b i k) = Ld.u i k := Fm.parse_blk (Ld.ok hi hk)
    rw [e] at h2
    have h3 : (Fm.parse St.zeros).kind = 3 := by rw [h2]; rfl
    exact absurd h3 (by decide)
theorem end_is {r : Nat → Tx} {n : Nat} (h1 : 1 ≤ n) (hy : ∀ k, k < n → Me.nz (r k) = true) (hz : ∀ k, n ≤ k → Me.nz (r k) = false) : ∀ m, n ≤ m → Me.end_ r m = n := by
  intro m hm
  induction m with
  | zero => omega
  | succ m ih =>
    rw [Me.end_]
    by_cases h : n ≤ m
    · rw [if_neg (by rw [hz m h]; simp)]; exact ih h
    · rw [if_pos (hy m (by omega))]; omega
/-- the tape that is made again -/
theorem tape_is {i : Nat} (hd : d ≤ 6) (hi : i < d) : Me.end_ (fun (n : Nat) => lst (St.mat (St.row (Ld.data z d) (n : Int)) i) 79) (St.len (Ld.data z d)) = Ld.num z i ∧ (List.range (Ld.num z i)).map (fun (n : Nat) => lst (St.mat (St.row (Ld.data z d) (n : Int)) i) 79) = (Ld.T (Ld.num z i) i).blocks := by
  have hn := Ld.num_le z i
  have e : ∀ no : Nat, lst (St.mat (St.row (Ld.data z d) (no : Int)) i) 79 = if no < Ld.num z i then Ld.b i no else St.zeros := fun no => by rw [row_is hd hi, blk_T hn.2 (by omega)]
  refine ⟨end_is hn.1 (fun k hk => ?_) (fun k hk => ?_) _ ?_, List.map_congr_left fun no hno => ?_⟩
  · rw [e, if_pos hk]; exact nz_b (by omega) (by omega)
  · rw [e, if_neg (by omega)]; exact nz_zeros
  · have h := St.one_le_len (t := Ld.T (Ld.num z i) i) (l := Ld.data z d) (List.mem_map.2 ⟨i, List.mem_range.2 hi, rfl⟩)
    have h4 : St.one (Ld.T (Ld.num z i) i) = (Ld.T (Ld.num z i) i).blocks.length := rfl
    rw [h4] at h
    simpa [Ld.T] using h
  · rw [e, if_pos (List.mem_range.1 hno)]
theorem num_len {i : Nat} (hi : i < d) : Ld.num z i ≤ St.len (Ld.data z d) := by
  have h := St.one_le_len (t := Ld.T (Ld.num z i) i) (l := Ld.data z d) (List.mem_map.2 ⟨i, List.mem_range.2 hi, rfl⟩)
  have h4 : St.one (Ld.T (Ld.num z i) i) = (Ld.T (Ld.num z i) i).blocks.length := rfl
  rw [h4] at h
  simpa [Ld.T] using h
/-- a block that is made again -/
theorem block_is {i no : Nat} (hd : d ≤ 6) (hi : i < d) (hno : no < Ld.num z i) : lst (St.mat (St.row (Ld.data z d) (no : Int)) i) 79 = Ld.b i no := by
  rw [row_is hd hi, blk_T (Ld.num_le z i).2 (by omega), if_pos hno]
end
end Bk
end Go.Proofs.YtcokmmanajdioaaGreat
namespace Go.Proofs.YtcokmmanajdioaaGreat
open Go.RowKit
open Pt (Tx)

theorem alloc_at2C (w : World) (o1 o2 : Obj) : ((w.alloc o1).alloc o2).drew.heap[w.heap.size + 1]? = some o2 := by
  have h := Go.Deep.blk_alloc_new (w.alloc o1) o2
  have hz : (w.alloc o1).heap.size = w.heap.size + 1 := by simp
  rw [hz] at h
  exact h
set_option maxRecDepth 100000 in
set_option maxHeartbeats 2000000 in
/-- what CopyTape answers: all in new memory -/
def CopyAns (lab cap : Int) (lost : Bool) (bs : List Tx) (w : World) (e : Ending) (w' : World) : Prop :=
  ∃ A C us, e = .returned (.agg #[.int .i64 lab, .int .i64 cap, .slice A bs.length C, .bool lost]) ∧ TopB w' w.heap.size (fun k => w.heap.size ≤ k) (.slice A bs.length C) us bs ∧ Below w.heap.size w w'
set_option maxRecDepth 100000 in
set_option maxHeartbeats 2000000 in
theorem copyTape_any (lab cap : Int) (A : Option Addr) (bs : List Tx) (n C : Nat) (lost : Bool) (G : Nat → Prop) (w : World) (hn : bs.length = n) (hr : RdB w A bs G) (hl : n ≤ 1000) (hs : ∀ s ∈ bs, s.length ≤ 1000) :
    Calls Tryz.prog 6 #[.agg #[.int .i64 lab, .int .i64 cap, .slice A n C, .bool lost]] w (CopyAns lab cap lost bs w) := by
  have HN := Lib.hid hn
  have HR := Lib.hid hr
  have HSL := Lib.hid hs
  clear hn hr hs
  go_enter Tryz.func6, Tryz.ntmps6
  go_wp2
  have hb2 : Below w.heap.size w ((w.alloc (.cells #[.int .i64 lab, .int .i64 cap, .slice A n C, .bool lost] 31)).alloc (.cells #[.int .i64 0, .int .i64 0, .slice none 0 0, .bool false] 31)) := ((Below.refl _ _).alloc (Nat.le_refl _) _).alloc (by simp) _
  have hx1 : ((w.alloc (.cells #[.int .i64 lab, .int .i64 cap, .slice A n C, .bool lost] 31)).alloc (.cells #[.int .i64 0, .int .i64 0, .slice none 0 0, .bool false] 31)).heap[w.heap.size]? = some (.cells #[.int .i64 lab, .int .i64 cap, .slice A n C, .bool lost] 31 (0, 0)) := (Below.heap_alloc _ _ _ (by simp)).trans (Go.Deep.blk_alloc_new _ _)
  have hx2 : ((w.alloc (.cells #[.int .i64 lab, .int .i64 cap, .slice A n C, .bool lost] 31)).alloc (.cells #[.int .i64 0, .int .i64 0, .slice none 0 0, .bool false] 31)).heap[w.heap.size + 1]? = some (.cells #[.int .i64 0, .int .i64 0, .slice none 0 0, .bool false] 31 (0, 0)) := alloc_at2C _ _ _
  generalize (w.alloc (.cells #[.int .i64 lab, .int .i64 cap, .slice A n C, .bool lost] 31)).alloc (.cells #[.int .i64 0, .int .i64 0, .slice none 0 0, .bool false] 31) = w2 at hb2 hx1 hx2 ⊢
  have HB2 := Lib.hid hb2
  have HX1 := Lib.hid hx1
  have HX2 := Lib.hid hx2
  clear hb2 hx1 hx2
  go_loopw [3, 4] (fun vl vi wr => ∃ (k : Nat) (us : List Value), k ≤ n ∧ vi = .int .i64 (k : Int) ∧ Hid (TopB wr w.heap.size (fun q => w.heap.size ≤ q) vl us (bs.take k)) ∧ Hid (wr.heap[w.heap.size]? = some (.cells #[.int .i64 lab, .int .i64 cap, .slice A n C, .bool lost] 31 (0, 0))) ∧ Hid (wr.heap[w.heap.size + 1]? = some (.cells #[.int .i64 0, .int .i64 0, .slice none 0 0, .bool false] 31 (0, 0))) ∧ Hid (Below w.heap.size w wr)) (fun _ vi _ => n - (intOf vi).toNat)
  case atStart => exact ⟨0, [], by omega, rfl, Lib.hid (by rw [List.take_zero]; exact TopB.nil _ _ _), HX1, HX2, HB2⟩
  case round =>
    clear HB2 HX1 HX2
    obtain ⟨k, us, hk, rfl, HP, HX1, HX2, HB2⟩ := hrel
    have hkl : (bs.take k).length = k := by rw [List.length_take, HN.out]; omega
    obtain ⟨Av, Cv, hv, _⟩ := HP.out.val
    rw [hkl] at hv
    subst hv
    have c2 : wr.cell? ⟨w.heap.size, 2, none⟩ = some (.slice A n C) := heap_cell HX1.out
    have hz0 : w.heap.size < wr.heap.size := heap_lt HX1.out
    have hz1 : w.heap.size + 1 < wr.heap.size := heap_lt HX2.out
    by_cases hlt : k < n
    · have kb : k < bs.length := by rw [HN.out]; exact hlt
      obtain ⟨b, off, A', C', rfl, _, hc, _, hA', hR'⟩ := (HR.out.old HB2.out).at_ kb
      have hs' := HSL.out bs[k] (List.getElem_mem kb)
      have htk : bs.take k ++ [bs[k]] = bs.take (k + 1) := List.take_append_getElem kb
      obtain ⟨s, hs⟩ : ∃ s, s = bs[k] := ⟨_, rfl⟩
      rw [← hs] at hc hA' hR' hs' htk
      obtain ⟨S, hS⟩ : ∃ S, S = s.length := ⟨_, rfl⟩
      rw [← hS] at hc hA' hs'
      have HA' := Lib.hid hA'
      have HR' := Lib.hid hR'
      have HS := Lib.hid hS
      have HTK := Lib.hid htk
      have HUL : Hid (us.length = k) := Lib.hid (by rw [HP.out.len, hkl])
      have HNE0 : Hid (∀ x, x = w.heap.size ∨ x = w.heap.size + 1 → some x ≠ (Value.slice Av k Cv).ownBlock) := Lib.hid fun x hx e => by
        obtain ⟨c, hc⟩ := own_blk HP.out.top x e.symm
        rcases hx with rfl | rfl
        · rw [HX1.out] at hc
          injection hc with hc
          injection hc with _ e2
          exact absurd e2 (by decide)
        · rw [HX2.out] at hc
          injection hc with hc
          injection hc with _ e2
          exact absurd e2 (by decide)
      clear hA' hR' hs hS htk hkl
      go_wp2_with (first
        | (at_builtin; refine wpList_append_bl _ rfl _ _ rfl wr.heap.size _ [] rfl (OwnL.nil wr _) A' S C' s _ rfl HS.out.symm HA'.out HR'.out (by simp; omega) (Nat.le_refl _) ?_; intro u wA hu hg; rw [List.nil_append] at hu; have hbA : Below wr.heap.size wr wA := ⟨hg.os, hg.tape, hg.output, hg.size, fun q hq => hg.block q hq (fun e => by cases e)⟩; obtain ⟨Au, Cu, rfl, _⟩ := hu.rd; have HU := Lib.hid hu; have HBA := Lib.hid hbA; have hzA := hbA.size; clear hu hg hbA)
        | (at_builtin; refine wpList_append_tp _ rfl _ _ rfl w.heap.size _ us rfl (HP.out.old (HBA.out.alloc HBA.out.size (.cells #[.slice Au s.length Cu] 34))).top (by rw [HUL.out]; omega) wA.heap.size 0 1 Au s.length Cu rfl (by simp) (by simp; omega) ?_; intro v' wB hv hg; have HV := Lib.hid hv; have HG := Lib.hid hg; clear hv hg))
      go_roundw
      case rel =>
        have hb' : Below wr.heap.size wr (wA.alloc (.cells #[.slice Au s.length Cu] 34)) := HBA.out.alloc HBA.out.size _
        have hp := HP.out.push hb' (OwnL.alloc (own_down HU.out (Nat.le_of_lt hz0)) _) HU.out.lo (fun q e => Nat.le_trans (Nat.le_of_lt hz0) (HU.out.lo q e)) HV.out HG.out
        rw [HTK.out] at hp
        refine ⟨k + 1, us ++ [.slice Au s.length Cu], by omega, by go_num, Lib.hid hp, Lib.hid ?_, Lib.hid ?_, Lib.hid ?_⟩
        · exact ((HG.out.block _ (Nat.lt_of_lt_of_le hz0 hb'.size) (HNE0.out _ (.inl rfl))).trans (hb'.block _ hz0)).trans HX1.out
        · exact ((HG.out.block _ (Nat.lt_of_lt_of_le hz1 hb'.size) (HNE0.out _ (.inr rfl))).trans (hb'.block _ hz1)).trans HX2.out
        · exact (HB2.out.trans (hb'.mono HB2.out.size)).grown HG.out (Nat.le_trans (Nat.le_of_lt hz0) hb'.size) (fun x hx => (HP.out.top.lt x hx).1)
      case measure => simp [intOf]; omega
    · obtain rfl : n = k := by omega
      have HTK : Hid (bs.take n = bs) := Lib.hid (List.take_of_length_le (by rw [HN.out]; exact Nat.le_refl _))
      have u0 : wr.cell? ⟨w.heap.size, 0, none⟩ = some (.int .i64 lab) := heap_cell HX1.out
      have u1 : wr.cell? ⟨w.heap.size, 1, none⟩ = some (.int .i64 cap) := heap_cell HX1.out
      have u3 : wr.cell? ⟨w.heap.size, 3, none⟩ = some (.bool lost) := heap_cell HX1.out
      have x2 : wr.frozen? ⟨w.heap.size, 2, none⟩ = false := heap_frozen HX1.out
      have v0 : wr.cell? ⟨w.heap.size + 1, 0, none⟩ = some (.int .i64 0) := heap_cell HX2.out
      have v1 : wr.cell? ⟨w.heap.size + 1, 1, none⟩ = some (.int .i64 0) := heap_cell HX2.out
      have v2 : wr.cell? ⟨w.heap.size + 1, 2, none⟩ = some (.slice none 0 0) := heap_cell HX2.out
      have v3 : wr.cell? ⟨w.heap.size + 1, 3, none⟩ = some (.bool false) := heap_cell HX2.out
      have y0 : wr.frozen? ⟨w.heap.size + 1, 0, none⟩ = false := heap_frozen HX2.out
      have y1 : wr.frozen? ⟨w.heap.size + 1, 1, none⟩ = false := heap_frozen HX2.out
      have y2 : wr.frozen? ⟨w.heap.size + 1, 2, none⟩ = false := heap_frozen HX2.out
      have y3 : wr.frozen? ⟨w.heap.size + 1, 3, none⟩ = false := heap_frozen HX2.out
      clear hkl
      go_wp2
      refine bodyPost_ret (v := .agg #[.int .i64 lab, .int .i64 cap, .slice Av n Cv, .bool lost]) (by simp [results, Tryz.results6, go_sem, v0, v1, v2, v3]) rfl ⟨Av, Cv, us, by rw [HN.out], ?_, ?_⟩
      · have hK : Kp (fun q => q = w.heap.size ∨ q = w.heap.size + 1) wr (((((wr.setCell ⟨w.heap.size, 2, none⟩ (.slice Av n Cv)).setCell ⟨w.heap.size + 1, 0, none⟩ (.int .i64 lab)).setCell ⟨w.heap.size + 1, 1, none⟩ (.int .i64 cap)).setCell ⟨w.heap.size + 1, 2, none⟩ (.slice Av n Cv)).setCell ⟨w.heap.size + 1, 3, none⟩ (.bool lost)) :=
          (((((Kp.refl _ wr).setCell (p := ⟨w.heap.size, 2, none⟩) (.inl rfl) _).setCell (p := ⟨w.heap.size + 1, 0, none⟩) (.inr rfl) _).setCell (p := ⟨w.heap.size + 1, 1, none⟩) (.inr rfl) _).setCell (p := ⟨w.heap.size + 1, 2, none⟩) (.inr rfl) _).setCell (p := ⟨w.heap.size + 1, 3, none⟩) (.inr rfl) _
        have hp := HP.out
        rw [HTK.out] at hp
        rw [HN.out]
        refine hp.kpT hK (fun q c hq hc => ?_) (fun q c hq hc => ?_)
        · rcases hq with rfl | rfl
          · rw [HX1.out] at hc; injection hc with hc; injection hc with _ e2; exact absurd e2 (by decide)
          · rw [HX2.out] at hc; injection hc with hc; injection hc with _ e2; exact absurd e2 (by decide)
        · rcases hq with rfl | rfl
          · rw [HX1.out] at hc; injection hc with hc; injection hc with _ e2; exact absurd e2 (by decide)
          · rw [HX2.out] at hc; injection hc with hc; injection hc with _ e2; exact absurd e2 (by decide)
      · exact ((((HB2.out.setCell (Nat.le_refl _) _).setCell (Nat.le_succ _) _).setCell (Nat.le_succ _) _).setCell (Nat.le_succ _) _).setCell (Nat.le_succ _) _
end Go.Proofs.YtcokmmanajdioaaGreat
namespace Go.Proofs.YtcokmmanajdioaaGreat
open Go.RowKit
open Pt (Tx)

set_option maxHeartbeats 1000000 in
theorem sameRowsW_yes (A : Option Addr) (C : Nat) (bs : List Tx) (G : Nat → Prop) (A' : Option Addr) (C' : Nat) (G' : Nat → Prop) (n : Nat) (w : World) (hn : bs.length = n) (hm : n ≤ 1000000) (h : RdW w A bs G) (h' : RdB w A' bs G') :
    Calls Tryz.prog 17 #[.slice A n C, .slice A' n C'] w (AnsB true w) := by
  have H := Lib.hid h
  have H' := Lib.hid h'
  have HN := Lib.hid hn
  clear h h' hn
  go_enter Tryz.func17, Tryz.ntmps17
  go_wp2
  go_loopw [5] (fun vi wr => ∃ i : Nat, i ≤ n ∧ vi = .int .i64 (i : Int) ∧ Hid (Below w.heap.size w wr)) (fun vi _ => n - (intOf vi).toNat)
  case atStart => exact ⟨0, by omega, rfl, Lib.hid (Below.refl _ _)⟩
  case round =>
    obtain ⟨i, hi, rfl, HB⟩ := hrel
    by_cases hlt : i < n
    · have hlt' : i < bs.length := by rw [HN.out]; exact hlt
      obtain ⟨b0, off0, Ai, Ci, rfl, _, d1, _, hr1⟩ := (H.out.old HB.out).at_ hlt'
      obtain ⟨b1, off1, Aj, Cj, rfl, _, d2, _, _, hr2⟩ := (H'.out.old HB.out).at_ hlt'
      have s1 := fun q => RdL.str (w := wr.drewN q) (hr1.keep fun _ _ _ h => h) Ci
      have s2 := fun q => RdL.str (w := wr.drewN q) (hr2.keep fun _ _ _ h => h) Cj
      clear hr1 hr2
      generalize bs[i] = s at *
      go_wp2
      go_quiet (fail)
      clear s1 s2 d1 d2
      go_wp2
      go_roundw
      case rel => exact ⟨i + 1, by omega, by go_num, Lib.hid ⟨HB.out.os, HB.out.tape, HB.out.output, HB.out.size, HB.out.block⟩⟩
      case measure => simp [intOf]; omega
    · go_wp2
      go_ret
      exact ⟨rfl, HB.out⟩
set_option maxHeartbeats 1000000 in
theorem sameTapeW_yes (lab cap : Int) (lost : Bool) (A : Option Addr) (C : Nat) (bs : List Tx) (G : Nat → Prop) (A' : Option Addr) (C' : Nat) (G' : Nat → Prop) (n : Nat) (w : World) (hn : bs.length = n) (hm : n ≤ 1000000) (h : RdW w A bs G) (h' : RdB w A' bs G') :
    Calls Tryz.prog 9 #[.agg #[.int .i64 lab, .int .i64 cap, .slice A n C, .bool lost], .agg #[.int .i64 lab, .int .i64 cap, .slice A' n C', .bool lost]] w (AnsB true w) := by
  have hB : Below w.heap.size w ((w.alloc (.cells #[.int .i64 lab, .int .i64 cap, .slice A n C, .bool lost] 31)).alloc (.cells #[.int .i64 lab, .int .i64 cap, .slice A' n C', .bool lost] 31)) := ((Below.refl _ _).alloc (Nat.le_refl _) _).alloc (by simp) _
  have H := Lib.hid (h.old hB)
  have H' := Lib.hid (h'.old hB)
  have HN := Lib.hid hn
  have HB := Lib.hid hB
  have q : (lost == lost) = true := by simp
  clear h h' hn hB
  go_enter Tryz.func9, Tryz.ntmps9
  go_wp2_with (go_at_call 17; refine (sameRowsW_yes A C bs G A' C' G' n _ HN.out hm H.out H'.out).mono ?_; rintro e w1 ⟨rfl, hb⟩; have HB1 := Lib.hid hb; clear hb)
  go_ret
  exact ⟨rfl, HB.out.trans (HB1.out.mono HB.out.size)⟩
end Go.Proofs.YtcokmmanajdioaaGreat
namespace Go.Proofs.YtcokmmanajdioaaGreat
open Go.RowKit
open Pt (Tx)

/-- one tape in a block of its own -/
theorem one_tape {w : World} {g : Nat} {lab cap : Int} {A : Option Addr} {bs : List Tx} {n C : Nat} {lost : Bool} (h : w.heap[g]? = some (tapeObj lab cap A n C lost)) (hn : n = bs.length) (hr : RdB w A bs (fun _ => True)) : RdT w (some ⟨g, 0, none⟩) [⟨lab, cap, bs, lost⟩] (fun _ => True) := fun _ => by
  subst hn
  refine ⟨g, 0, rfl, trivial, fun i hi => ?_⟩
  have h0 : i = 0 := by simpa using hi
  subst h0
  obtain ⟨t0, t1, t2, t3⟩ := tape4 h
  exact ⟨A, C, t0, t1, t2, t3, hr⟩
/-- one row in a block of its own -/
theorem one_row {w : World} {g : Nat} {A : Option Addr} {s : Tx} {n C : Nat} (h : w.heap[g]? = some (.cells #[.slice A n C] 34 (0, 0))) (hn : n = s.length) (hC : n ≤ C) (hA : A = none → n = 0 ∧ C = 0) (hr : RdL w A s (fun _ => True)) : RdB w (some ⟨g, 0, none⟩) [s] (fun _ => True) := fun _ => by
  subst hn
  refine ⟨g, 0, rfl, trivial, fun i hi => ?_⟩
  have h0 : i = 0 := by simpa using hi
  subst h0
  exact ⟨A, C, by rw [heap_cell h]; rfl, hC, hA, hr⟩
end Go.Proofs.YtcokmmanajdioaaGreat
namespace Go.Proofs.YtcokmmanajdioaaGreat
open Go.RowKit Mx
open Pt (Tx)

theorem num15 (n : Int) (w : World) : Calls Tryz.prog 8 #[.int .i64 n] w fun e w' => e = .returned (.int .i64 n) ∧ w = w' := by
  go_enter Tryz.func8, Tryz.ntmps8
  go_wp2
  go_ret
  exact ⟨rfl, rfl⟩
set_option maxRecDepth 100000 in
set_option maxHeartbeats 4000000 in
/-- a seal that is none: nothing is asked of the tapes -/
theorem query_zero (lab : Int) (w : World) : Calls Tryz.prog 14 #[.slice none 0 0, .agg #[.int .i64 0, .int .i64 0, .int .i64 0, .int .i64 0, .slice none 0 0], .int .i64 lab] w fun e w' => e = .returned (.tuple #[.agg #[.slice none 0 0, .int .i64 0, .int .i64 0, .int .i64 0], .int .i64 1]) ∧ Below w.heap.size w w' := by
  obtain ⟨w1, hw1⟩ : ∃ w1, w1 = w.alloc (sealObj 0 0 0 0 none 0 0) := ⟨_, rfl⟩
  obtain ⟨w2, hw2⟩ : ∃ w2, w2 = w1.alloc (queryObj (.slice none 0 0) (.int .i64 0) (.int .i64 0) (.int .i64 0)) := ⟨_, rfl⟩
  have hs1 : w1.heap.size = w.heap.size + 1 := by rw [hw1]; simp
  have b1 : Below w.heap.size w w1 := by rw [hw1]; exact (Below.refl _ _).alloc (Nat.le_refl _) _
  have b2 : Below w1.heap.size w1 w2 := by rw [hw2]; exact (Below.refl _ _).alloc (Nat.le_refl _) _
  have b12 : Below w.heap.size w w2 := b1.trans (b2.mono b1.size)
  have k1 : w2.heap[w.heap.size]? = some (sealObj 0 0 0 0 none 0 0) := below_obj b2 (by rw [hw1]; exact Go.Deep.blk_alloc_new _ _)
  have k2 : w2.heap[w.heap.size + 1]? = some (queryObj (.slice none 0 0) (.int .i64 0) (.int .i64 0) (.int .i64 0)) := by rw [hw2, ← hs1]; exact Go.Deep.blk_alloc_new _ _
  have hseal := rightSeal_any 0 0 0 0 none [] 0 0 (fun _ => True) w2 rfl (Nat.le_refl _) (by decide) (RdZ.empty _ _ _)
  rw [decide_eq_false (show ¬ Rc.SOk ⟨0, 0, 0, 0, []⟩ from fun h => absurd h.1.1.1 (by decide))] at hseal
  have HS := Lib.hid hseal
  have HB2 := Lib.hid b12
  have HK1 := Lib.hid k1
  have HK2 := Lib.hid k2
  have HW : Hid (w2 = (w.alloc (.cells #[.int .i64 0, .int .i64 0, .int .i64 0, .int .i64 0, .slice none 0 0] 26)).alloc (.cells #[.slice none 0 0, .int .i64 0, .int .i64 0, .int .i64 0] 52)) := Lib.hid (by rw [hw2, hw1]; rfl)
  obtain ⟨x0, x1, x2, x3, x4⟩ := seal5 HK1.out
  rw [HW.out] at x0 x1 x2 x3 x4
  clear hw1 hw2 hs1 b1 b2 b12 k1 k2 hseal
  go_enter Tryz.func14, Tryz.ntmps14
  go_wp2_with fail
  rw [← HW.out]
  refine HS.out.mono ?_
  rintro e w3 ⟨rfl, hb3⟩
  have HB3 := Lib.hid (HB2.out.trans (hb3.mono HB2.out.size))
  have HK32 := Lib.hid (below_obj hb3 HK2.out)
  clear x0 x1 x2 x3 x4 hb3
  obtain ⟨y0, y1, y2, y3⟩ := query4 HK32.out
  have f3 : ∀ j, w3.frozen? ⟨w.heap.size + 1, j, none⟩ = false := fun j => heap_frozen HK32.out
  go_wp2
  obtain ⟨z0, z1, z2, z3⟩ := query4 (query_set HK32.out (.slice none 0 0) (.int .i64 0) (.int .i64 0) (.int .i64 0))
  exact bodyPost_ret (v := .tuple #[.agg #[.slice none 0 0, .int .i64 0, .int .i64 0, .int .i64 0], .int .i64 1]) (by simp [results, Tryz.results14, go_sem, z0, z1, z2, z3]) rfl ⟨rfl, HB3.out.trans ((four_kp w3 (w.heap.size + 1) _ _ _ _).below HB3.out.size fun k hk => by omega)⟩
set_option maxRecDepth 100000 in
theorem block_zero (lab no : Int) (w : World) : Calls Tryz.prog 10 #[.slice none 0 0, .agg #[.int .i64 0, .int .i64 0, .int .i64 0, .int .i64 0, .slice none 0 0], .int .i64 lab, .int .i64 no] w fun e w' => e = .returned (.tuple #[.slice none 0 0, .int .i64 1]) ∧ Below w.heap.size w w' := by
  obtain ⟨w1, hw1⟩ : ∃ w1, w1 = w.alloc (sealObj 0 0 0 0 none 0 0) := ⟨_, rfl⟩
  have b1 : Below w.heap.size w w1 := by rw [hw1]; exact (Below.refl _ _).alloc (Nat.le_refl _) _
  have k1 : w1.heap[w.heap.size]? = some (sealObj 0 0 0 0 none 0 0) := by rw [hw1]; exact Go.Deep.blk_alloc_new _ _
  have HB1 := Lib.hid b1
  have HW1 := Lib.hid hw1
  obtain ⟨x0, x1, x2, x3, x4⟩ := seal5 k1
  rw [hw1] at x0 x1 x2 x3 x4
  unfold sealObj at x0 x1 x2 x3 x4 HW1
  clear hw1 b1 k1
  go_enter Tryz.func10, Tryz.ntmps10
  go_wp2_with fail
  rw [← HW1.out]
  refine (query_zero lab w1).mono ?_
  rintro e w2 ⟨rfl, hb2⟩
  have HB2 := Lib.hid (HB1.out.trans (hb2.mono HB1.out.size))
  clear hb2 x0 x1 x2 x3 x4
  go_wp2
  go_ret2
  exact ⟨rfl, HB2.out.alloc HB2.out.size _⟩
def exD15 : List St.T := [Ex.d 1 4]
def exB15 : List St.T := [⟨2, 4, [], false⟩]
theorem ex15_mk : Gr.mkE exD15 exB15 1 = 0 := Ex.mk_zero ⟨by decide, by decide⟩ (by decide) (by decide) (fun t ht => by rw [List.mem_singleton.1 ht]; exact ⟨rfl, rfl, by decide⟩) (by decide)
theorem ex15_seal : Rc.SOk (Gr.sealOf exD15 exB15 1 0) := Gr.chk_seal (Ex.chk_zero ⟨by decide, by decide⟩ (by decide) (by decide) (fun t ht => by rw [List.mem_singleton.1 ht]; exact ⟨rfl, rfl, by decide⟩) (by decide))
theorem ex15_fine : ∀ t ∈ exD15, Me.Fine t := fun t ht => by
  rw [List.mem_singleton.1 ht]
  refine ⟨rfl, fun n hn => ?_⟩
  have h0 : n = 0 := by have : n < 1 := hn; omega
  subst h0
  refine ⟨?_, Ex.b_len (by decide)⟩
  rw [Vo.good_at (t := Gr.vo (Ex.d 1 4)) (n := 0) (u := ⟨1, 1, 0, [68]⟩) rfl rfl (Ex.ok (by decide)) rfl rfl]; rfl
/-- the members: the one of data is not there -/
theorem ex15_members : Me.members (Gr.made exD15 exB15 1) [1, 2] = [⟨1, 0, [], true⟩, Gr.madeT exD15 exB15 1 0 exB15[0]] := by
  have e : Gr.made exD15 exB15 1 = [Gr.madeT exD15 exB15 1 0 exB15[0]] := rfl
  rw [e]
  have hl : (Gr.madeT exD15 exB15 1 0 exB15[0]).label = 2 := rfl
  generalize Gr.madeT exD15 exB15 1 0 exB15[0] = t at hl
  unfold Me.members Me.first
  simp [hl]
theorem ex15_subs : Me.Subs [⟨1, 0, [], true⟩, Gr.madeT exD15 exB15 1 0 exB15[0]] (Me.whole exD15 exB15 1) :=
  ⟨rfl, fun j hj hj' => by
    have hj2 : j < 2 := hj
    match j, hj2 with
    | 0, _ => exact Me.Sub.of_lost rfl rfl
    | 1, _ => exact Me.Sub.refl _⟩
theorem ex15_sealed : Gr.sealed (Gr.madeT exD15 exB15 1 0 exB15[0]) = some (Gr.sealOf exD15 exB15 1 1) := Gr.made_sealed ex15_seal (by decide) (i := 0) (by decide)
theorem rows15 {ms : List St.T} (hs : Me.Subs ms (Me.whole exD15 exB15 1)) (hx : ∃ t ∈ ms.drop 1, (Gr.sealed t).isSome = true) : Me.rows (ms.drop 1) = some 1 := by
  have e1 : exD15.length = 1 := rfl
  have e2 : St.len exD15 = 1 := rfl
  have h := Me.subs_rows hs
  rw [e1, e2] at h
  exact h hx
theorem ex15_rows : Me.rows (([⟨1, 0, [], true⟩, Gr.madeT exD15 exB15 1 0 exB15[0]] : List St.T).drop 1) = some 1 := by
  refine rows15 ex15_subs ⟨Gr.madeT exD15 exB15 1 0 exB15[0], ?_, ?_⟩
  · rw [List.drop_succ_cons, List.drop_zero]; exact List.mem_singleton_self _
  · rw [ex15_sealed]; rfl
theorem there15 {ms : List St.T} (hs : Me.Subs ms (Me.whole exD15 exB15 1)) (h0 : ∃ h : 0 < ms.length, ms[0].lost = true) (h1 : ms[1]? = (Me.whole exD15 exB15 1)[1]?) : Me.there_ ms 1 1 0 = 1 := by
  have key : ∀ x, x < 2 → (0 < (Me.have_ ms 1 0 x).length ↔ 1 ≤ x) := fun x hx => by
    have h3 : x = 0 ∨ x = 1 := by omega
    rcases h3 with rfl | rfl
    · obtain ⟨h, h0⟩ := h0
      rw [Me.have_lost h h0]
      simp
    · have e1 : Me.have_ ms 1 0 1 = Me.have_ (Me.whole exD15 exB15 1) exD15.length 0 1 := Me.have_same (n := 0) (j := 1) hs (by decide) h1
      have e2 := (Me.whole_row ex15_fine ex15_seal (by decide) (n := 0) (by decide) (j := 1) (by decide)).1
      rw [e1, e2]
      simp
  unfold Me.there_
  rw [Me.there_from (q := 1) 2 key]
theorem ex15_there : Me.there_ [⟨1, 0, [], true⟩, Gr.madeT exD15 exB15 1 0 exB15[0]] 1 1 0 = 1 := there15 ex15_subs ⟨by simp, rfl⟩ rfl
theorem ex15_row : lst (St.mat (St.row exD15 ((0 : Nat) : Int)) 0) 79 = Ex.b 1 := by
  have h1 := Me.encD_data (data := exD15) (p := 1) (n := 0) (x := 0) (by decide)
  have h2 : encD exD15.length 1 (St.mat (St.row exD15 ((0 : Nat) : Int))) 0 = St.mat (St.row exD15 ((0 : Nat) : Int)) 0 := rfl
  have e : St.blk ((0 : Nat) : Int) (Ex.d 1 4) = Ex.b 1 := St.blk_some (t := Ex.d 1 4) rfl (by show 0 < 1; omega) (Ex.b_len (by decide))
  rw [← h2, h1]
  show lst (rowL (St.blk ((0 : Nat) : Int) (Ex.d 1 4))) 79 = _
  rw [e]
  have hl := lst_rowL (Ex.b 1)
  rw [Ex.b_len (by decide)] at hl
  exact hl
end Go.Proofs.YtcokmmanajdioaaGreat
