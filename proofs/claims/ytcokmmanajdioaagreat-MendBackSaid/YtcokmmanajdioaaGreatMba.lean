/- Groups of one tape of one block: they are made, and each of their tapes tells of the group. No program. Groups of tapes whose blocks are all good: they are made; their members, how many rows are there, and which rows the parity members tell. No function of the program. The last three bits of a number. No function of the program. The tapes of data that the laws of chapter 15 lay: they are whole, and a group is made of them. No function of the program. Tapes in a row made by append, each tape's rows in blocks of their own. No function of the program. -/
import Derived.Test.YtcokmmanajdioaaGreatMaj
import Derived.Test.YtcokmmanajdioaaGreatMaq
import Derived.Test.YtcokmmanajdioaaGreatMaz
import Derived.Test.YtcokmmanajdioaaGreatMae
import Derived.Test.YtcokmmanajdioaaGreatMag
namespace Go.Proofs.YtcokmmanajdioaaGreat.Ex
open Pt (Tx)

/-- the block that such a tape has -/
def b (a : Int) : Tx := Fm.blk ⟨1, a, 0, [68]⟩
def d (a cap : Int) : St.T := ⟨a, cap, [b a], false⟩
theorem ok {a : Int} (h : 1 ≤ a ∧ a ≤ 2147483647) : Fm.Ok ⟨1, a, 0, [68]⟩ :=
  ⟨⟨(by decide : (1 : Int) ≤ 1), (by decide : (1 : Int) ≤ 6), h.1, h.2, (by decide : (0 : Int) ≤ 0), (by decide : (0 : Int) ≤ 2147483647)⟩, (by decide : ([68] : Tx).length ≤ Fm.room 1)⟩
theorem b_len {a : Int} (h : 1 ≤ a ∧ a ≤ 2147483647) : (b a).length = 79 := Fm.blk_len (ok h)
theorem good_d {a cap : Int} (h : 1 ≤ a ∧ a ≤ 2147483647) : goodB (d a cap) = true := by
  refine decide_eq_true fun n hn => ?_
  have h0 : n = 0 := by have : n < 1 := hn; omega
  subst h0
  rw [Vo.good_at (t := Gr.vo (d a cap)) (n := 0) (u := ⟨1, a, 0, [68]⟩) rfl rfl (ok h) rfl rfl]; rfl
theorem whole_d {a cap : Int} (h : 1 ≤ a ∧ a ≤ 2147483647) : St.Whole [d a cap] := by
  intro n hn t ht
  have h0 : n = 0 := by
    have : n < max 1 0 := hn
    omega
  subst h0
  rw [List.mem_singleton.1 ht]
  have e : St.blk ((0 : Nat) : Int) (d a cap) = b a := St.blk_some (t := d a cap) rfl (by show 0 < 1; omega) (b_len h)
  rw [e]
  intro e'
  have := b_len h
  rw [e'] at this; cases this
/-- blank tapes with room -/
def Blank (bl : List St.T) : Prop := ∀ t ∈ bl, t.blocks = [] ∧ t.lost = false ∧ 3 ≤ t.cap
theorem chk_zero {a cap : Int} {bl : List St.T} {n : Int} (hn : 1 ≤ n ∧ n ≤ 1073741824) (h0 : 1 ≤ bl.length) (hm : bl.length ≤ 13) (hb : Blank bl) (hl : Rc.Labs (a :: bl.map St.T.label)) : Gr.chk [d a cap] bl n = 0 := by
  have ha := hl.1 a List.mem_cons_self
  unfold Gr.chk
  rw [checkE_zero]
  refine ⟨decide_eq_true ⟨⟨hn, ?_, ?_, ?_, ?_, ?_, ?_⟩, hl⟩, rfl, ?_, rfl, ?_, ?_, ?_⟩
  · show (1 : Int) ≤ ((1 : Nat) : Int); omega
  · show (1 : Int) ≤ (bl.length : Int); omega
  · show ((1 : Nat) : Int) + (bl.length : Int) ≤ 14; omega
  · show (((a :: bl.map St.T.label).length : Nat) : Int) = ((1 : Nat) : Int) + (bl.length : Int)
    rw [List.length_cons, List.length_map]; omega
  · exact Int.natCast_nonneg _
  · show ((0 : Nat) : Int) < (((a :: bl.map St.T.label).length : Nat) : Int)
    rw [List.length_cons]; omega
  · rw [List.any_eq_false]
    intro t ht
    have := (hb t ht).2.1
    simp [lostB, this]
  · rw [List.all_eq_true]
    intro t ht
    rw [List.mem_singleton.1 ht]; exact good_d ha
  · rw [List.any_eq_false]
    intro t ht
    have := (hb t ht).1
    simp [hasB, this]
  · rw [List.any_eq_false]
    intro t ht
    have h3 := (hb t ht).2.2
    have e : St.len [d a cap] = 1 := rfl
    rw [e]
    simp [smallB]
    exact h3
theorem mk_zero {a cap : Int} {bl : List St.T} {n : Int} (hn : 1 ≤ n ∧ n ≤ 1073741824) (h0 : 1 ≤ bl.length) (hm : bl.length ≤ 13) (hb : Blank bl) (hl : Rc.Labs (a :: bl.map St.T.label)) : Gr.mkE [d a cap] bl n = 0 := by
  unfold Gr.mkE
  rw [if_neg (by rw [chk_zero hn h0 hm hb hl]; simp)]
  unfold St.err
  have ha := hl.1 a List.mem_cons_self
  exact if_pos ⟨⟨by show 1 ≤ 1; omega, Int.natCast_nonneg _, by show ((1 : Nat) : Int) + _ ≤ 255; omega⟩, whole_d ha⟩
end Go.Proofs.YtcokmmanajdioaaGreat.Ex
namespace Go.Proofs.YtcokmmanajdioaaGreat.Gr
open Pt (Tx)
/-- what is said, with its seal at the end -/
theorem framed_end (label : Int) (rows : List Tx) (s : Rc.S) : framedL label (says rows s) = framedL label ((1, [80]) :: rows.map (fun b => ((6 : Int), b))) ++ [Fm.blk ⟨5, label, ((rows.length + 1 : Nat) : Int), Rc.sput s⟩] := by
  unfold framedL says
  rw [List.mapIdx_append]
  simp
theorem madeT_len (data blank : List St.T) (number : Int) (i : Nat) (t : St.T) : (madeT data blank number i t).blocks.length = St.len data + 2 := by
  show (framedL _ _).length = _
  rw [framedL_len]; simp [says, rowsOf_len]
/-- each made tape ends with its seal -/
theorem made_sealed {data blank : List St.T} {number : Int} (h : Rc.SOk (sealOf data blank number 0)) (hlen : St.len data ≤ 1000000) {i : Nat} (hi : i < blank.length) : sealed (madeT data blank number i blank[i]) = some (sealOf data blank number (data.length + i)) := by
  have hs : Rc.SOk (sealOf data blank number (data.length + i)) := sealOk_index h (by omega)
  have hlab := seal_labels h (List.mem_append_right data (List.getElem_mem hi))
  refine sealed_some rfl hs (pre := framedL blank[i].label ((1, [80]) :: (rowsOf data blank.length i).map (fun b => ((6 : Int), b)))) ?_ hlab ?_
  · show framedL _ _ = _
    rw [framed_end, framedL_len, Rc.sput_ok hs]
    simp [madeT]
  · rw [framedL_len, List.length_cons, List.length_map, rowsOf_len]; omega
theorem seal_label {data blank : List St.T} {number : Int} {i : Nat} (hi : i < blank.length) : (sealOf data blank number (data.length + i)).labels.getD (sealOf data blank number (data.length + i)).index.toNat 0 = blank[i].label := by
  show ((data ++ blank).map St.T.label).getD (((data.length + i : Nat) : Int)).toNat 0 = _
  rw [Int.toNat_natCast, List.getD_eq_getElem?_getD, List.getElem?_map, List.getElem?_append_right (by omega), show data.length + i - data.length = i by omega, List.getElem?_eq_getElem hi]
  rfl
theorem made_cand {data blank : List St.T} {number : Int} (h : Rc.SOk (sealOf data blank number 0)) (hlen : St.len data ≤ 1000000) {i : Nat} (hi : i < blank.length) : cand (madeT data blank number i blank[i]) = some (sealOf data blank number (data.length + i)) :=
  cand_some (made_sealed h hlen hi) (seal_label hi)
end Go.Proofs.YtcokmmanajdioaaGreat.Gr
namespace Go.Proofs.YtcokmmanajdioaaGreat.Ex
open Pt (Tx)
/-- the data tape tells of none -/
theorem cand_d {a cap : Int} (h : 1 ≤ a ∧ a ≤ 2147483647) : Gr.cand (d a cap) = none :=
  Gr.cand_none (Gr.sealed_kind (t := d a cap) (Vo.good_at (t := Gr.vo (d a cap)) (n := 0) (u := ⟨1, a, 0, [68]⟩) rfl rfl (ok h) rfl rfl) (by show ¬ ((1 : Int) = 5); decide))
end Go.Proofs.YtcokmmanajdioaaGreat.Ex
namespace Go.Proofs.YtcokmmanajdioaaGreat.Me
open Go.RowKit Mx Go.Proofs.YtcokmmanajdioaaGreat
open Pt (Tx)

theorem fine_good {t : St.T} (h : Fine t) : goodB t = true := decide_eq_true fun n hn => (h.2 n hn).1
theorem chk_fine {data bl : List St.T} {n : Int} (hn : 1 ≤ n ∧ n ≤ 1073741824) (hd : 1 ≤ data.length) (h0 : 1 ≤ bl.length) (h14 : data.length + bl.length ≤ 14) (hf : ∀ t ∈ data, Fine t) (hlen : 0 < St.len data)
    (hb : ∀ t ∈ bl, t.blocks = [] ∧ t.lost = false ∧ (St.len data : Int) + 2 ≤ t.cap) (hl : Rc.Labs ((data ++ bl).map St.T.label)) : Gr.chk data bl n = 0 := by
  unfold Gr.chk
  rw [checkE_zero]
  refine ⟨decide_eq_true ⟨⟨hn, ?_, ?_, ?_, ?_, ?_, ?_⟩, hl⟩, ?_, ?_, ?_, ?_, ?_, ?_⟩
  · show (1 : Int) ≤ ((data.length : Nat) : Int); omega
  · show (1 : Int) ≤ (bl.length : Int); omega
  · show ((data.length : Nat) : Int) + (bl.length : Int) ≤ 14; omega
  · show ((((data ++ bl).map St.T.label).length : Nat) : Int) = ((data.length : Nat) : Int) + (bl.length : Int)
    rw [List.length_map, List.length_append]; omega
  · exact Int.natCast_nonneg _
  · show ((0 : Nat) : Int) < ((((data ++ bl).map St.T.label).length : Nat) : Int)
    rw [List.length_map, List.length_append]; omega
  · rw [List.any_eq_false]
    intro t ht
    simp [lostB, (hf t ht).1]
  · rw [List.any_eq_false]
    intro t ht
    simp [lostB, (hb t ht).2.1]
  · exact decide_eq_false (by omega)
  · rw [List.all_eq_true]
    intro t ht
    exact fine_good (hf t ht)
  · rw [List.any_eq_false]
    intro t ht
    simp [hasB, (hb t ht).1]
  · rw [List.any_eq_false]
    intro t ht
    have h3 := (hb t ht).2.2
    simp [smallB]
    exact h3
theorem mk_fine {data bl : List St.T} {n : Int} (hn : 1 ≤ n ∧ n ≤ 1073741824) (hd : 1 ≤ data.length) (h0 : 1 ≤ bl.length) (h14 : data.length + bl.length ≤ 14) (hf : ∀ t ∈ data, Fine t) (hlen : 0 < St.len data)
    (hb : ∀ t ∈ bl, t.blocks = [] ∧ t.lost = false ∧ (St.len data : Int) + 2 ≤ t.cap) (hl : Rc.Labs ((data ++ bl).map St.T.label)) : Gr.mkE data bl n = 0 := by
  unfold Gr.mkE
  rw [if_neg (by rw [chk_fine hn hd h0 h14 hf hlen hb hl]; simp)]
  unfold St.err
  refine if_pos ⟨⟨hd, Int.natCast_nonneg _, by omega⟩, fun k hk t ht e => ?_⟩
  have := blk_fine (hf t ht) k
  rw [e] at this
  cases this
/-- members under labels that are all unlike are the tapes themselves -/
theorem first_self {ts : List St.T} (h : (ts.map St.T.label).Nodup) {i : Nat} (hi : i < ts.length) : first ts ts[i].label = ts[i] := by
  refine (first_at hi (decide_eq_true rfl) fun j hj => decide_eq_false fun e => ?_).1
  have h1 := List.pairwise_iff_getElem.1 h j i (by simpa using (by omega : j < ts.length)) (by simpa using hi) hj
  rw [List.getElem_map, List.getElem_map] at h1
  exact h1 e
theorem members_self {ts : List St.T} (h : (ts.map St.T.label).Nodup) : members ts (ts.map St.T.label) = ts := by
  unfold members
  refine List.ext_getElem (by simp) fun i h1 h2 => ?_
  rw [List.getElem_map, List.getElem_map]
  exact first_self h h2
/-- how many rows are there -/
theorem there_from {L : Nat → Nat} {q : Nat} : ∀ k, (∀ x, x < k → (0 < L x ↔ q ≤ x)) → plsN (there L) k = k - q := by
  intro k
  rw [plsN_cnt]
  induction k with
  | zero => intro _; simp [cnt]
  | succ k ih =>
    intro h
    have h1 := ih fun x hx => h x (by omega)
    have h2 := h k (by omega)
    rw [cnt, h1]
    by_cases hq : q ≤ k
    · rw [if_pos (there_true.2 (h2.2 hq))]; omega
    · rw [if_neg (fun hh => hq (h2.1 (there_true.1 hh)))]; omega
theorem rows_some {ms : List St.T} {k : Nat} (hk : k < ms.length) (h : (Gr.sealed ms[k]).isSome = true) {m : Nat} (hl : ∀ t ∈ ms, t.blocks.length = m) (hm : 2 ≤ m) : rows ms = some (m - 2) := by
  induction ms generalizing k with
  | nil => simp at hk
  | cons t l ih =>
    rw [rows]
    by_cases ht : (Gr.sealed t).isSome = true
    · rw [if_pos ht, if_neg (by rw [hl t (List.mem_cons_self ..)]; omega), hl t (List.mem_cons_self ..)]
    · rw [if_neg ht]
      match k, hk, h with
      | 0, _, h => exact absurd h ht
      | k + 1, hk, h => exact ih (k := k) (by simpa using hk) h fun u hu => hl u (List.mem_cons_of_mem _ hu)
end Go.Proofs.YtcokmmanajdioaaGreat.Me
namespace Go.Proofs.YtcokmmanajdioaaGreat.Nm
open Go.RowKit Go.Proofs.YtcokmmanajdioaaGreat

theorem and7 (x : Int) : ∃ y : Nat, bits BinOp.and IntKind.i64 x 7 = (y : Int) ∧ y ≤ 7 := by
  have hx : (BitVec.ofInt 64 x &&& BitVec.ofInt 64 7).toNat ≤ 7 := by
    rw [BitVec.toNat_and]; exact Nat.and_le_right
  refine ⟨(BitVec.ofInt 64 x &&& BitVec.ofInt 64 7).toNat, ?_, hx⟩
  show IntKind.i64.wrap ((BitVec.ofInt 64 x &&& BitVec.ofInt 64 7).toNat : Int) = _
  rw [IntKind.wrap_i64]; omega
/-- the last three bits -/
noncomputable def lo (x : Int) : Nat := Classical.choose (and7 x)
theorem lo_eq (x : Int) : bits BinOp.and IntKind.i64 x 7 = (lo x : Int) := (Classical.choose_spec (and7 x)).1
theorem lo_le (x : Int) : lo x ≤ 7 := (Classical.choose_spec (and7 x)).2
end Go.Proofs.YtcokmmanajdioaaGreat.Nm
namespace Go.Proofs.YtcokmmanajdioaaGreat.Ld
open Go.RowKit Go.Proofs.YtcokmmanajdioaaGreat
open Pt (Tx)

def u (i k : Nat) : Fm.U := ⟨3, (i : Int) + 1, (k : Int), [UInt8.ofNat i, UInt8.ofNat k, 7]⟩
/-- block k of tape i -/
def b (i k : Nat) : Tx := Fm.blk (u i k)
def T (n i : Nat) : St.T := ⟨(i : Int) + 1, 20, (List.range n).map (b i), false⟩
noncomputable def num (z : Nat → Int) (i : Nat) : Nat := 1 + Nm.lo (z i)
noncomputable def data (z : Nat → Int) (d : Nat) : List St.T := (List.range d).map fun i => T (num z i) i
def blT (i : Nat) : St.T := ⟨100 + (i : Int), 20, [], false⟩
def bl (p : Nat) : List St.T := (List.range p).map blT
theorem ok {i k : Nat} (hi : i ≤ 8) (hk : k ≤ 8) : Fm.Ok (u i k) := ⟨⟨(by decide : (1 : Int) ≤ 3), (by decide : (3 : Int) ≤ 6), (by show (1 : Int) ≤ (i : Int) + 1; omega), (by show (i : Int) + 1 ≤ 2147483647; omega), Int.natCast_nonneg _, (by show (k : Int) ≤ _; omega)⟩, (by decide : 3 ≤ Fm.room 3)⟩
theorem b_len {i k : Nat} (hi : i ≤ 8) (hk : k ≤ 8) : (b i k).length = 79 := Fm.blk_len (ok hi hk)
theorem num_le (z : Nat → Int) (i : Nat) : 1 ≤ num z i ∧ num z i ≤ 8 := by
  have := Nm.lo_le (z i)
  unfold num; omega
theorem fine {n i : Nat} (hn : n ≤ 8) (hi : i ≤ 8) : Me.Fine (T n i) := by
  refine ⟨rfl, fun k hk => ?_⟩
  have hk' : k < n := by simpa [T] using hk
  have e : (T n i).blocks[k] = b i k := by simp [T]
  rw [e]
  refine ⟨?_, b_len hi (by omega)⟩
  rw [Vo.good_at (t := Gr.vo (T n i)) (n := k) (u := u i k) rfl (by
    show (T n i).blocks[k]? = _
    rw [List.getElem?_eq_getElem hk, e]; rfl) (ok hi (by omega)) rfl rfl]; rfl
theorem data_len (z : Nat → Int) (d : Nat) : (data z d).length = d := by simp [data]
theorem bl_len (p : Nat) : (bl p).length = p := by simp [bl]
theorem data_succ (z : Nat → Int) (d : Nat) : data z (d + 1) = data z d ++ [T (num z d) d] := by unfold data; rw [List.range_succ, List.map_append]; rfl
theorem bl_succ (p : Nat) : bl (p + 1) = bl p ++ [blT p] := by unfold bl; rw [List.range_succ, List.map_append]; rfl
theorem data_fine {z : Nat → Int} {d : Nat} (hd : d ≤ 6) : ∀ t ∈ data z d, Me.Fine t := fun t ht => by
  obtain ⟨i, hi, rfl⟩ := List.mem_map.1 ht
  have := List.mem_range.1 hi
  exact fine (num_le z i).2 (by omega)
theorem len_le {z : Nat → Int} {d : Nat} : St.len (data z d) ≤ 8 := St.len_le fun t ht => by
  obtain ⟨i, hi, rfl⟩ := List.mem_map.1 ht
  have := (num_le z i).2
  simpa [T] using this
theorem labels (z : Nat → Int) (d p : Nat) : (data z d ++ bl p).map St.T.label = (List.range d).map (fun i : Nat => (i : Int) + 1) ++ (List.range p).map (fun i : Nat => 100 + (i : Int)) := by
  unfold data bl
  rw [List.map_append, List.map_map, List.map_map]; rfl
theorem labs {z : Nat → Int} {d p : Nat} (hd : d ≤ 6) (hp : p ≤ 4) : Rc.Labs ((data z d ++ bl p).map St.T.label) := by
  rw [labels]
  refine ⟨fun x hx => ?_, ?_⟩
  · rcases List.mem_append.1 hx with h | h
    · obtain ⟨i, hi, rfl⟩ := List.mem_map.1 h
      have := List.mem_range.1 hi
      omega
    · obtain ⟨i, hi, rfl⟩ := List.mem_map.1 h
      have := List.mem_range.1 hi
      omega
  · rw [List.nodup_append]
    refine ⟨?_, ?_, ?_⟩
    · rw [List.nodup_iff_pairwise_ne, List.pairwise_map]
      exact List.Pairwise.imp (fun h => by omega) List.pairwise_lt_range
    · rw [List.nodup_iff_pairwise_ne, List.pairwise_map]
      exact List.Pairwise.imp (fun h => by omega) List.pairwise_lt_range
    · intro a ha c hc
      obtain ⟨i, hi, rfl⟩ := List.mem_map.1 ha
      obtain ⟨j, hj, rfl⟩ := List.mem_map.1 hc
      have := List.mem_range.1 hi
      omega
theorem len_pos {z : Nat → Int} {d : Nat} (hd : 1 ≤ d) : 0 < St.len (data z d) := by
  have hm : T (num z 0) 0 ∈ data z d := List.mem_map.2 ⟨0, List.mem_range.2 (by omega), rfl⟩
  have h := St.one_le_len hm
  have h2 : (T (num z 0) 0).blocks.length = num z 0 := by simp [T]
  have h3 := (num_le z 0).1
  have h4 : St.one (T (num z 0) 0) = (T (num z 0) 0).blocks.length := rfl
  omega
theorem mk {z : Nat → Int} {d p : Nat} (hd1 : 1 ≤ d) (hd : d ≤ 6) (hp1 : 1 ≤ p) (hp : p ≤ 4) : Gr.mkE (data z d) (bl p) 3 = 0 :=
  Me.mk_fine ⟨by decide, by decide⟩ (by rw [data_len]; exact hd1) (by rw [bl_len]; exact hp1) (by rw [data_len, bl_len]; omega) (data_fine hd) (len_pos hd1) (fun t ht => by
    obtain ⟨i, _, rfl⟩ := List.mem_map.1 ht
    have := len_le (z := z) (d := d)
    exact ⟨rfl, rfl, by show (_ : Int) + 2 ≤ 20; omega⟩) (labs hd hp)
end Go.Proofs.YtcokmmanajdioaaGreat.Ld
namespace Go.Proofs.YtcokmmanajdioaaGreat
open Go.RowKit
open Pt (Tx)

structure LdR (w : World) (v : Value) (ts : List St.T) (wr : World) : Prop where
  ex : ∃ tvs L, encT.Own wr w.heap.size 31 v tvs ∧ RowsT wr w.heap.size wr.heap.size tvs ts L
  bel : Below w.heap.size w wr
namespace LdR
variable {w wr w2 w3 : World} {v v' : Value} {ts : List St.T}
theorem start (w : World) : LdR w (.slice none 0 0) [] w := ⟨⟨[], _, Enc.Own.nil _ _ _, RowsT.nil _ _⟩, Below.refl _ _⟩
theorem old (h : LdR w v ts wr) (hb : Below wr.heap.size wr w2) : LdR w v ts w2 := by
  obtain ⟨tvs, L, h1, h2⟩ := h.ex
  exact ⟨⟨tvs, L, h1.old hb, (h2.kp (S := fun _ => False) (Kp.of_below hb) (fun _ _ hs => hs.elim) (fun _ _ hs => hs.elim)).up hb.size⟩, h.bel.trans (hb.mono h.bel.size)⟩
/-- one tape more -/
theorem next {tvs : List Tv} {L : Nat → Nat} {lab cap : Int} {A : Option Addr} {n C : Nat} {us : List Value} {bs : List Tx} {G : Nat → Prop} {o : Obj} (h : LdR w v ts wr)
    (hown : encT.Own wr w.heap.size 31 v tvs) (hrow : RowsT wr w.heap.size wr.heap.size tvs ts L) (hb : Below wr.heap.size wr w2) (hn : n = bs.length) (hT : TopB w2 wr.heap.size G (.slice A n C) us bs)
    (hg : (w2.alloc o).grownBy w3 v.ownBlock) (ho : encT.Own w3 w.heap.size 31 v' (tvs ++ [⟨lab, cap, A, n, C, false⟩])) : LdR w v' (ts ++ [⟨lab, cap, bs, false⟩]) w3 := by
  have hvb : ∀ k, v.ownBlock = some k → ∃ c, wr.heap[k]? = some (.cells c 31 (0, 0)) := hown.block
  have hsz : (w2.alloc o).heap.size = w2.heap.size + 1 := by simp
  have hone2 : OneT w2 wr.heap.size w2.heap.size ⟨lab, cap, A, n, C, false⟩ ⟨lab, cap, bs, false⟩ := by
    refine ⟨rfl, rfl, hn, rfl, ⟨us, ⟨hT.top, hT.len, hT.rows, fun i hi k e => ?_, hT.inj⟩⟩, fun k e => (hT.top.lt k e).2⟩
    have hr := hT.rows i hi (by rw [← hT.len]; exact hi)
    exact ⟨hr.lo k e, hr.lt k e⟩
  have hk2 : Kp (fun k => v.ownBlock = some k) w2 w3 := ⟨hg.os, hg.tape, hg.output, by have := hg.size; omega, fun k hk hs => by
    rw [hg.block k (by omega) fun e => hs e.symm]
    exact ((Below.refl w2.heap.size w2).alloc (Nat.le_refl _) o).block k hk⟩
  have hv2 : ∀ k, v.ownBlock = some k → ∃ c, w2.heap[k]? = some (.cells c 31 (0, 0)) := fun k e => by
    obtain ⟨c, hc⟩ := hvb k e
    exact ⟨c, (hb.block k (heap_lt hc)).trans hc⟩
  have hne1 : ∀ k c, v.ownBlock = some k → w2.heap[k]? ≠ some (.cells c 34 (0, 0)) := fun k c e hc => by
    obtain ⟨c', hc'⟩ := hv2 k e
    rw [hc'] at hc; injection hc with hc; injection hc with _ e2; exact absurd e2 (by decide)
  have hne2 : ∀ k c, v.ownBlock = some k → w2.heap[k]? ≠ some (.cells c 5 (0, 0)) := fun k c e hc => by
    obtain ⟨c', hc'⟩ := hv2 k e
    rw [hc'] at hc; injection hc with hc; injection hc with _ e2; exact absurd e2 (by decide)
  have hone := hone2.kp hk2 (fun k c e _ => hne1 k c e) (fun k c e _ => hne2 k c e)
  have hrow2 := (hrow.kp (S := fun _ => False) (Kp.of_below hb) (fun _ _ hs => hs.elim) (fun _ _ hs => hs.elim)).kp hk2 (fun k c e _ => hne1 k c e) (fun k c e _ => hne2 k c e)
  have hbel : Below w.heap.size w w3 := (h.bel.trans (hb.mono h.bel.size)).trans (hk2.below (Nat.le_trans h.bel.size hb.size) fun k e => (hown.lt k e).1)
  exact ⟨⟨_, _, ho, (hrow2.push hone hb.size).up (by have := hg.size; omega)⟩, hbel⟩
/-- as what reads -/
theorem rd (h : LdR w v ts wr) : ∃ A C, v = .slice A ts.length C ∧ RdT wr A ts (fun _ => True) := by
  obtain ⟨tvs, L, h1, h2⟩ := h.ex
  obtain ⟨A, C, hv, -, -, -, hr⟩ := h1.rd
  rw [h2.len] at hv
  exact ⟨A, C, hv, h2.rdT (hr.mono fun _ _ => trivial) fun _ _ => trivial⟩
end LdR
end Go.Proofs.YtcokmmanajdioaaGreat
