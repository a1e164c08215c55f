/- Tapes of a group of which some are lost, and blocks of some are not good: what is there of each row is of one Encode still. No function of the program. What blocks of package mend answers: all rows of a member up to the last one that has a byte that is not 0. What Block of package mend answers, where what is there of the row is of one Encode. -/
import Derived.Test.YtcokmmanajdioaaGreatMba
import Derived.Test.YtcokmmanajdioaaGreatMae
import Derived.Test.YtcokmmanajdioaaGreatMaz
import Derived.Test.YtcokmmanajdioaaGreatMaj
namespace Go.Proofs.YtcokmmanajdioaaGreat.Me
open Go.RowKit Mx Go.Proofs.YtcokmmanajdioaaGreat
open Pt (Tx)

/-- a tape that has lost some of what another has -/
def Sub (t t0 : St.T) : Prop := t.label = t0.label ∧ (t.lost = true ∨ (t.lost = t0.lost ∧ t.blocks.length = t0.blocks.length ∧ ∀ n, Vo.good (Gr.vo t) n = none ∨ t.blocks[n]? = t0.blocks[n]?))
theorem Sub.refl (t : St.T) : Sub t t := ⟨rfl, .inr ⟨rfl, rfl, fun _ => .inr rfl⟩⟩
theorem Sub.of_lost {t t0 : St.T} (h : t.lost = true) (hl : t.label = t0.label) : Sub t t0 := ⟨hl, .inl h⟩
theorem good_eq {t t0 : St.T} (hl : t.label = t0.label) (ho : t.lost = t0.lost) {n : Nat} (hb : t.blocks[n]? = t0.blocks[n]?) : Vo.good (Gr.vo t) n = Vo.good (Gr.vo t0) n := by
  unfold Vo.good Gr.vo
  simp only [hl, ho, hb]
theorem good_lost {t : St.T} (h : t.lost = true) (n : Nat) : Vo.good (Gr.vo t) n = none := Vo.good_lost (t := Gr.vo t) h n
theorem Sub.good {t t0 : St.T} (h : Sub t t0) (n : Nat) : Vo.good (Gr.vo t) n = none ∨ (Vo.good (Gr.vo t) n = Vo.good (Gr.vo t0) n ∧ t.lost = t0.lost ∧ t.blocks.length = t0.blocks.length ∧ t.blocks[n]? = t0.blocks[n]?) := by
  rcases h.2 with h1 | ⟨h1, h2, h3⟩
  · exact .inl (good_lost h1 n)
  · rcases h3 n with h4 | h4
    · exact .inl h4
    · exact .inr ⟨good_eq h.1 h1 h4, h1, h2, h4⟩
theorem dataRow_sub {t t0 : St.T} (h : Sub t t0) (n : Nat) : dataRow t n = [] ∨ dataRow t n = dataRow t0 n := by
  rcases h.2 with h1 | ⟨h1, h2, h3⟩
  · exact .inl (dataRow_lost h1 n)
  · by_cases hn : t.blocks.length ≤ n
    · right
      by_cases hl : t0.lost = false
      · unfold dataRow
        rw [if_pos ⟨h1.trans hl, hn⟩, if_pos ⟨hl, by omega⟩]
      · have e : t0.lost = true := by simpa using hl
        rw [dataRow_lost (h1.trans e), dataRow_lost e]
    · rcases h3 n with h4 | h4
      · left
        unfold dataRow
        rw [if_neg (fun hh => hn hh.2), h4, if_neg (fun hh => by simp at hh)]
      · right
        have e : t.blocks.getD n [] = t0.blocks.getD n [] := by rw [List.getD_eq_getElem?_getD, List.getD_eq_getElem?_getD, h4]
        unfold dataRow
        rw [h1, h2, good_eq h.1 h1 h4, e]
theorem parityRow_sub {t t0 : St.T} (h : Sub t t0) (n : Nat) : parityRow t n = [] ∨ parityRow t n = parityRow t0 n := by
  unfold parityRow
  rcases h.good (n + 1) with h1 | ⟨h1, _⟩
  · left; rw [h1]; rfl
  · right; rw [h1]
theorem sealed_sub {t t0 : St.T} (h : Sub t t0) : Gr.sealed t = none ∨ (Gr.sealed t = Gr.sealed t0 ∧ t.blocks.length = t0.blocks.length) := by
  unfold Gr.sealed
  rcases h.good (t.blocks.length - 1) with h1 | ⟨h1, _, h2, _⟩
  · left; rw [h1]
  · right; rw [h1, h2]; exact ⟨rfl, rfl⟩
/-- the tapes of a group that was made -/
def whole (data bl : List St.T) (number : Int) : List St.T := data ++ Gr.made data bl number
theorem whole_len {data bl : List St.T} {number : Int} : (whole data bl number).length = data.length + bl.length := by unfold whole; rw [List.length_append, Gr.made_len]
theorem whole_data {data bl : List St.T} {number : Int} {j : Nat} (hj : j < data.length) : (whole data bl number)[j]? = some data[j] := by
  unfold whole; rw [List.getElem?_append_left hj, List.getElem?_eq_getElem hj]
theorem whole_par {data bl : List St.T} {number : Int} {i : Nat} (hi : i < bl.length) : (whole data bl number)[data.length + i]? = some (Gr.madeT data bl number i bl[i]) := by
  unfold whole; rw [List.getElem?_append_right (by omega), Nat.add_sub_cancel_left, List.getElem?_eq_getElem (by rw [Gr.made_len]; exact hi), Gr.made_at hi]
theorem whole_labels {data bl : List St.T} {number : Int} : (whole data bl number).map St.T.label = (data ++ bl).map St.T.label := by
  unfold whole
  rw [List.map_append, List.map_append]
  congr 1
  refine List.ext_getElem (by rw [List.length_map, List.length_map, Gr.made_len]) fun i h1 h2 => ?_
  have hi : i < bl.length := by simpa using h2
  rw [List.getElem_map, List.getElem_map, Gr.made_at hi]; rfl
/-- each tape has lost some of what the group's has -/
def Subs (ts ts0 : List St.T) : Prop := ts.length = ts0.length ∧ ∀ j (h : j < ts.length) (h0 : j < ts0.length), Sub ts[j] ts0[j]
theorem Subs.labels {ts ts0 : List St.T} (h : Subs ts ts0) : ts.map St.T.label = ts0.map St.T.label :=
  List.ext_getElem (by rw [List.length_map, List.length_map, h.1]) fun i h1 h2 => by
    rw [List.getElem_map, List.getElem_map]
    exact (h.2 i (by simpa using h1) (by simpa using h2)).1
theorem Subs.refl (ts : List St.T) : Subs ts ts := ⟨rfl, fun _ _ _ => Sub.refl _⟩
theorem have_at {ts : List St.T} {d n j : Nat} (h : j < ts.length) : have_ ts d n j = if j < d then dataRow ts[j] n else parityRow ts[j] n := by
  unfold have_
  rw [List.getD_eq_getElem?_getD, List.getElem?_eq_getElem h]; rfl
theorem have_lost {ts : List St.T} {d n j : Nat} (h : j < ts.length) (hl : ts[j].lost = true) : have_ ts d n j = [] := by
  rw [have_at h]
  split
  · exact dataRow_lost hl n
  · exact parityRow_lost hl n
section
variable {data bl : List St.T} {number : Int} {ts : List St.T}
/-- a row of a tape that has lost nothing -/
theorem whole_row (hf : ∀ t ∈ data, Fine t) (hs : Rc.SOk (Gr.sealOf data bl number 0)) (hlen : St.len data ≤ 1000000) {n : Nat} (hn : n < St.len data) {j : Nat} (hj : j < data.length + bl.length) :
    (have_ (whole data bl number) data.length n j).length = 79 ∧ ∀ c, c < 79 → rowL (have_ (whole data bl number) data.length n j) c = encD data.length bl.length (St.mat (St.row data (n : Int))) j c := by
  have hjw : j < (whole data bl number).length := by rw [whole_len]; exact hj
  rw [have_at hjw]
  by_cases h : j < data.length
  · have e : (whole data bl number)[j] = data[j] := by
      have := whole_data (data := data) (bl := bl) (number := number) h
      rw [List.getElem?_eq_getElem hjw] at this
      exact Option.some.inj this
    rw [if_pos h, e, dataRow_fine (hf _ (List.getElem_mem h))]
    exact ⟨blk_fine (hf _ (List.getElem_mem h)) n, fun c _ => by rw [encD_data h]⟩
  · obtain ⟨i, rfl⟩ : ∃ i, j = data.length + i := ⟨j - data.length, by omega⟩
    have hi : i < bl.length := by omega
    have e : (whole data bl number)[data.length + i] = Gr.madeT data bl number i bl[i] := by
      have := whole_par (data := data) (bl := bl) (number := number) hi
      rw [List.getElem?_eq_getElem hjw] at this
      exact Option.some.inj this
    rw [if_neg h, e, parityRow_made hs hlen hi hn]
    exact ⟨lst_len _ _, fun c hc => by rw [encD_par, rowL_lst hc]⟩
theorem have_sub (h : Subs ts (whole data bl number)) {n j : Nat} (hj : j < data.length + bl.length) : have_ ts data.length n j = [] ∨ have_ ts data.length n j = have_ (whole data bl number) data.length n j := by
  have hjw : j < (whole data bl number).length := by rw [whole_len]; exact hj
  have hjt : j < ts.length := by rw [h.1]; exact hjw
  rw [have_at hjt, have_at hjw]
  have hs := h.2 j hjt hjw
  split
  · exact dataRow_sub hs n
  · exact parityRow_sub hs n
theorem have_same (h : Subs ts (whole data bl number)) {n j : Nat} (hj : j < data.length + bl.length) (he : ts[j]? = (whole data bl number)[j]?) : have_ ts data.length n j = have_ (whole data bl number) data.length n j := by
  have hjw : j < (whole data bl number).length := by rw [whole_len]; exact hj
  have hjt : j < ts.length := by rw [h.1]; exact hjw
  rw [List.getElem?_eq_getElem hjt, List.getElem?_eq_getElem hjw] at he
  rw [have_at hjt, have_at hjw, Option.some.inj he]
/-- what is there is of one Encode -/
theorem subs_code (hf : ∀ t ∈ data, Fine t) (hs : Rc.SOk (Gr.sealOf data bl number 0)) (hlen : St.len data ≤ 1000000) (h : Subs ts (whole data bl number)) {n : Nat} (hn : n < St.len data) {j : Nat} (hj : j < data.length + bl.length) (h0 : 0 < (have_ ts data.length n j).length) {c : Nat} (hc : c < 79) :
    rowL (have_ ts data.length n j) c = encD data.length bl.length (St.mat (St.row data (n : Int))) j c := by
  rcases have_sub h (n := n) hj with e | e
  · rw [e] at h0; simp at h0
  · rw [e]; exact (whole_row hf hs hlen hn hj).2 c hc
theorem rows_of {m : Nat} (hm : 2 ≤ m) : ∀ {ms : List St.T} (_ : ∀ t ∈ ms, (Gr.sealed t).isSome = true → t.blocks.length = m) (_ : ∃ t ∈ ms, (Gr.sealed t).isSome = true), rows ms = some (m - 2)
  | [], _, ⟨t, ht, _⟩ => by cases ht
  | t :: l, hl, ⟨u, hu, hsu⟩ => by
    rw [rows]
    by_cases ht : (Gr.sealed t).isSome = true
    · rw [if_pos ht, hl t List.mem_cons_self ht, if_neg (by omega)]
    · rw [if_neg ht]
      refine rows_of hm (fun v hv => hl v (List.mem_cons_of_mem _ hv)) ⟨u, ?_, hsu⟩
      rcases List.mem_cons.1 hu with e | e
      · rw [e] at hsu; exact absurd hsu ht
      · exact e
theorem rows_not {ms : List St.T} (h : ∀ t ∈ ms, Gr.sealed t = none) : rows ms = none := by
  induction ms with
  | nil => rfl
  | cons t l ih =>
    rw [rows, if_neg (by rw [h t List.mem_cons_self]; decide)]
    exact ih fun u hu => h u (List.mem_cons_of_mem _ hu)
/-- a parity tape of the group -/
theorem drop_par (h : Subs ts (whole data bl number)) {t : St.T} (ht : t ∈ ts.drop data.length) : ∃ i, ∃ hi : i < bl.length, ∃ hj : data.length + i < ts.length, t = ts[data.length + i] ∧ Sub t (Gr.madeT data bl number i bl[i]) := by
  obtain ⟨i, hi, rfl⟩ := List.mem_iff_getElem.1 ht
  have hl := h.1
  rw [whole_len] at hl
  rw [List.length_drop] at hi
  have hib : i < bl.length := by omega
  have hj : data.length + i < ts.length := by omega
  have hjw : data.length + i < (whole data bl number).length := by rw [whole_len]; omega
  refine ⟨i, hib, hj, List.getElem_drop, ?_⟩
  have e : (whole data bl number)[data.length + i] = Gr.madeT data bl number i bl[i] := by
    have := whole_par (data := data) (bl := bl) (number := number) hib
    rw [List.getElem?_eq_getElem hjw] at this
    exact Option.some.inj this
  rw [List.getElem_drop, ← e]
  exact h.2 _ hj hjw
theorem subs_rows (h : Subs ts (whole data bl number)) (hx : ∃ t ∈ ts.drop data.length, (Gr.sealed t).isSome = true) : rows (ts.drop data.length) = some (St.len data) := by
  have := rows_of (m := St.len data + 2) (by omega) (ms := ts.drop data.length) (fun t ht hst => by
    obtain ⟨i, hi, hj, -, hsub⟩ := drop_par h ht
    rcases sealed_sub hsub with e | ⟨-, e⟩
    · rw [e] at hst; cases hst
    · rw [e, Gr.madeT_len]) hx
  rw [this]
  congr 1
theorem subs_members (h : Subs ts (whole data bl number)) (hl : ((data ++ bl).map St.T.label).Nodup) : members ts ((data ++ bl).map St.T.label) = ts := by
  have e : ts.map St.T.label = (data ++ bl).map St.T.label := h.labels.trans whole_labels
  rw [← e]
  exact members_self (by rw [e]; exact hl)
end
/-- some of the tapes, one behind the other, are hurt -/
def hurtN (f : St.T → St.T) (a i : Nat) (ts : List St.T) : List St.T := ts.mapIdx fun j t => if a ≤ j ∧ j < i then f t else t
theorem hurtN_len (f : St.T → St.T) (a i : Nat) (ts : List St.T) : (hurtN f a i ts).length = ts.length := by unfold hurtN; rw [List.length_mapIdx]
theorem hurtN_at (f : St.T → St.T) (a i : Nat) (ts : List St.T) {j : Nat} (h : j < ts.length) : (hurtN f a i ts)[j]? = some (if a ≤ j ∧ j < i then f ts[j] else ts[j]) := by
  unfold hurtN
  rw [List.getElem?_mapIdx, List.getElem?_eq_getElem h]; rfl
theorem hurtN_start (f : St.T → St.T) (a : Nat) (ts : List St.T) : hurtN f a a ts = ts := by
  refine List.ext_getElem? fun j => ?_
  by_cases h : j < ts.length
  · rw [hurtN_at f a a ts h, if_neg (by omega), List.getElem?_eq_getElem h]
  · rw [List.getElem?_eq_none (by rw [hurtN_len]; omega), List.getElem?_eq_none (by omega)]
theorem hurtN_set (f : St.T → St.T) {a i : Nat} {ts : List St.T} (ha : a ≤ i) (h : i < ts.length) : (hurtN f a i ts).set i (f ts[i]) = hurtN f a (i + 1) ts := by
  refine List.ext_getElem? fun j => ?_
  by_cases hj : j < ts.length
  · rw [hurtN_at f a (i + 1) ts hj]
    by_cases e : i = j
    · subst e
      rw [List.getElem?_set_self (by rw [hurtN_len]; exact h), if_pos (by omega)]
    · rw [List.getElem?_set_ne e, hurtN_at f a i ts hj]
      by_cases h2 : a ≤ j ∧ j < i
      · rw [if_pos h2, if_pos (by omega)]
      · rw [if_neg h2, if_neg (by omega)]
  · rw [List.getElem?_eq_none (by rw [List.length_set, hurtN_len]; omega), List.getElem?_eq_none (by rw [hurtN_len]; omega)]
theorem hurtN_same (f : St.T → St.T) {a i : Nat} {ts : List St.T} (h : i < ts.length) (h' : i < (hurtN f a i ts).length) : (hurtN f a i ts)[i] = ts[i] := by
  have := hurtN_at f a i ts h
  rw [List.getElem?_eq_getElem h', if_neg (by omega)] at this
  exact Option.some.inj this
theorem hurtN_subs {f : St.T → St.T} {a i : Nat} {ts : List St.T} (h : ∀ j (hj : j < ts.length), a ≤ j → Sub (f ts[j]) ts[j]) : Subs (hurtN f a i ts) ts :=
  ⟨hurtN_len _ _ _ _, fun j hj hj' => by
    have := hurtN_at f a i ts hj'
    rw [List.getElem?_eq_getElem hj] at this
    rw [Option.some.inj this]
    split
    · rename_i hh
      exact h j hj' hh.1
    · exact Sub.refl _⟩
/-- a tape that is lost -/
def gone (t : St.T) : St.T := ⟨t.label, t.cap, t.blocks, true⟩
/-- a tape of whose last block one bit is turned -/
def turn (t : St.T) : St.T := ⟨t.label, t.cap, t.blocks.set (t.blocks.length - 1) ((t.blocks.getD (t.blocks.length - 1) []).set 15 (byF (feB ((t.blocks.getD (t.blocks.length - 1) []).getD 15 0) + feB 1))), t.lost⟩
end Go.Proofs.YtcokmmanajdioaaGreat.Me
namespace Go.Proofs.YtcokmmanajdioaaGreat
open Go.RowKit Mx
open Pt (Tx)

namespace Me
def nz (s : Tx) : Bool := s.any fun c => decide (c ≠ 0)
/-- behind the last row that has a byte that is not 0 -/
def end_ (r : Nat → Tx) : Nat → Nat
  | 0 => 0
  | n + 1 => if nz (r n) = true then n + 1 else end_ r n
theorem end_le (r : Nat → Tx) : ∀ n, end_ r n ≤ n
  | 0 => Nat.le_refl _
  | n + 1 => by
    rw [end_]
    split
    · exact Nat.le_refl _
    · exact Nat.le_trans (end_le r n) (Nat.le_succ n)
end Me
theorem HaveI.rdW {g n : Nat} {bs : Nat → Tx} {wr : World} (h : HaveI g n bs n wr) (h79 : ∀ i, (bs i).length = 79) {m : Nat} (hm : m ≤ n) : RdW wr (some ⟨g, 0, none⟩) ((List.range m).map bs) (fun _ => True) := fun _ => by
  obtain ⟨V, hV, hr⟩ := h.row
  refine ⟨g, 0, rfl, trivial, fun i hi => ?_⟩
  rw [List.length_map, List.length_range] at hi
  obtain ⟨A, C, h1, h2⟩ := hr i (by omega)
  simp only [List.getElem_map, List.getElem_range]
  refine ⟨A, C, by rw [Nat.zero_add, hV.cell (by omega), h1], fun e => ?_, h2.mono fun _ _ => trivial⟩
  obtain ⟨b, off, e', _⟩ := h2 (by rw [h79]; omega)
  rw [e] at e'; cases e'
set_option maxRecDepth 100000 in
theorem notZero_any (c : UInt8) (w : World) : Calls Tryz.prog 33 #[.int .u8 (c.toNat : Int)] w fun e w' => e = .returned (.bool (decide (c ≠ 0))) ∧ w = w' := by
  have h : ((c.toNat : Int) != 0) = decide (c ≠ 0) := by
    rw [Bool.eq_iff_iff, bne_iff_ne, decide_eq_true_iff]
    exact not_congr ⟨fun h => UInt8.toNat_inj.1 (by rw [UInt8.toNat_zero]; omega), fun h => by rw [h]; rfl⟩
  generalize (c.toNat : Int) = v at h ⊢
  generalize decide (c ≠ 0) = d at h ⊢
  have H := Lib.hid h
  clear h
  go_enter Tryz.func33, Tryz.ntmps33
  go_wp2
  go_ret
  exact ⟨by rw [← H.out]; rfl, rfl⟩
set_option maxRecDepth 100000 in
set_option maxHeartbeats 2000000 in
theorem notZero_index (A : Option Addr) (s : Tx) (n C : Nat) (G : Nat → Prop) (w : World) (hnl : n = s.length) (hn : n ≤ 1000000) (hr : RdL w A s G) :
    Calls Tryz.prog 50 #[.slice A n C, .func (.func 33) #[] #[]] w fun e w' => ∃ z : Int, e = .returned (.int .i64 z) ∧ decide (0 ≤ z) = Me.nz s ∧ w = w' := by
  have HR := Lib.hid hr
  have HNL := Lib.hid hnl
  clear hr hnl
  go_enter Tryz.func50, Tryz.ntmps50
  go_wp2
  go_loop [8] (fun vi => ∃ k : Nat, k ≤ n ∧ vi = .int .i64 (k : Int) ∧ Hid ((s.take k).any (fun c => decide (c ≠ 0)) = false)) (fun vi => n - (intOf vi).toNat)
  case atStart => exact ⟨0, Nat.zero_le _, rfl, Lib.hid rfl⟩
  case round =>
    obtain ⟨k, hk, rfl, HN⟩ := hrel
    by_cases hlt : k < n
    · have e0 : decide (k < n) = true := decide_eq_true hlt
      have hlt' : k < s.length := by rw [← HNL.out]; exact hlt
      obtain ⟨b, off, rfl, -, hc⟩ := HR.out (by omega)
      have c0 := hc k hlt'
      have HT : Hid ((s.take (k + 1)).any (fun c => decide (c ≠ 0)) = ((s.take k).any (fun c => decide (c ≠ 0)) || decide (s[k] ≠ 0))) := Lib.hid (by rw [List.take_succ_eq_append_getElem hlt', List.any_append]; simp)
      have HA : Hid (decide (s[k] ≠ 0) = true → Me.nz s = true) := Lib.hid fun h => List.any_eq_true.2 ⟨_, List.getElem_mem hlt', h⟩
      have hcall := notZero_any s[k] w
      obtain ⟨d, hd⟩ : ∃ d, d = decide (s[k] ≠ 0) := ⟨_, rfl⟩
      rw [← hd] at HT HA hcall
      obtain ⟨v, hv⟩ : ∃ v : Int, v = (s[k].toNat : Int) := ⟨_, rfl⟩
      rw [← hv] at c0 hcall
      have HC := Lib.hid hcall
      clear hcall hd hv hc
      cases d with
      | true =>
        have HF := Lib.hid (HA.out rfl)
        go_wp2_with (go_at_call 33; refine HC.out.mono ?_; rintro e w1 ⟨rfl, hw⟩; subst hw)
        go_ret
        exact ⟨(k : Int), rfl, by rw [HF.out]; exact decide_eq_true (by omega), rfl⟩
      | false =>
        have HF : Hid ((s.take (k + 1)).any (fun c => decide (c ≠ 0)) = false) := Lib.hid (by rw [HT.out, HN.out]; rfl)
        go_wp2_with (go_at_call 33; refine HC.out.mono ?_; rintro e w1 ⟨rfl, hw⟩; subst hw)
        go_round
        case rel => exact ⟨k + 1, by omega, by go_num, HF⟩
        case measure => simp [intOf]; omega
    · have e0 : decide (k < n) = false := decide_eq_false hlt
      have HF : Hid (Me.nz s = false) := Lib.hid (by have h := HN.out; rwa [List.take_of_length_le (by rw [← HNL.out]; omega)] at h)
      go_wp2
      go_ret
      exact ⟨-1, rfl, by rw [HF.out]; rfl, rfl⟩
set_option maxRecDepth 100000 in
theorem notZero_contains (A : Option Addr) (s : Tx) (n C : Nat) (G : Nat → Prop) (w : World) (hnl : n = s.length) (hn : n ≤ 1000000) (hr : RdL w A s G) :
    Calls Tryz.prog 32 #[.slice A n C, .func (.func 33) #[] #[]] w fun e w' => e = .returned (.bool (Me.nz s)) ∧ w = w' := by
  have HC := Lib.hid (notZero_index A s n C G w hnl hn hr)
  clear hr hnl
  go_enter Tryz.func32, Tryz.ntmps32
  go_wp2_with fail
  refine HC.out.mono ?_
  rintro e w' ⟨z, rfl, hz, hw⟩
  subst hw
  have HZ := Lib.hid hz
  clear hz
  go_wp2
  go_ret
  exact ⟨by rw [← HZ.out]; rfl, rfl⟩
/-- rows are answered -/
def BlocksQ (r : Nat → Tx) (n R : Nat) (w : World) (e : Ending) (w' : World) : Prop :=
  Below w.heap.size w w' ∧ ∃ g, e = .returned (.tuple #[.slice (some ⟨g, 0, none⟩) n R, .int .i64 0]) ∧ RdW w' (some ⟨g, 0, none⟩) ((List.range n).map r) (fun _ => True)
set_option maxRecDepth 100000 in
set_option maxHeartbeats 4000000 in
theorem blocks_all (Am : Option Addr) (ms : List St.T) (k Cm : Nat) (d p x R : Nat) (Dn : Nat → Mx.Mat) (G : Nat → Prop) (w : World) (hk : k = ms.length) (hkd : k = d + p) (hd : 1 ≤ d) (hx : x < d) (hk14 : k ≤ 14) (hR : R ≤ 1000000)
    (hl : ∀ t ∈ ms, t.blocks.length ≤ 1000000 ∧ ∀ s ∈ t.blocks, s.length ≤ 1000000) (hr : RdT w Am ms G)
    (hD : ∀ n, n < R → ∀ j, j < d + p → 0 < (Me.have_ ms d n j).length → ∀ c, c < 79 → rowL (Me.have_ ms d n j) c = encD d p (Dn n) j c) (hmany : ∀ n, n < R → d ≤ Me.there_ ms d p n) :
    Calls Tryz.prog 15 #[.agg #[.slice Am k Cm, .int .i64 (d : Int), .int .i64 (R : Int), .int .i64 (x : Int)]] w (BlocksQ (fun n => lst (Dn n x) 79) (Me.end_ (fun n => lst (Dn n x) 79) R) R w) := by
  obtain ⟨w1, hw1⟩ : ∃ w1, w1 = w.alloc (queryObj (.slice Am k Cm) (.int .i64 (d : Int)) (.int .i64 (R : Int)) (.int .i64 (x : Int))) := ⟨_, rfl⟩
  obtain ⟨w2, hw2⟩ : ∃ w2, w2 = w1.alloc (.cells (madeCells #[.slice none 0 0] R) 34) := ⟨_, rfl⟩
  have hs1 : w1.heap.size = w.heap.size + 1 := by rw [hw1]; simp
  have b1 : Below w.heap.size w w1 := by rw [hw1]; exact (Below.refl _ _).alloc (Nat.le_refl _) _
  have k1 : w1.heap[w.heap.size]? = some (queryObj (.slice Am k Cm) (.int .i64 (d : Int)) (.int .i64 (R : Int)) (.int .i64 (x : Int))) := by rw [hw1]; exact Go.Deep.blk_alloc_new _ _
  have b2 : Below w1.heap.size w1 w2 := by rw [hw2]; exact (Below.refl _ _).alloc (Nat.le_refl _) _
  obtain ⟨r, hrr⟩ : ∃ r : Nat → Tx, r = fun n => lst (Dn n x) 79 := ⟨_, rfl⟩
  have hI0 : HaveI w1.heap.size R r 0 w2 := by rw [hw2]; exact HaveI.start w1 R r
  have hmk := run_make_row' (P := Tryz.prog) 29 34 (.slice none 0 0) 24 Tryz.underlying29 infoRowT rfl .i64 .i64 R (by omega) (by omega)
  have HRW : Hid (∀ n, n < R → ∀ y, Below w.heap.size w y → Calls Tryz.prog 18 #[.agg #[.slice Am k Cm, .int .i64 (d : Int), .int .i64 (R : Int), .int .i64 (x : Int)], .int .i64 (n : Int)] y (RowQ ms d p n (r n) y)) := Lib.hid fun n hnR y hy => by
    rw [hrr]
    exact row_any Am ms k Cm d p x n (R : Int) (Dn n) G y hk hkd hd hx hk14 (by omega) hl (hr.old hy) (hD n hnR)
  have HB1 := Lib.hid b1
  have HB2 := Lib.hid b2
  have HK1 := Lib.hid k1
  have HI0 := Lib.hid hI0
  have HSZ := Lib.hid hs1
  have HMY := Lib.hid hmany
  have H79 : Hid (∀ n, (r n).length = 79) := Lib.hid fun n => by rw [hrr]; exact lst_len _ _
  have HW2 : Hid (w2 = (w.alloc (.cells #[.slice Am k Cm, .int .i64 (d : Int), .int .i64 (R : Int), .int .i64 (x : Int)] 52)).alloc (.cells (madeCells #[.slice none 0 0] R) 34)) := Lib.hid (by rw [hw2, hw1]; rfl)
  obtain ⟨x0, x1, x2, x3⟩ := query4 k1
  rw [hw1] at x0 x1 x2 x3
  unfold queryObj at x0 x1 x2 x3
  rw [← hrr]
  clear hk hkd hd hk14 hl hr hD hmany hrr hw1 hw2 hs1 b1 b2 k1 hI0
  go_enter Tryz.func15, Tryz.ntmps15
  go_wp2
  rw [← HW2.out]
  clear hmk x0 x1 x2 x3
  obtain ⟨g, hg⟩ : ∃ g, g = w1.heap.size := ⟨_, rfl⟩
  rw [show w.heap.size + 1 = g by rw [hg, HSZ.out]]
  rw [← hg] at HI0 HB2
  have HGS : Hid (g = w.heap.size + 1) := Lib.hid (by rw [hg, HSZ.out])
  clear hg
  go_loopw [14, 5] (fun vi ve wr => ∃ i : Nat, i ≤ R ∧ vi = .int .i64 (i : Int) ∧ ve = .int .i64 ((Me.end_ r i : Nat) : Int) ∧ Hid (HaveI g R r i wr) ∧ Hid (Below g w1 wr)) (fun vi _ _ => R - (intOf vi).toNat)
  case atStart => exact ⟨0, Nat.zero_le _, rfl, rfl, HI0, HB2⟩
  case round =>
    obtain ⟨i, hi, rfl, rfl, HI, HBI⟩ := hrel
    have hgw : w.heap.size ≤ g := by have := HGS.out; omega
    have HBW : Hid (Below w.heap.size w wr) := Lib.hid (HB1.out.trans (HBI.out.mono hgw))
    have hq := (HBI.out.block _ (by have := HGS.out; omega)).trans HK1.out
    by_cases hlt : i < R
    · have e0 : decide (i < R) = true := decide_eq_true hlt
      obtain ⟨q0, q1, q2, q3⟩ := query4 hq
      have HC := Lib.hid (HRW.out i hlt wr HBW.out)
      have HE : Hid (Me.end_ r (i + 1) = if Me.nz (r i) = true then i + 1 else Me.end_ r i) := Lib.hid (by rw [Me.end_])
      have HM1 := Lib.hid (HMY.out i hlt)
      obtain ⟨s, hs⟩ : ∃ s, s = r i := ⟨_, rfl⟩
      have hs79 : s.length = 79 := by rw [hs]; exact H79.out i
      rw [← hs] at HC HE
      have HS := Lib.hid hs
      have HS79 := Lib.hid hs79
      have hgl := HI.out.lt
      have j1 : (0 : Int) ≤ (i : Int) := by omega
      have j2 : (i : Int) < (R : Int) := by omega
      obtain ⟨ei, hei⟩ : ∃ ei, ei = Me.end_ r i := ⟨_, rfl⟩
      rw [← hei] at HE ⊢
      clear hq hs hs79 hei
      go_wp2_with fail
      refine HC.out.mono ?_
      intro e w4 hh
      obtain ⟨hb4, hh⟩ := hh
      rcases hh with ⟨h1, -⟩ | ⟨-, A4, C4, rfl, hr4⟩
      · exact absurd HM1.out (by omega)
      have hI4 := HI.out.old hb4
      have hr4' := hI4.ne hr4
      have hset := hI4.set (A := A4) (C := C4) (by rw [← HS.out]; exact hr4')
      rw [← HS.out, HS79.out] at hset
      obtain ⟨w5, hw5⟩ : ∃ x, x = w4.setCell ⟨g, i, none⟩ (.slice A4 79 C4) := ⟨_, rfl⟩
      have hkp : Kp (· = g) w4 w5 := by rw [hw5]; exact Kp.store _ _ _ _
      rw [← hw5] at hset
      have HSET := Lib.hid hset
      have HSET2 : Hid (Below g w1 w5) := Lib.hid ((HBI.out.trans (hb4.mono (Nat.le_of_lt hgl))).trans (hkp.below (Nat.le_of_lt hI4.lt) fun k hk => by omega))
      have HNZ := Lib.hid (notZero_contains A4 s 79 C4 _ w5 HS79.out.symm (by omega) (hr4'.kp hkp fun b hb e => hb e))
      obtain ⟨u, p1, p2⟩ := hI4.cell hlt
      have HW5 := Lib.hid hw5
      clear hb4 hI4 hr4 hr4' hset hkp hw5 q0 q1 q2 q3 hgl
      go_wp2_with fail
      rw [← HW5.out]
      refine HNZ.out.mono ?_
      rintro e w6 ⟨rfl, hw6⟩
      subst hw6
      have s1 : IntKind.i64.wrap ((i : Int) + 1) = (i : Int) + 1 := IntWalk.i64_in _ (by omega)
      obtain ⟨z, hz⟩ : ∃ z, z = Me.nz s := ⟨_, rfl⟩
      rw [← hz] at HE ⊢
      clear hz
      cases z with
      | true =>
        have HE2 : Hid (Me.end_ r (i + 1) = i + 1) := Lib.hid (by rw [HE.out, if_pos rfl])
        go_wp2
        go_roundw
        case rel => exact ⟨i + 1, by omega, by go_num, by rw [HE2.out]; go_num, HSET, HSET2⟩
        case measure => simp [intOf]; omega
      | false =>
        have HE2 : Hid (Me.end_ r (i + 1) = ei) := Lib.hid (by rw [HE.out, if_neg (by decide)])
        go_wp2
        go_roundw
        case rel => exact ⟨i + 1, by omega, by go_num, by rw [HE2.out], HSET, HSET2⟩
        case measure => simp [intOf]; omega
    · have e0 : decide (i < R) = false := decide_eq_false hlt
      have hiR : i = R := by omega
      have hI := HI.out
      rw [hiR] at hI ⊢
      have hle := Me.end_le r R
      obtain ⟨en, hen⟩ : ∃ en, en = Me.end_ r R := ⟨_, rfl⟩
      rw [← hen] at hle ⊢
      have HRB : Hid (RdW wr (some ⟨g, 0, none⟩) ((List.range en).map r) (fun _ => True)) := Lib.hid (hI.rdW H79.out hle)
      have j1 : (0 : Int) ≤ (en : Int) := by omega
      have j2 : (en : Int) ≤ (R : Int) := by omega
      have HEN := Lib.hid hen
      clear hI hq hen
      go_wp2
      go_ret2
      rw [← HEN.out]
      exact ⟨HBW.out, g, rfl, HRB.out⟩
set_option maxRecDepth 100000 in
set_option maxHeartbeats 4000000 in
theorem blocks_few (Am : Option Addr) (ms : List St.T) (k Cm : Nat) (d p x R : Nat) (Dn : Nat → Mx.Mat) (G : Nat → Prop) (w : World) (hk : k = ms.length) (hkd : k = d + p) (hd : 1 ≤ d) (hx : x < d) (hk14 : k ≤ 14) (hR : R ≤ 1000000)
    (hl : ∀ t ∈ ms, t.blocks.length ≤ 1000000 ∧ ∀ s ∈ t.blocks, s.length ≤ 1000000) (hr : RdT w Am ms G)
    (hD : ∀ n, n < R → ∀ j, j < d + p → 0 < (Me.have_ ms d n j).length → ∀ c, c < 79 → rowL (Me.have_ ms d n j) c = encD d p (Dn n) j c) (hR0 : 0 < R) (hmany : Me.there_ ms d p 0 < d) :
    Calls Tryz.prog 15 #[.agg #[.slice Am k Cm, .int .i64 (d : Int), .int .i64 (R : Int), .int .i64 (x : Int)]] w (fun e w' => e = .returned (.tuple #[.slice none 0 0, .int .i64 10]) ∧ Below w.heap.size w w') := by
  obtain ⟨w1, hw1⟩ : ∃ w1, w1 = w.alloc (queryObj (.slice Am k Cm) (.int .i64 (d : Int)) (.int .i64 (R : Int)) (.int .i64 (x : Int))) := ⟨_, rfl⟩
  obtain ⟨w2, hw2⟩ : ∃ w2, w2 = w1.alloc (.cells (madeCells #[.slice none 0 0] R) 34) := ⟨_, rfl⟩
  have hs1 : w1.heap.size = w.heap.size + 1 := by rw [hw1]; simp
  have b1 : Below w.heap.size w w1 := by rw [hw1]; exact (Below.refl _ _).alloc (Nat.le_refl _) _
  have k1 : w1.heap[w.heap.size]? = some (queryObj (.slice Am k Cm) (.int .i64 (d : Int)) (.int .i64 (R : Int)) (.int .i64 (x : Int))) := by rw [hw1]; exact Go.Deep.blk_alloc_new _ _
  have b2 : Below w1.heap.size w1 w2 := by rw [hw2]; exact (Below.refl _ _).alloc (Nat.le_refl _) _
  obtain ⟨r, hrr⟩ : ∃ r : Nat → Tx, r = fun n => lst (Dn n x) 79 := ⟨_, rfl⟩
  have hI0 : HaveI w1.heap.size R r 0 w2 := by rw [hw2]; exact HaveI.start w1 R r
  have hmk := run_make_row' (P := Tryz.prog) 29 34 (.slice none 0 0) 24 Tryz.underlying29 infoRowT rfl .i64 .i64 R (by omega) (by omega)
  have HRW : Hid (∀ n, n < R → ∀ y, Below w.heap.size w y → Calls Tryz.prog 18 #[.agg #[.slice Am k Cm, .int .i64 (d : Int), .int .i64 (R : Int), .int .i64 (x : Int)], .int .i64 (n : Int)] y (RowQ ms d p n (r n) y)) := Lib.hid fun n hnR y hy => by
    rw [hrr]
    exact row_any Am ms k Cm d p x n (R : Int) (Dn n) G y hk hkd hd hx hk14 (by omega) hl (hr.old hy) (hD n hnR)
  have HB1 := Lib.hid b1
  have HB2 := Lib.hid b2
  have HK1 := Lib.hid k1
  have HI0 := Lib.hid hI0
  have HSZ := Lib.hid hs1
  have HMY := Lib.hid hmany
  have H79 : Hid (∀ n, (r n).length = 79) := Lib.hid fun n => by rw [hrr]; exact lst_len _ _
  have HW2 : Hid (w2 = (w.alloc (.cells #[.slice Am k Cm, .int .i64 (d : Int), .int .i64 (R : Int), .int .i64 (x : Int)] 52)).alloc (.cells (madeCells #[.slice none 0 0] R) 34)) := Lib.hid (by rw [hw2, hw1]; rfl)
  obtain ⟨x0, x1, x2, x3⟩ := query4 k1
  rw [hw1] at x0 x1 x2 x3
  unfold queryObj at x0 x1 x2 x3
  clear hk hkd hd hk14 hl hr hD hmany hrr hw1 hw2 hs1 b1 b2 k1 hI0
  go_enter Tryz.func15, Tryz.ntmps15
  go_wp2
  rw [← HW2.out]
  clear hmk x0 x1 x2 x3
  obtain ⟨g, hg⟩ : ∃ g, g = w1.heap.size := ⟨_, rfl⟩
  rw [show w.heap.size + 1 = g by rw [hg, HSZ.out]]
  rw [← hg] at HI0 HB2
  have HGS : Hid (g = w.heap.size + 1) := Lib.hid (by rw [hg, HSZ.out])
  clear hg
  have hq := (HB2.out.block _ (by have := HGS.out; omega)).trans HK1.out
  obtain ⟨q0, q1, q2, q3⟩ := query4 hq
  have HBW : Hid (Below w.heap.size w w2) := Lib.hid (HB1.out.trans (HB2.out.mono (by have := HGS.out; omega)))
  have HC := Lib.hid (HRW.out 0 hR0 w2 HBW.out)
  have e0 : decide (0 < R) = true := decide_eq_true hR0
  have e0' : decide ((0 : Int) < (R : Int)) = true := decide_eq_true (by omega)
  clear hq
  go_loopw [14, 5] (fun vi ve wr => vi = .int .i64 0 ∧ wr = w2) (fun vi _ _ => 0)
  case atStart => exact ⟨rfl, rfl⟩
  case round =>
    obtain ⟨rfl, hwr⟩ := hrel
    subst wr
    go_wp2_with fail
    refine HC.out.mono ?_
    intro e w4 hh
    obtain ⟨hb4, hh⟩ := hh
    rcases hh with ⟨-, rfl⟩ | ⟨h1, -⟩
    · have HB4 := Lib.hid (HBW.out.trans (hb4.mono HBW.out.size))
      clear hb4 q0 q1 q2 q3
      go_wp2
      go_ret2
      exact ⟨rfl, HB4.out⟩
    · exact absurd HMY.out (by omega)
end Go.Proofs.YtcokmmanajdioaaGreat
namespace Go.Proofs.YtcokmmanajdioaaGreat
open Go.RowKit Mx
open Pt (Tx)

/-- the row of a member, or why none -/
def BlockQ (ts : List St.T) (labs : List Int) (d p : Nat) (lab : Int) (n : Nat) (D : Mat) (w : World) (e : Ending) (w' : World) : Prop :=
  (lab ∉ labs.take d ∧ e = .returned (.tuple #[.slice none 0 0, .int .i64 1]) ∧ Below w.heap.size w w') ∨
  (lab ∈ labs.take d ∧ Me.rows ((Me.members ts labs).drop d) = none ∧ e = .returned (.tuple #[.slice none 0 0, .int .i64 10]) ∧ Below w.heap.size w w') ∨
  ∃ R k, Me.rows ((Me.members ts labs).drop d) = some R ∧ k < d ∧ labs[k]? = some lab ∧
    ((R ≤ n ∧ e = .returned (.tuple #[.slice none 0 0, .int .i64 5]) ∧ Below w.heap.size w w') ∨ (n < R ∧ RowQ (Me.members ts labs) d p n (lst (D k) 79) w e w'))
set_option maxRecDepth 100000 in
set_option maxHeartbeats 4000000 in
theorem block_any (A : Option Addr) (ts : List St.T) (n C : Nat) (num idx : Int) (d p : Nat) (labs : List Int) (sA : Option Addr) (m sC : Nat) (lab : Int) (no : Nat) (D : Mat) (G G2 : Nat → Prop) (w : World) (hnl : n = ts.length) (hn : n ≤ 1000000) (hr : RdT w A ts G) (hl : ∀ t ∈ ts, t.blocks.length ≤ 1000000 ∧ ∀ s ∈ t.blocks, s.length ≤ 1000000)
    (hok : Rc.SOk ⟨num, idx, (d : Int), (p : Int), labs⟩) (hm : m = labs.length) (hC : m ≤ sC) (hCm : sC ≤ maxLen) (hz : RdZ w sA labs G2) (hno : no ≤ 1000000)
    (hD : ∀ R, Me.rows ((Me.members ts labs).drop d) = some R → no < R → ∀ j, j < d + p → 0 < (Me.have_ (Me.members ts labs) d no j).length → ∀ c, c < 79 → rowL (Me.have_ (Me.members ts labs) d no j) c = encD d p D j c) :
    Calls Tryz.prog 10 #[.slice A n C, .agg #[.int .i64 num, .int .i64 idx, .int .i64 (d : Int), .int .i64 (p : Int), .slice sA m sC], .int .i64 lab, .int .i64 (no : Int)] w (BlockQ ts labs d p lab no D w) := by
  obtain ⟨w1, hw1⟩ : ∃ w1, w1 = w.alloc (sealObj num idx (d : Int) (p : Int) sA m sC) := ⟨_, rfl⟩
  have b1 : Below w.heap.size w w1 := by rw [hw1]; exact (Below.refl _ _).alloc (Nat.le_refl _) _
  have k1 : w1.heap[w.heap.size]? = some (sealObj num idx (d : Int) (p : Int) sA m sC) := by rw [hw1]; exact Go.Deep.blk_alloc_new _ _
  have HQ := Lib.hid (queryOf_any A ts n C num idx d p labs sA m sC lab G G2 w1 hnl hn (hr.old b1) hl hok hm hC hCm (hz.old b1))
  have hmd : labs.length = d + p := by
    have h5 : (labs.length : Int) = (d : Int) + (p : Int) := hok.1.2.2.2.2.1
    omega
  have hd1 : 1 ≤ d := by have h2 : (1 : Int) ≤ (d : Int) := hok.1.2.1; omega
  have h14 : d + p ≤ 14 := by have h2 : (d : Int) + (p : Int) ≤ 14 := hok.1.2.2.2.1; omega
  obtain ⟨ms, hms⟩ : ∃ ms, ms = Me.members ts labs := ⟨_, rfl⟩
  have hmsl : ms.length = d + p := by rw [hms, Me.members_len, hmd]
  have HRW : Hid (∀ (R k gm : Nat) y, Me.rows ((Me.members ts labs).drop d) = some R → no < R → k < d → RdT y (some ⟨gm, 0, none⟩) ms (fun _ => True) → Calls Tryz.prog 18 #[.agg #[.slice (some ⟨gm, 0, none⟩) labs.length labs.length, .int .i64 (d : Int), .int .i64 (R : Int), .int .i64 (k : Int)], .int .i64 (no : Int)] y (RowQ ms d p no (lst (D k) 79) y)) 
    := Lib.hid fun R k gm y hR hnR hk hy => by
    rw [hms] at hy ⊢
    exact row_any (some ⟨gm, 0, none⟩) (Me.members ts labs) labs.length labs.length d p k no (R : Int) D _ y (by rw [Me.members_len]) hmd hd1 hk (by omega) hno (Me.members_sizes hl) hy (hD R hR hnR)
  have HB1 := Lib.hid b1
  have HW1 := Lib.hid hw1
  have HMS := Lib.hid hms
  have HNO := Lib.hid hno
  obtain ⟨x0, x1, x2, x3, x4⟩ := seal5 k1
  rw [hw1] at x0 x1 x2 x3 x4
  unfold sealObj at x0 x1 x2 x3 x4 HW1
  clear hw1 b1 k1 hnl hr hl hok hm hC hCm hz hmd hms hmsl hD hno
  go_enter Tryz.func10, Tryz.ntmps10
  go_wp2_with fail
  rw [← HW1.out]
  refine HQ.out.mono ?_
  intro e w2 hh
  obtain ⟨hb2, hh⟩ := hh
  have HB2 := Lib.hid (HB1.out.trans (hb2.mono HB1.out.size))
  clear hb2 x0 x1 x2 x3 x4
  rcases hh with ⟨hno, rfl⟩ | ⟨hin, hrn, rfl⟩ | ⟨R, k, gm, hrs, hkd, hkl, rfl, hrt⟩
  · have HN := Lib.hid hno
    clear hno
    go_wp2
    go_ret2
    exact .inl ⟨HN.out, rfl, HB2.out.alloc HB2.out.size _⟩
  · have HN := Lib.hid (And.intro hin hrn)
    clear hin hrn
    go_wp2
    go_ret2
    exact .inr (.inl ⟨HN.out.1, HN.out.2, rfl, HB2.out.alloc HB2.out.size _⟩)
  · have HN := Lib.hid (And.intro hrs (And.intro hkd hkl))
    obtain ⟨L, hL⟩ : ∃ L, L = labs.length := ⟨_, rfl⟩
    rw [← hL] at HRW ⊢
    obtain ⟨w3, hw3⟩ : ∃ x, x = w2.alloc (queryObj (.slice (some ⟨gm, 0, none⟩) L L) (.int .i64 (d : Int)) (.int .i64 (R : Int)) (.int .i64 (k : Int))) := ⟨_, rfl⟩
    have b3 : Below w2.heap.size w2 w3 := by rw [hw3]; exact (Below.refl _ _).alloc (Nat.le_refl _) _
    have k3 : w3.heap[w2.heap.size]? = some (queryObj (.slice (some ⟨gm, 0, none⟩) L L) (.int .i64 (d : Int)) (.int .i64 (R : Int)) (.int .i64 (k : Int))) := by rw [hw3]; exact Go.Deep.blk_alloc_new _ _
    rw [← HMS.out] at hrt
    have HC := Lib.hid (fun h => HRW.out R k gm w3 hrs h hkd (hrt.old b3))
    have HB3 := Lib.hid (HB2.out.trans (b3.mono HB2.out.size))
    obtain ⟨y0, y1, y2, y3⟩ := query4 k3
    rw [hw3] at y0 y1 y2 y3
    have HW3 := Lib.hid hw3
    unfold queryObj at y0 y1 y2 y3 HW3
    have j0 : decide ((no : Int) < 0) = false := decide_eq_false (by omega)
    clear hrs hkl hrt hw3 b3 k3 hL
    by_cases hRn : R ≤ no
    · have e1 : decide ((R : Int) ≤ (no : Int)) = true := decide_eq_true (by omega)
      have e1' : decide (R ≤ no) = true := decide_eq_true hRn
      have HRN := Lib.hid hRn
      clear hRn
      go_wp2
      go_ret2
      exact .inr (.inr ⟨R, k, HN.out.1, HN.out.2.1, HN.out.2.2, .inl ⟨HRN.out, rfl, HB2.out.alloc HB2.out.size _⟩⟩)
    · have e1 : decide ((R : Int) ≤ (no : Int)) = false := decide_eq_false (by omega)
      have e1' : decide (R ≤ no) = false := decide_eq_false hRn
      have HRN : Hid (no < R) := Lib.hid (by omega)
      clear hRn
      go_wp2_with fail
      rw [← HW3.out]
      refine (HC.out HRN.out).mono ?_
      intro e w4 hh
      have HH : Hid (RowQ (Me.members ts labs) d p no (lst (D k) 79) w e w4) := Lib.hid (by
        rw [← HMS.out]
        exact ⟨HB3.out.trans (hh.1.mono HB3.out.size), hh.2⟩)
      obtain ⟨-, hh⟩ := hh
      rcases hh with ⟨-, rfl⟩ | ⟨-, A4, C4, rfl, -⟩
      · go_wp2
        go_ret2
        exact .inr (.inr ⟨R, k, HN.out.1, HN.out.2.1, HN.out.2.2, .inr ⟨HRN.out, HH.out⟩⟩)
      · go_wp2
        go_ret2
        exact .inr (.inr ⟨R, k, HN.out.1, HN.out.2.1, HN.out.2.2, .inr ⟨HRN.out, HH.out⟩⟩)
end Go.Proofs.YtcokmmanajdioaaGreat
