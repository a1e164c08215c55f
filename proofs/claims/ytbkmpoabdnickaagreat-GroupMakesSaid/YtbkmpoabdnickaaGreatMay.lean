/- The example of chapter 14 comes out true: alive of package cartridgelaw14. What Few of chapter 8's law answers. What Few of chapter 13's law answers. What is kept while the document's own Make of groups gathers labels. The document's own tape in memory, behind a pointer. No function of the program. -/
import Derived.Test.YtbkmpoabdnickaaGreatMaq
import Derived.Test.YtbkmpoabdnickaaGreatMat
import Derived.Test.YtbkmpoabdnickaaGreatMaw
import Derived.Test.YtbkmpoabdnickaaGreatRefFmP
import Derived.Test.YtbkmpoabdnickaaGreatMae
import Derived.Test.YtbkmpoabdnickaaGreatChecked
import Derived.OwnWalk
import Derived.Handy
import Derived.WalkSpells
import Derived.WalkLawsBesides
import Derived.Test.YtbkmpoabdnickaaGreatMan
import Derived.Test.YtbkmpoabdnickaaGreatMaj
import Derived.Test.YtbkmpoabdnickaaGreatMar
import Derived.Test.YtbkmpoabdnickaaGreatMah
namespace Go.Proofs.YtbkmpoabdnickaaGreat
open Go.RowKit
open Pt (Tx)

theorem make_any (A1 : Option Addr) (data : List St.T) (C1 : Nat) (A2 : Option Addr) (blank : List St.T) (C2 : Nat) (G : Nat → Prop) (number : Int) (w : World) (hn1 : data.length ≤ 1000) (hn2 : blank.length ≤ 1000) (hA1 : A1 = none → data.length = 0 ∧ C1 = 0) (hA2 : A2 = none → blank.length = 0 ∧ C2 = 0)
    (hl : ∀ t ∈ data, t.blocks.length ≤ 1000000 ∧ ∀ s ∈ t.blocks, s.length ≤ 1000000) (hr1 : RdT w A1 data G) (hr2 : RdT w A2 blank G) :
    Calls Tryz.prog 7 #[.slice A1 data.length C1, .slice A2 blank.length C2, .int .i64 number] w (MakeA data blank number w) := by
  by_cases h : Gr.mkE data blank number = 0
  · exact make_yes A1 data C1 A2 blank C2 G number w hn1 hn2 hA1 hA2 hl hr1 hr2 h
  · exact make_no A1 data C1 A2 blank C2 G number w hn1 hn2 hA1 hA2 hl hr1 hr2 h
theorem num14 (n : Int) (w : World) : Calls Tryz.prog 10 #[.int .i64 n] w fun e w' => e = .returned (.int .i64 n) ∧ w = w' := by
  go_enter Tryz.func10, Tryz.ntmps10
  go_wp2
  go_ret
  exact ⟨rfl, rfl⟩
/-- one tape in a block of its own -/
theorem one_tape {w : World} {g : Nat} {lab cap : Int} {A : Option Addr} {bs : List Tx} {n C : Nat} {lost : Bool} (h : w.heap[g]? = some (tapeObj lab cap A n C lost)) (hn : n = bs.length) (hr : RdB w A bs (fun _ => True)) : RdT w (some ⟨g, 0, none⟩) [⟨lab, cap, bs, lost⟩] (fun _ => True) := fun _ => by
  subst hn
  refine ⟨g, 0, rfl, trivial, fun i hi => ?_⟩
  have h0 : i = 0 := by simpa using hi
  subst h0
  obtain ⟨t0, t1, t2, t3⟩ := tape4 h
  exact ⟨A, C, t0, t1, t2, t3, hr⟩
/-- one row in a block of its own -/
theorem one_row {w : World} {g : Nat} {A : Option Addr} {s : Tx} {n C : Nat} (h : w.heap[g]? = some (.cells #[.slice A n C] 42 (0, 0))) (hn : n = s.length) (hC : n ≤ C) (hA : A = none → n = 0 ∧ C = 0) (hr : RdL w A s (fun _ => True)) : RdB w (some ⟨g, 0, none⟩) [s] (fun _ => True) := fun _ => by
  subst hn
  refine ⟨g, 0, rfl, trivial, fun i hi => ?_⟩
  have h0 : i = 0 := by simpa using hi
  subst h0
  exact ⟨A, C, by rw [heap_cell h]; rfl, hC, hA, hr⟩
theorem FindA.len {ss : List Rc.S} {w w' : World} {e : Ending} (h : FindA ss w e w') : ∃ A C l, e = .returned (.slice A ss.length C) ∧ l.length = ss.length ∧ l.map Sx.s = ss ∧ ss.length ≤ C ∧ C ≤ maxLen ∧ (A = none → ss.length = 0 ∧ C = 0) ∧ encX.Rd w' A l (w.heap.size ≤ ·) ∧ (∀ x ∈ l, x.Ok w' (w.heap.size ≤ ·)) ∧ Below w.heap.size w w' := by
  obtain ⟨A, C, l, h1, h2, h3, h4, h5, h6, h7, h8⟩ := h
  have hl : l.length = ss.length := by rw [← h2, List.length_map]
  rw [hl] at h1 h3 h5
  exact ⟨A, C, l, h1, hl, h2, h3, h4, h5, h6, h7, h8⟩
theorem blk_short (u : Fm.U) (h : u.load.length ≤ 79) : (Fm.blk u).length ≤ 200 := by
  have h1 := Fm.room_le u.kind
  unfold Fm.blk Fm.body Fm.pad
  rw [List.length_append, List.length_append, List.length_append, Fm.head_len, List.length_replicate, Cd.be4_len]
  omega
/-- how long what is made is -/
theorem made_sizes {data blank : List St.T} {number : Int} (h : St.len data ≤ 1000) : ∀ t ∈ Gr.made data blank number, t.blocks.length ≤ 1000000 ∧ ∀ s ∈ t.blocks, s.length ≤ 1000000 := by
  intro t ht
  obtain ⟨i, hi, rfl⟩ := List.mem_iff_getElem.1 ht
  have hi' : i < blank.length := by rwa [Gr.made_len] at hi
  rw [Gr.made_at hi']
  refine ⟨by rw [Gr.madeT_len]; omega, fun s hs => ?_⟩
  have hs' : s ∈ framedL blank[i].label (says (Gr.rowsOf data blank.length i) (Gr.sealOf data blank number (data.length + i))) := hs
  obtain ⟨k, hk, rfl⟩ := List.mem_iff_getElem.1 hs'
  rw [framedL_at (by rwa [framedL_len] at hk)]
  refine Nat.le_trans (blk_short _ ?_) (by omega)
  show ((says (Gr.rowsOf data blank.length i) (Gr.sealOf data blank number (data.length + i)))[k]'(by rwa [framedL_len] at hk)).2.length ≤ 79
  have hm := List.getElem_mem (by rwa [framedL_len] at hk : k < (says (Gr.rowsOf data blank.length i) (Gr.sealOf data blank number (data.length + i))).length)
  generalize (says (Gr.rowsOf data blank.length i) (Gr.sealOf data blank number (data.length + i)))[k]'(by rwa [framedL_len] at hk) = u at hm ⊢
  unfold says at hm
  rcases List.mem_append.1 hm with hm | hm
  · rcases List.mem_cons.1 hm with rfl | hm
    · show 1 ≤ 79; omega
    · obtain ⟨r, hr, rfl⟩ := List.mem_map.1 hm
      show r.length ≤ 79
      rw [Gr.rowsOf_79 hr]; exact Nat.le_refl _
  · rw [List.mem_singleton.1 hm]
    have := Rc.sput_le (Gr.sealOf data blank number (data.length + i))
    show (Rc.sput _).length ≤ 79
    omega
def exD : List St.T := [Ex.d 1 4]
def exB : List St.T := [⟨2, 4, [], false⟩]
theorem ex_mk : Gr.mkE exD exB 1 = 0 := Ex.mk_zero ⟨by decide, by decide⟩ (by decide) (by decide) (fun t ht => by rw [List.mem_singleton.1 ht]; exact ⟨rfl, rfl, by decide⟩) (by decide)
theorem ex_seal : Rc.SOk (Gr.sealOf exD exB 1 0) := Gr.chk_seal (Ex.chk_zero ⟨by decide, by decide⟩ (by decide) (by decide) (fun t ht => by rw [List.mem_singleton.1 ht]; exact ⟨rfl, rfl, by decide⟩) (by decide))
theorem ex_find : (Gr.find (Gr.made exD exB 1)).length = 1 := by
  have h := Gr.made_cand ex_seal (by decide) (i := 0) (by decide)
  have e : Gr.made exD exB 1 = [Gr.madeT exD exB 1 0 exB[0]] := rfl
  rw [e]
  show (Gr.all (Gr.cands _)).length = 1
  rw [show Gr.cands [Gr.madeT exD exB 1 0 exB[0]] = [Gr.sealOf exD exB 1 (exD.length + 0)] by unfold Gr.cands; simp [h]]
  rfl
set_option maxRecDepth 100000 in
set_option maxHeartbeats 8000000 in
theorem alive14_true (w : World) : Calls Tryz.prog 5 #[] w (AnsB true w) := by
  obtain ⟨w1, hw1⟩ : ∃ w1, w1 = w.alloc (.cells #[.int .u8 68] 5 (1, 2)) := ⟨_, rfl⟩
  have kc := Go.Joins.run_convert_bytes_const_at (P := Tryz.prog) w 42 5 #[.int .u8 68] 1 1 w.heap.size rfl Tryz.underlying42 Tryz.underlying5
  simp only [List.size_toArray, List.length_cons, List.length_nil, Nat.zero_add, Nat.reduceAdd] at kc
  have hb1 : Below w.heap.size w w1 := by rw [hw1]; exact (Below.refl _ _).alloc (Nat.le_refl _) _
  have hD1 : w1.heap[w.heap.size]? = some (.cells #[.int .u8 68] 5 (1, 2)) := by rw [hw1]; exact Go.Deep.blk_alloc_new _ _
  have hrd : RdL w1 (some ⟨w.heap.size, 0, none⟩) [68] (fun _ => True) := fun _ => ⟨_, _, rfl, trivial, fun j hj => by
    have : j = 0 := by simp at hj; omega
    subst this
    rw [heap_cell hD1]; rfl⟩
  have hput := refPut_own 1 1 0 (some ⟨w.heap.size, 0, none⟩) [68] 1 1 _ w1 rfl (fun h => by cases h) hrd
  unfold PutO at hput
  rw [show Fm.err ⟨1, 1, 0, [68]⟩ = 0 from Fm.err_ok (Ex.ok (by decide)), show Fm.put ⟨1, 1, 0, [68]⟩ = Ex.b 1 from Fm.put_ok (Ex.ok (by decide))] at hput
  have HP := Lib.hid hput
  have HB1 := Lib.hid hb1
  have HW1 := Lib.hid hw1
  have hfn := find_any none [] 0 (fun _ => True)
  have HFN : Hid (∀ y, Calls Tryz.prog 11 #[.slice none 0 0] y (FindA [] y)) := Lib.hid fun y => hfn y (by simp) (fun t ht => by cases ht) (RdT.empty _ _ _)
  clear hput hb1 hw1 hD1 hrd hfn
  go_enter Tryz.func5, Tryz.ntmps5
  go_wp2_with fail
  clear kc
  rw [← HW1.out]
  refine HP.out.mono ?_
  rintro e w3 ⟨A3, n3, C3, rfl, hO3, hb3⟩
  obtain ⟨A3', C3', e3, hc3, hcm3, hn3, hr3⟩ := hO3.rd
  injection e3 with x1 x2 x3
  subst x1 x3
  obtain ⟨w4, hw4⟩ : ∃ w4, w4 = w3.alloc (.cells #[.slice A3 n3 C3] 42) := ⟨_, rfl⟩
  obtain ⟨w5, hw5⟩ : ∃ w5, w5 = w4.alloc (tapeObj 1 4 (some ⟨w3.heap.size, 0, none⟩) 1 1 false) := ⟨_, rfl⟩
  obtain ⟨w6, hw6⟩ : ∃ w6, w6 = w5.alloc (tapeObj 2 4 none 0 0 false) := ⟨_, rfl⟩
  have s4 : w4.heap.size = w3.heap.size + 1 := by rw [hw4]; simp
  have s5 : w5.heap.size = w3.heap.size + 1 + 1 := by rw [hw5]; simp [s4]
  have b34 : Below w3.heap.size w3 w4 := by rw [hw4]; exact (Below.refl _ _).alloc (Nat.le_refl _) _
  have b45 : Below w4.heap.size w4 w5 := by rw [hw5]; exact (Below.refl _ _).alloc (Nat.le_refl _) _
  have b56 : Below w5.heap.size w5 w6 := by rw [hw6]; exact (Below.refl _ _).alloc (Nat.le_refl _) _
  have b46 : Below w4.heap.size w4 w6 := b45.trans (b56.mono b45.size)
  have b36 : Below w3.heap.size w3 w6 := b34.trans (b46.mono b34.size)
  have k4 : w4.heap[w3.heap.size]? = some (.cells #[.slice A3 n3 C3] 42 (0, 0)) := by rw [hw4]; exact Go.Deep.blk_alloc_new _ _
  have k5 : w5.heap[w4.heap.size]? = some (tapeObj 1 4 (some ⟨w3.heap.size, 0, none⟩) 1 1 false) := by rw [hw5]; exact Go.Deep.blk_alloc_new _ _
  have k6 : w6.heap[w5.heap.size]? = some (tapeObj 2 4 none 0 0 false) := by rw [hw6]; exact Go.Deep.blk_alloc_new _ _
  have hrow := one_row (below_obj b46 k4) x2 (by rw [x2]; exact hc3) (by rw [x2]; exact hn3) ((hr3.old b36).mono fun _ _ => trivial)
  have hd := one_tape (below_obj b56 k5) rfl hrow
  have hb := one_tape (bs := []) k6 rfl (RdB.empty _ _ _)
  rw [s4] at hd
  rw [s5] at hb
  have hmk := make_any (some ⟨w3.heap.size + 1, 0, none⟩) exD 1 (some ⟨w3.heap.size + 1 + 1, 0, none⟩) exB 1 (fun _ => True) 1 w6 (by decide) (by decide) (fun h => by cases h) (fun h => by cases h) (fun t ht => by
    rw [List.mem_singleton.1 ht]
    refine ⟨by show 1 ≤ 1000000; omega, fun s hs => ?_⟩
    have hs' : s ∈ [Ex.b 1] := hs
    rw [List.mem_singleton.1 hs', Ex.b_len (by decide)]; omega) hd hb
  unfold MakeA at hmk
  simp only [if_pos ex_mk] at hmk
  have HMK := Lib.hid hmk
  have HB6 := Lib.hid ((HB1.out.trans (hb3.mono HB1.out.size)).trans (b36.mono (HB1.out.trans (hb3.mono HB1.out.size)).size))
  have HW6 : Hid (w6 = ((w3.alloc (.cells #[.slice A3 n3 C3] 42)).alloc (.cells #[.int .i64 1, .int .i64 4, .slice (some ⟨w3.heap.size, 0, none⟩) 1 1, .bool false] 49)).alloc (.cells #[.int .i64 2, .int .i64 4, .slice none 0 0, .bool false] 49)) := Lib.hid (by rw [hw6, hw5, hw4]; rfl)
  clear hw4 hw5 hw6 s4 s5 b34 b45 b56 b46 b36 k4 k5 k6 hrow hd hb hmk hO3 hb3 hc3 hcm3 hn3 hr3 x2
  go_wp2_with fail
  rw [← HW6.out]
  refine HMK.out.mono ?_
  rintro e w7 ⟨A7, C7, rfl, hC7, hM7, hA7, hr7, hb7⟩
  obtain ⟨b7, off7, A8, C8, rfl, -, -, -, c2, -, -⟩ := hr7.at_ (i := 0) (by decide)
  have hl3 : ((Gr.made exD exB 1)[0]'(by decide)).blocks.length = 3 := by
    have e : (Gr.made exD exB 1)[0]'(by decide) = Gr.madeT exD exB 1 0 exB[0] := rfl
    rw [e, Gr.madeT_len]; rfl
  rw [hl3] at c2
  have HB7 := Lib.hid (HB6.out.trans (hb7.mono HB6.out.size))
  have HF : Hid (∀ y, Below w7.heap.size w7 y → Calls Tryz.prog 11 #[.slice (some ⟨b7, off7, none⟩) 1 C7] y (FindA (Gr.find (Gr.made exD exB 1)) y)) := Lib.hid fun y hy =>
    find_any (some ⟨b7, off7, none⟩) (Gr.made exD exB 1) C7 _ y (by decide) (made_sizes (by decide)) (hr7.old hy)
  clear hr7 hb7 hl3 hC7 hM7 hA7
  go_wp2_with fail
  refine (HFN.out w7).mono ?_
  rintro e w8 ⟨A9, C9, l9, rfl, hl9, -, -, -, -, -, hb8⟩
  have hl0 : l9 = [] := by cases l9 with
    | nil => rfl
    | cons a l => cases hl9
  subst hl0
  have c2' := (hb8.cell (World.block_lt_of_cell? _ _ c2)).trans c2
  have HB8 := Lib.hid hb8
  clear hl9 hb8 c2
  simp only [List.length_nil]
  go_wp2_with (first
    | (go_at_call 10; refine (num14 _ _).mono ?_; rintro e w' ⟨rfl, hw'⟩; subst hw')
    | (go_at_call 11; refine (HF.out _ HB8.out).mono ?_; intro e w9 hfa; obtain ⟨A10, C10, l10, rfl, -, -, -, -, -, -, -, hb9⟩ := hfa.len; rw [ex_find]; have HB9 := Lib.hid (HB7.out.trans ((HB8.out.trans (hb9.mono HB8.out.size)).mono HB7.out.size)); clear hb9 hfa))
  go_ret
  exact ⟨rfl, HB9.out⟩
end Go.Proofs.YtbkmpoabdnickaaGreat
namespace Go.Proofs.YtbkmpoabdnickaaGreat
open Go.RowKit
open Pt (Tx)

/-- few blocks, none long -/
def Tp.few (bs : List Tx) : Bool := decide (bs.length ≤ 90) && bs.all fun s => decide (s.length ≤ 300)
theorem Tp.few_of {bs : List Tx} (h : Tp.few bs = true) : bs.length ≤ 90 ∧ ∀ s ∈ bs, s.length ≤ 300 := by
  simpa only [Tp.few, Bool.and_eq_true, decide_eq_true_eq, List.all_eq_true] using h
theorem few_yes (lab cap : Int) (A : Option Addr) (bs : List Tx) (C : Nat) (lost : Bool) (G : Nat → Prop) (w : World) (hr : RdB w A bs G) (hT : Tp.few bs = true) :
    Calls Tryz.prog 17 #[.agg #[.int .i64 lab, .int .i64 cap, .slice A bs.length C, .bool lost]] w (AnsB true w) := by
  have hB : Below w.heap.size w (w.alloc (.cells #[.int .i64 lab, .int .i64 cap, .slice A bs.length C, .bool lost] 49)) := (Below.refl _ _).alloc (Nat.le_refl _) _
  have hr' := hr.old hB
  have HB := Lib.hid hB
  obtain ⟨h1, h5⟩ := Tp.few_of hT
  have d1 : decide ((bs.length : Int) ≤ 90) = true := decide_eq_true (by omega)
  have H5 := Lib.hid h5
  clear h5 hr hB
  go_enter Tryz.func17, Tryz.ntmps17
  go_wp2
  go_loop [3] (fun i => ∃ k : Nat, k ≤ bs.length ∧ i = .int .i64 (k : Int)) (fun i => bs.length - (intOf i).toNat)
  case atStart => exact ⟨0, Nat.zero_le _, rfl⟩
  case round =>
    obtain ⟨k, hk, rfl⟩ := hrel
    by_cases hlt : k < bs.length
    · obtain ⟨b, off, A', C', rfl, _, hc, _⟩ := hr'.at_ hlt
      have hs := H5.out bs[k] (List.getElem_mem hlt)
      have e0 : decide (k < bs.length) = true := decide_eq_true hlt
      have e1 : decide (300 < (bs[k].length : Int)) = false := decide_eq_false (by omega)
      have e2 : decide ((k : Int) < 100) = true := decide_eq_true (by omega)
      go_wp2
      go_round
      case rel => exact ⟨k + 1, by omega, by go_num⟩
      case measure => simp [intOf]; omega
    · have e0 : decide (k < bs.length) = false := decide_eq_false hlt
      go_wp2
      go_ret
      exact ⟨rfl, HB.out⟩
theorem few_no (lab cap : Int) (A : Option Addr) (bs : List Tx) (C : Nat) (lost : Bool) (G : Nat → Prop) (w : World) (hr : RdB w A bs G) (hT : Tp.few bs = false) :
    Calls Tryz.prog 17 #[.agg #[.int .i64 lab, .int .i64 cap, .slice A bs.length C, .bool lost]] w (AnsB false w) := by
  have hB : Below w.heap.size w (w.alloc (.cells #[.int .i64 lab, .int .i64 cap, .slice A bs.length C, .bool lost] 49)) := (Below.refl _ _).alloc (Nat.le_refl _) _
  have hr' := hr.old hB
  have HB := Lib.hid hB
  have HT := Lib.hid hT
  clear hr hB hT
  go_enter Tryz.func17, Tryz.ntmps17
  go_wp2
  go_loop [3] (fun i => ∃ k : Nat, k ≤ bs.length ∧ k ≤ 100 ∧ i = .int .i64 (k : Int) ∧ Hid (∀ j (hj : j < bs.length), j < k → bs[j].length ≤ 300)) (fun i => bs.length - (intOf i).toNat)
  case atStart => exact ⟨0, Nat.zero_le _, by omega, rfl, Lib.hid (fun j _ h => absurd h (by omega))⟩
  case round =>
    obtain ⟨k, hk, hk1, rfl, HJ⟩ := hrel
    by_cases hlt : k < bs.length
    · have e0 : decide (k < bs.length) = true := decide_eq_true hlt
      by_cases hk2 : k < 100
      · have e2 : decide ((k : Int) < 100) = true := decide_eq_true (by omega)
        obtain ⟨b, off, A', C', rfl, _, hc, _⟩ := hr'.at_ hlt
        by_cases hs : 300 < bs[k].length
        · have e1 : decide (300 < (bs[k].length : Int)) = true := decide_eq_true (by omega)
          go_wp2
          go_ret
          exact ⟨rfl, HB.out⟩
        · have e1 : decide (300 < (bs[k].length : Int)) = false := decide_eq_false (by omega)
          have HJ2 : Hid (∀ j (hj : j < bs.length), j < k + 1 → bs[j].length ≤ 300) := Lib.hid fun j hj hjk => by
            by_cases e : j = k
            · subst e; omega
            · exact HJ.out j hj (by omega)
          go_wp2
          go_round
          case rel => exact ⟨k + 1, by omega, by omega, by go_num, HJ2⟩
          case measure => simp [intOf]; omega
      · have e2 : decide ((k : Int) < 100) = false := decide_eq_false (by omega)
        have d1 : decide ((bs.length : Int) ≤ 90) = false := decide_eq_false (by omega)
        go_wp2
        go_ret
        exact ⟨rfl, HB.out⟩
    · have e0 : decide (k < bs.length) = false := decide_eq_false hlt
      have d1 : decide ((bs.length : Int) ≤ 90) = false := decide_eq_false fun h => by
        have : Tp.few bs = true := by
          simp only [Tp.few, Bool.and_eq_true, decide_eq_true_eq, List.all_eq_true]
          refine ⟨by omega, fun s hs => ?_⟩
          obtain ⟨j, hj, rfl⟩ := List.mem_iff_getElem.1 hs
          exact HJ.out j hj (by omega)
        rw [HT.out] at this; cases this
      go_wp2
      go_ret
      exact ⟨rfl, HB.out⟩
end Go.Proofs.YtbkmpoabdnickaaGreat
namespace Go.Proofs.YtbkmpoabdnickaaGreat
open Go.RowKit
open Pt (Tx)

def St.sum : List St.T → Nat
  | [] => 0
  | t :: ts => t.blocks.length + St.sum ts
theorem St.sum_snoc : ∀ (l : List St.T) (t : St.T), St.sum (l ++ [t]) = St.sum l + t.blocks.length
  | [], t => by show t.blocks.length + 0 = 0 + t.blocks.length; omega
  | a :: l, t => by rw [List.cons_append, St.sum, St.sum, St.sum_snoc l t]; omega
theorem St.sum_take {l : List St.T} {i : Nat} (h : i < l.length) : St.sum (l.take (i + 1)) = St.sum (l.take i) + l[i].blocks.length := by
  rw [List.take_succ_eq_append_getElem h, St.sum_snoc]
/-- few tapes, and small -/
def St.few (ts : List St.T) : Bool := decide (ts.length ≤ 14) && ts.all (fun t => Tp.few t.blocks) && decide (St.sum ts ≤ 300)
theorem St.few_of {ts : List St.T} (h : St.few ts = true) : ts.length ≤ 14 ∧ (∀ t ∈ ts, Tp.few t.blocks = true) ∧ St.sum ts ≤ 300 := by
  simp only [St.few, Bool.and_eq_true, decide_eq_true_eq, List.all_eq_true] at h
  exact ⟨h.1.1, h.1.2, h.2⟩
theorem St.few_is {ts : List St.T} (h1 : ts.length ≤ 14) (h2 : ∀ t ∈ ts, Tp.few t.blocks = true) (h3 : St.sum ts ≤ 300) : St.few ts = true := by
  simp only [St.few, Bool.and_eq_true, decide_eq_true_eq, List.all_eq_true]
  exact ⟨⟨h1, h2⟩, h3⟩
theorem St.few_len {ts : List St.T} (h : St.few ts = true) : St.len ts ≤ 90 := St.len_le fun t ht => (Tp.few_of ((St.few_of h).2.1 t ht)).1
theorem St.sum_le {ts : List St.T} {m : Nat} (h : ∀ t ∈ ts, t.blocks.length ≤ m) : St.sum ts ≤ ts.length * m := by
  induction ts with
  | nil => exact Nat.zero_le _
  | cons t ts ih =>
    have h1 := ih fun t ht => h t (List.mem_cons_of_mem _ ht)
    have h2 := h t List.mem_cons_self
    rw [St.sum, List.length_cons, Nat.succ_mul]
    omega
set_option maxHeartbeats 2000000 in
theorem few13_any (A : Option Addr) (ts : List St.T) (C : Nat) (G : Nat → Prop) (w : World) (hn : ts.length ≤ maxLen) (hr : RdT w A ts G) :
    Calls Tryz.prog 6 #[.slice A ts.length C] w (AnsB (St.few ts) w) := by
  unfold maxLen at hn
  have HR := Lib.hid hr
  clear hr
  go_enter Tryz.func6, Tryz.ntmps6
  go_wp2
  go_loopw [4, 3] (fun vi vn wr => ∃ i n : Nat, i ≤ ts.length ∧ i ≤ 20 ∧ n ≤ i * 90 ∧ vi = .int .i64 (i : Int) ∧ vn = .int .i64 (n : Int) ∧ Hid (n = St.sum (ts.take i)) ∧ Hid (∀ j (hj : j < ts.length), j < i → Tp.few ts[j].blocks = true) ∧ Hid (Below w.heap.size w wr)) (fun vi _ _ => ts.length - (intOf vi).toNat)
  case atStart => exact ⟨0, 0, Nat.zero_le _, by omega, by omega, rfl, rfl, Lib.hid rfl, Lib.hid (fun j _ h => absurd h (by omega)), Lib.hid (Below.refl _ _)⟩
  case round =>
    obtain ⟨i, n, hi, hi2, hn2, rfl, rfl, HN, HJ, HB⟩ := hrel
    have hcase : (i < ts.length ∧ i < 20) ∨ (i = ts.length ∧ ts.length ≤ 20) ∨ (i = 20 ∧ 20 < ts.length) := by omega
    rcases hcase with ⟨hlt, hlt2⟩ | ⟨he, hle⟩ | ⟨he, hle⟩
    · have e0 : decide (i < ts.length) = true := decide_eq_true hlt
      have e2 : decide ((i : Int) < 20) = true := decide_eq_true (by omega)
      obtain ⟨b, off, A', C', rfl, -, c0, c1, c2, c3, hb⟩ := (HR.out.old HB.out).at_ hlt
      obtain ⟨⟨lab, cap, bs, lost⟩, ht⟩ : ∃ t, t = ts[i] := ⟨_, rfl⟩
      have HT := Lib.hid ht
      rw [← ht] at c0 c1 c2 c3 hb
      dsimp only at c0 c1 c2 c3 hb
      have HBB := Lib.hid hb
      clear ht hb
      cases hf : Tp.few bs with
      | false =>
        have HF : Hid (St.few ts = false) := Lib.hid (by
          cases h : St.few ts with
          | false => rfl
          | true =>
            have := (St.few_of h).2.1 ts[i] (List.getElem_mem hlt)
            rw [← HT.out] at this
            exact (hf.symm.trans this).symm)
        go_wp2_with fail
        refine (few_no lab cap A' bs C' lost _ _ HBB.out hf).mono ?_
        rintro e w1 ⟨rfl, hb1⟩
        have HB1 := Lib.hid (HB.out.trans (hb1.mono HB.out.size))
        clear hb1 hf
        go_wp2
        go_ret
        exact ⟨by rw [HF.out]; rfl, HB1.out⟩
      | true =>
        obtain ⟨k, hk⟩ : ∃ k, k = bs.length := ⟨_, rfl⟩
        have hk90 : k ≤ 90 := by rw [hk]; exact (Tp.few_of hf).1
        have HN1 : Hid (n + k = St.sum (ts.take (i + 1))) := Lib.hid (by rw [St.sum_take hlt, ← HN.out, ← HT.out, hk])
        have HJ1 : Hid (∀ j (hj : j < ts.length), j < i + 1 → Tp.few ts[j].blocks = true) := Lib.hid fun j hj hji => by
          by_cases e : j = i
          · subst e; rw [← HT.out]; exact hf
          · exact HJ.out j hj (by omega)
        have HFW := Lib.hid (few_yes lab cap A' bs C' lost _ wr HBB.out hf)
        rw [← hk] at c2 HFW
        clear hf hk
        go_wp2_with fail
        refine HFW.out.mono ?_
        rintro e w1 ⟨rfl, hb1⟩
        have HB1 := Lib.hid (HB.out.trans (hb1.mono HB.out.size))
        have d2 := (hb1.cell (World.block_lt_of_cell? _ _ c2)).trans c2
        clear hb1 c0 c1 c2 c3
        go_wp2
        go_roundw
        case rel => exact ⟨i + 1, n + k, by omega, by omega, by omega, by go_num, by go_num, HN1, HJ1, HB1⟩
        case measure => simp [intOf]; omega
    · have HS : Hid (n = St.sum ts) := Lib.hid (by rw [HN.out, List.take_of_length_le (by omega)])
      have HALL : Hid (∀ t ∈ ts, Tp.few t.blocks = true) := Lib.hid fun t ht => by
        obtain ⟨j, hj, rfl⟩ := List.mem_iff_getElem.1 ht
        exact HJ.out j hj (by omega)
      have e0 : decide (i < ts.length) = false := decide_eq_false (by omega)
      by_cases a : ts.length ≤ 14
      · have d1 : decide ((ts.length : Int) ≤ 14) = true := decide_eq_true (by omega)
        by_cases a2 : n ≤ 300
        · have d2 : decide ((n : Int) ≤ 300) = true := decide_eq_true (by omega)
          have HF := Lib.hid (St.few_is a HALL.out (by rw [← HS.out]; exact a2))
          clear a a2 he
          go_wp2
          go_ret
          exact ⟨by rw [HF.out]; rfl, HB.out⟩
        · have d2 : decide ((n : Int) ≤ 300) = false := decide_eq_false (by omega)
          have HF : Hid (St.few ts = false) := Lib.hid (by
            cases h : St.few ts with
            | false => rfl
            | true => exact absurd (St.few_of h).2.2 (by rw [← HS.out]; exact a2))
          clear a a2 he
          go_wp2
          go_ret
          exact ⟨by rw [HF.out]; rfl, HB.out⟩
      · have d1 : decide ((ts.length : Int) ≤ 14) = false := decide_eq_false (by omega)
        have HF : Hid (St.few ts = false) := Lib.hid (by
          cases h : St.few ts with
          | false => rfl
          | true => exact absurd (St.few_of h).1 a)
        clear a he
        go_wp2
        go_ret
        exact ⟨by rw [HF.out]; rfl, HB.out⟩
    · have e0 : decide (i < ts.length) = true := decide_eq_true (by omega)
      have e2 : decide ((i : Int) < 20) = false := decide_eq_false (by omega)
      have d1 : decide ((ts.length : Int) ≤ 14) = false := decide_eq_false (by omega)
      have HF : Hid (St.few ts = false) := Lib.hid (by
        cases h : St.few ts with
        | false => rfl
        | true => have := (St.few_of h).1; omega)
      clear he
      go_wp2
      go_ret
      exact ⟨by rw [HF.out]; rfl, HB.out⟩
end Go.Proofs.YtbkmpoabdnickaaGreat
namespace Go.Proofs.YtbkmpoabdnickaaGreat
open Go.RowKit
open Pt (Tx)

/-- a seal in the call's first block, its labels in an own row behind it -/
structure RMk (w : World) (number d p : Int) (v : Value) (l : List Int) (wr : World) : Prop where
  hd : wr.heap[w.heap.size]? = some (.cells #[.int .i64 number, .int .i64 0, .int .i64 d, .int .i64 p, v] 38 (0, 0))
  own : OwnZ wr (w.heap.size + 1) v l
  bel : Below w.heap.size w wr
namespace RMk
variable {w wr w2 w3 : World} {number d p : Int} {v v' : Value} {l l' : List Int}
theorem start (w : World) (number d p : Int) : RMk w number d p (.slice none 0 0) [] (w.alloc (sealObj number 0 d p none 0 0)) :=
  ⟨Go.Deep.blk_alloc_new _ _, OwnZ.nil _ _, (Below.refl _ _).alloc (Nat.le_refl _) _⟩
theorem old (h : RMk w number d p v l wr) (hb : Below wr.heap.size wr w2) : RMk w number d p v l w2 :=
  ⟨(hb.block _ (heap_lt h.hd)).trans h.hd, h.own.of_block fun k e => hb.block k (h.own.lt k e), h.bel.trans (hb.mono h.bel.size)⟩
theorem push (h : RMk w number d p v l w2) (hg : w2.grownBy w3 v.ownBlock) (ho : OwnZ w3 (w.heap.size + 1) v' l') : RMk w number d p v' l' (w3.setCell ⟨w.heap.size, 4, none⟩ v') := by
  have h1 : w3.heap[w.heap.size]? = w2.heap[w.heap.size]? := hg.block _ (heap_lt h.hd) fun e => by have := h.own.lo _ e.symm; omega
  have h3 : Below w.heap.size w w3 := h.bel.grown hg h.bel.size fun k e => by have := h.own.lo k e; omega
  have hk : Kp (· = w.heap.size) w3 (w3.setCell ⟨w.heap.size, 4, none⟩ v') := Kp.store _ _ _ _
  refine ⟨heap_set (h1.trans h.hd) v', ho.of_block fun k e => ?_, h3.trans (hk.below h3.size (fun k e => by omega))⟩
  have := ho.lo k e
  exact Below.heap_setCell _ _ _ _ (fun e' => by have e'' : w.heap.size = k := e'.symm; omega)
end RMk
end Go.Proofs.YtbkmpoabdnickaaGreat
namespace Go.Proofs.YtbkmpoabdnickaaGreat
open Go.RowKit
open Pt (Tx)

/-- the tape at block gr -/
structure Rt (w : World) (B gr : Nat) (G : Nat → Prop) (lab cap : Int) (bs : List Tx) : Prop where
  ex : ∃ v us, w.heap[gr]? = some (.cells #[.int .i64 lab, .int .i64 cap, v, .bool false] 49 (0, 0)) ∧ TopB w B G v us bs
  lo : B ≤ gr
/-- what a call on such a tape may turn -/
def RefS (B : Nat) (G : Nat → Prop) (w : World) (k : Nat) : Prop := B ≤ k ∧ ((∃ c, w.heap[k]? = some (.cells c 42 (0, 0))) ∨ (∃ c, w.heap[k]? = some (.cells c 49 (0, 0))) ∨ G k)
def RefT (B : Nat) (G : Nat → Prop) (w w' : World) : Prop := Kp (RefS B G w) w w'
theorem RefT.refl (B : Nat) (G : Nat → Prop) (w : World) : RefT B G w w := Kp.refl _ _
theorem RefT.trans {B : Nat} {G : Nat → Prop} {a b c : World} (h : RefT B G a b) (k : RefT B G b c) : RefT B G a c := by
  refine ⟨k.os.trans h.os, k.tape.trans h.tape, k.output.trans h.output, Nat.le_trans h.size k.size, fun i hi hs => ?_⟩
  have e := h.block i hi hs
  rw [← e]
  refine k.block i (Nat.lt_of_lt_of_le hi h.size) fun h' => hs ?_
  obtain ⟨h1, h2⟩ := h'
  rw [e] at h2
  exact ⟨h1, h2⟩
theorem RefT.below {B : Nat} {G : Nat → Prop} {a b : World} (h : RefT B G a b) (hB : B ≤ a.heap.size) : Below B a b := Kp.below h hB fun _ hk => hk.1
theorem RefT.of_below {B : Nat} {G : Nat → Prop} {a b : World} (h : Below a.heap.size a b) : RefT B G a b := Kp.of_below h
/-- a block of another kind is kept -/
theorem RefT.kept {B : Nat} {G : Nat → Prop} {a b : World} (h : RefT B G a b) {k : Nat} {c : Array Value} {t : TypeId} {fr : Nat × Nat} (hk : a.heap[k]? = some (.cells c t fr)) (h1 : t ≠ 42) (h2 : t ≠ 49) (h3 : ¬ G k) : b.heap[k]? = some (.cells c t fr) := by
  refine (h.block k (heap_lt hk) fun hs => ?_).trans hk
  rcases hs.2 with ⟨c', e⟩ | ⟨c', e⟩ | e
  · rw [hk] at e; injection e with e; injection e with _ e; exact h1 e
  · rw [hk] at e; injection e with e; injection e with _ e; exact h2 e
  · exact h3 e
namespace Rt
variable {w w' : World} {B gr : Nat} {G G' : Nat → Prop} {lab cap : Int} {bs : List Tx}
theorem lt (h : Rt w B gr G lab cap bs) : gr < w.heap.size := by obtain ⟨v, us, h1, _⟩ := h.ex; exact heap_lt h1
theorem kp {S : Nat → Prop} (h : Rt w B gr G lab cap bs) (hk : Kp S w w') (h0 : ¬ S gr) (h1 : ∀ k c, S k → w.heap[k]? ≠ some (.cells c 42 (0, 0))) (h2 : ∀ k, S k → ¬ G k) : Rt w' B gr G lab cap bs := by
  obtain ⟨⟨v, us, hb, ht⟩, hlo⟩ := h
  exact ⟨⟨v, us, (hk.block gr (heap_lt hb) h0).trans hb, ht.kp hk h1 h2⟩, hlo⟩
theorem old (h : Rt w B gr G lab cap bs) (hb : Below w.heap.size w w') : Rt w' B gr G lab cap bs :=
  h.kp (S := fun _ => False) (Kp.of_below hb) (fun h => h) (fun _ _ h => h.elim) (fun _ h => h.elim)
theorem mono (h : Rt w B gr G lab cap bs) (hg : ∀ k, G k → G' k) : Rt w B gr G' lab cap bs := by
  obtain ⟨⟨v, us, hb, ht⟩, hlo⟩ := h
  exact ⟨⟨v, us, hb, ht.mono hg⟩, hlo⟩
theorem there (h : Rt w B gr G lab cap bs) : Rt w B gr (fun k => G k ∧ k < w.heap.size) lab cap bs := by
  obtain ⟨⟨v, us, hb, ht⟩, hlo⟩ := h
  exact ⟨⟨v, us, hb, ht.there⟩, hlo⟩
end Rt
theorem own_down {w : World} {B B' : Nat} {t : TypeId} {v : Value} {n : Nat} {xs : List Value} (h : w.ownsRow B t 1 v n xs) (hB : B' ≤ B) : w.ownsRow B' t 1 v n xs := by
  refine ⟨h.1, ?_⟩
  rcases h.2 with h0 | ⟨g, c, cur, e, hb, hr⟩
  · exact .inl h0
  · exact .inr ⟨g, c, cur, e, Nat.le_trans hB hb, hr⟩
/-- what a call on such a tape answered, and left -/
def RefDid (r : Value) (B gr : Nat) (G : Nat → Prop) (lab cap : Int) (bs : List Tx) (w : World) (e : Ending) (w' : World) : Prop := e = .returned r ∧ Rt w' B gr G lab cap bs ∧ RefT B G w w'
theorem oneCellT (w : World) (u : Value) (t : TypeId) : ∀ j u', [u][j]? = some u' → (w.alloc (.cells #[u] t)).cell? ((⟨w.heap.size, 0, none⟩ : Addr).add j) = some u' := fun j u' hu => by
  have hj : j = 0 := by
    rcases Nat.eq_zero_or_pos j with h0 | h0
    · exact h0
    · rw [List.getElem?_eq_none (by simp; omega)] at hu; cases hu
  subst hj
  cases hu
  rw [addr_add]; simp
theorem oneTop (A : Option Addr) (L C : Nat) : ∀ u ∈ [Value.slice A L C], u.oneCell' = true := fun u hu => by rw [List.mem_singleton.1 hu]; rfl
/-- a row is appended to the tape at gr -/
theorem Rt.pushed {w wA wB : World} {B gr : Nat} {G : Nat → Prop} {lab cap : Int} {bs : List Tx} {v : Value} {us : List Value} {s : Tx} {u v' : Value} {o : Obj} (hM : w.heap[gr]? = some (.cells #[.int .i64 lab, .int .i64 cap, v, .bool false] 49 (0, 0))) (hT : TopB w B G v us bs) (hlo : B ≤ gr)
    (hA : Below w.heap.size w wA) (hu : OwnL wA B u s) (hun : ∀ k, u.ownBlock = some k → w.heap.size ≤ k) (hG : ∀ k, w.heap.size ≤ k → G k) (hB : wB.ownsRow B 42 1 v' (us.length + 1) (us ++ [u])) (hg : (wA.alloc o).grownBy wB v.ownBlock) :
    wB.heap[gr]? = w.heap[gr]? ∧ Rt (wB.setCell ⟨gr, 2, none⟩ v') B gr G lab cap (bs ++ [s]) ∧ RefT B G w (wB.setCell ⟨gr, 2, none⟩ v') := by
  have hlt := heap_lt hM
  have hA' : Below w.heap.size w (wA.alloc o) := hA.alloc hA.size _
  have hne : some gr ≠ v.ownBlock := fun e => by
    obtain ⟨x, hx⟩ := own_blk hT.top gr e.symm
    rw [hM] at hx
    injection hx with hx
    injection hx with _ e2
    exact absurd e2 (by decide)
  have e : wB.heap[gr]? = w.heap[gr]? := (hg.block gr (Nat.lt_of_lt_of_le hlt hA'.size) hne).trans (hA'.block gr hlt)
  have hp := hT.push hA' (hu.alloc o) hun (fun k hk => hG k (hun k hk)) hB hg
  refine ⟨e, ⟨⟨v', us ++ [u], by rw [heap_set (e.trans hM)]; rfl, hp.kpT (Kp.store _ gr 2 _) (fun x c hx hc => ?_) (fun x c hx hc => ?_)⟩, hlo⟩, ?_⟩
  · rw [hx, e, hM] at hc
    injection hc with hc
    injection hc with _ e2
    exact absurd e2 (by decide)
  · rw [hx, e, hM] at hc
    injection hc with hc
    injection hc with _ e2
    exact absurd e2 (by decide)
  · refine (RefT.of_below hA').trans (RefT.trans (Kp.grown (Kp.refl _ _) hg fun k hk => ?_) ((Kp.store wB gr 2 v').mono fun k hk => ?_))
    · obtain ⟨x, hx⟩ := own_blk hT.top k hk
      exact ⟨(hT.top.lt k hk).1, .inl ⟨x, (hA'.block k (heap_lt hx)).trans hx⟩⟩
    · rw [hk]
      exact ⟨hlo, .inr (.inl ⟨_, e.trans hM⟩)⟩
theorem own_row {w : World} {B B' : Nat} {v : Value} {n : Nat} {s : Tx} (h : w.ownsRow B' 5 1 v n ([] ++ cellsL s)) (hn : s.length = n) (hB : B ≤ B') : OwnL w B v s := by
  subst hn; exact own_down h hB
theorem own_base {w : World} {B g n c : Nat} {t : TypeId} {xs : List Value} (h : w.ownsRow B t 1 (.slice (some ⟨g, 0, none⟩) n c) n xs) : B ≤ g := by
  rcases h.2 with ⟨e, _⟩ | ⟨g', c', cur, e, hb, _⟩
  · cases e
  · cases e; exact hb
end Go.Proofs.YtbkmpoabdnickaaGreat
