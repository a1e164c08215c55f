/- The example of chapter 14 comes out true: alive of package cartridgelaw14. What Few of chapter 8's law answers. What Few of chapter 13's law answers. What slices.Clone makes of a row of numbers, and what Of of package group answers: the first group that has a label. The document's own Reader in memory. No function of the program. What the document's own Reader reads. What Bad of the document's own Reader answers. What the document's own GetFrame answers. What the document's own Good of a tape's block answers. -/
import Derived.Test.YtfkoomldncfdnaaGreatMh
import Derived.Test.YtfkoomldncfdnaaGreatMj
import Derived.Test.YtfkoomldncfdnaaGreatMk
import Derived.Test.YtfkoomldncfdnaaGreatMe
import Derived.Test.YtfkoomldncfdnaaGreatChecked
import Derived.OwnWalk
import Derived.Handy
import Derived.WalkSpells
import Derived.WalkLawsBesides
import Derived.Test.YtfkoomldncfdnaaGreatMf
import Derived.Test.YtfkoomldncfdnaaGreatMi
import Derived.Test.YtfkoomldncfdnaaGreatMc
namespace Go.Proofs.YtfkoomldncfdnaaGreat
open Go.RowKit
open Pt (Tx)

theorem make_any (A1 : Option Addr) (data : List St.T) (C1 : Nat) (A2 : Option Addr) (blank : List St.T) (C2 : Nat) (G : Nat → Prop) (number : Int) (w : World) (hn1 : data.length ≤ 1000) (hn2 : blank.length ≤ 1000) (hA1 : A1 = none → data.length = 0 ∧ C1 = 0) (hA2 : A2 = none → blank.length = 0 ∧ C2 = 0)
    (hl : ∀ t ∈ data, t.blocks.length ≤ 1000000 ∧ ∀ s ∈ t.blocks, s.length ≤ 1000000) (hr1 : RdT w A1 data G) (hr2 : RdT w A2 blank G) :
    Calls Tryz.prog 7 #[.slice A1 data.length C1, .slice A2 blank.length C2, .int .i64 number] w (MakeA data blank number w) := by
  by_cases h : Gr.mkE data blank number = 0
  · exact make_yes A1 data C1 A2 blank C2 G number w hn1 hn2 hA1 hA2 hl hr1 hr2 h
  · exact make_no A1 data C1 A2 blank C2 G number w hn1 hn2 hA1 hA2 hl hr1 hr2 h
theorem num14 (n : Int) (w : World) : Calls Tryz.prog 10 #[.int .i64 n] w fun e w' => e = .returned (.int .i64 n) ∧ w = w' := by
  go_enter Tryz.func10, Tryz.ntmps10
  go_wp2
  go_ret
  exact ⟨rfl, rfl⟩
/-- one tape in a block of its own -/
theorem one_tape {w : World} {g : Nat} {lab cap : Int} {A : Option Addr} {bs : List Tx} {n C : Nat} {lost : Bool} (h : w.heap[g]? = some (tapeObj lab cap A n C lost)) (hn : n = bs.length) (hr : RdB w A bs (fun _ => True)) : RdT w (some ⟨g, 0, none⟩) [⟨lab, cap, bs, lost⟩] (fun _ => True) := fun _ => by
  subst hn
  refine ⟨g, 0, rfl, trivial, fun i hi => ?_⟩
  have h0 : i = 0 := by simpa using hi
  subst h0
  obtain ⟨t0, t1, t2, t3⟩ := tape4 h
  exact ⟨A, C, t0, t1, t2, t3, hr⟩
/-- one row in a block of its own -/
theorem one_row {w : World} {g : Nat} {A : Option Addr} {s : Tx} {n C : Nat} (h : w.heap[g]? = some (.cells #[.slice A n C] 42 (0, 0))) (hn : n = s.length) (hC : n ≤ C) (hA : A = none → n = 0 ∧ C = 0) (hr : RdL w A s (fun _ => True)) : RdB w (some ⟨g, 0, none⟩) [s] (fun _ => True) := fun _ => by
  subst hn
  refine ⟨g, 0, rfl, trivial, fun i hi => ?_⟩
  have h0 : i = 0 := by simpa using hi
  subst h0
  exact ⟨A, C, by rw [heap_cell h]; rfl, hC, hA, hr⟩
theorem FindA.len {ss : List Rc.S} {w w' : World} {e : Ending} (h : FindA ss w e w') : ∃ A C l, e = .returned (.slice A ss.length C) ∧ l.length = ss.length ∧ l.map Sx.s = ss ∧ ss.length ≤ C ∧ C ≤ maxLen ∧ (A = none → ss.length = 0 ∧ C = 0) ∧ encX.Rd w' A l (w.heap.size ≤ ·) ∧ (∀ x ∈ l, x.Ok w' (w.heap.size ≤ ·)) ∧ Below w.heap.size w w' := by
  obtain ⟨A, C, l, h1, h2, h3, h4, h5, h6, h7, h8⟩ := h
  have hl : l.length = ss.length := by rw [← h2, List.length_map]
  rw [hl] at h1 h3 h5
  exact ⟨A, C, l, h1, hl, h2, h3, h4, h5, h6, h7, h8⟩
theorem blk_short (u : Fm.U) (h : u.load.length ≤ 79) : (Fm.blk u).length ≤ 200 := by
  have h1 := Fm.room_le u.kind
  unfold Fm.blk Fm.body Fm.pad
  rw [List.length_append, List.length_append, List.length_append, Fm.head_len, List.length_replicate, Cd.be4_len]
  omega
/-- how long what is made is -/
theorem made_sizes {data blank : List St.T} {number : Int} (h : St.len data ≤ 1000) : ∀ t ∈ Gr.made data blank number, t.blocks.length ≤ 1000000 ∧ ∀ s ∈ t.blocks, s.length ≤ 1000000 := by
  intro t ht
  obtain ⟨i, hi, rfl⟩ := List.mem_iff_getElem.1 ht
  have hi' : i < blank.length := by rwa [Gr.made_len] at hi
  rw [Gr.made_at hi']
  refine ⟨by rw [Gr.madeT_len]; omega, fun s hs => ?_⟩
  have hs' : s ∈ framedL blank[i].label (says (Gr.rowsOf data blank.length i) (Gr.sealOf data blank number (data.length + i))) := hs
  obtain ⟨k, hk, rfl⟩ := List.mem_iff_getElem.1 hs'
  rw [framedL_at (by rwa [framedL_len] at hk)]
  refine Nat.le_trans (blk_short _ ?_) (by omega)
  show ((says (Gr.rowsOf data blank.length i) (Gr.sealOf data blank number (data.length + i)))[k]'(by rwa [framedL_len] at hk)).2.length ≤ 79
  have hm := List.getElem_mem (by rwa [framedL_len] at hk : k < (says (Gr.rowsOf data blank.length i) (Gr.sealOf data blank number (data.length + i))).length)
  generalize (says (Gr.rowsOf data blank.length i) (Gr.sealOf data blank number (data.length + i)))[k]'(by rwa [framedL_len] at hk) = u at hm ⊢
  unfold says at hm
  rcases List.mem_append.1 hm with hm | hm
  · rcases List.mem_cons.1 hm with rfl | hm
    · show 1 ≤ 79; omega
    · obtain ⟨r, hr, rfl⟩ := List.mem_map.1 hm
      show r.length ≤ 79
      rw [Gr.rowsOf_79 hr]; exact Nat.le_refl _
  · rw [List.mem_singleton.1 hm]
    have := Rc.sput_le (Gr.sealOf data blank number (data.length + i))
    show (Rc.sput _).length ≤ 79
    omega
def exD : List St.T := [Ex.d 1 4]
def exB : List St.T := [⟨2, 4, [], false⟩]
theorem ex_mk : Gr.mkE exD exB 1 = 0 := Ex.mk_zero ⟨by decide, by decide⟩ (by decide) (by decide) (fun t ht => by rw [List.mem_singleton.1 ht]; exact ⟨rfl, rfl, by decide⟩) (by decide)
theorem ex_seal : Rc.SOk (Gr.sealOf exD exB 1 0) := Gr.chk_seal (Ex.chk_zero ⟨by decide, by decide⟩ (by decide) (by decide) (fun t ht => by rw [List.mem_singleton.1 ht]; exact ⟨rfl, rfl, by decide⟩) (by decide))
theorem ex_find : (Gr.find (Gr.made exD exB 1)).length = 1 := by
  have h := Gr.made_cand ex_seal (by decide) (i := 0) (by decide)
  have e : Gr.made exD exB 1 = [Gr.madeT exD exB 1 0 exB[0]] := rfl
  rw [e]
  show (Gr.all (Gr.cands _)).length = 1
  rw [show Gr.cands [Gr.madeT exD exB 1 0 exB[0]] = [Gr.sealOf exD exB 1 (exD.length + 0)] by unfold Gr.cands; simp [h]]
  rfl
set_option maxRecDepth 100000 in
set_option maxHeartbeats 8000000 in
theorem alive14_true (w : World) : Calls Tryz.prog 5 #[] w (AnsB true w) := by
  obtain ⟨w1, hw1⟩ : ∃ w1, w1 = w.alloc (.cells #[.int .u8 68] 5 (1, 2)) := ⟨_, rfl⟩
  have kc := Go.Joins.run_convert_bytes_const_at (P := Tryz.prog) w 42 5 #[.int .u8 68] 1 1 w.heap.size rfl Tryz.underlying42 Tryz.underlying5
  simp only [List.size_toArray, List.length_cons, List.length_nil, Nat.zero_add, Nat.reduceAdd] at kc
  have hb1 : Below w.heap.size w w1 := by rw [hw1]; exact (Below.refl _ _).alloc (Nat.le_refl _) _
  have hD1 : w1.heap[w.heap.size]? = some (.cells #[.int .u8 68] 5 (1, 2)) := by rw [hw1]; exact Go.Deep.blk_alloc_new _ _
  have hrd : RdL w1 (some ⟨w.heap.size, 0, none⟩) [68] (fun _ => True) := fun _ => ⟨_, _, rfl, trivial, fun j hj => by
    have : j = 0 := by simp at hj; omega
    subst this
    rw [heap_cell hD1]; rfl⟩
  have hput := refPut_own 1 1 0 (some ⟨w.heap.size, 0, none⟩) [68] 1 1 _ w1 rfl (fun h => by cases h) hrd
  unfold PutO at hput
  rw [show Fm.err ⟨1, 1, 0, [68]⟩ = 0 from Fm.err_ok (Ex.ok (by decide)), show Fm.put ⟨1, 1, 0, [68]⟩ = Ex.b 1 from Fm.put_ok (Ex.ok (by decide))] at hput
  have HP := Lib.hid hput
  have HB1 := Lib.hid hb1
  have HW1 := Lib.hid hw1
  have hfn := find_any none [] 0 (fun _ => True)
  have HFN : Hid (∀ y, Calls Tryz.prog 11 #[.slice none 0 0] y (FindA [] y)) := Lib.hid fun y => hfn y (by simp) (fun t ht => by cases ht) (RdT.empty _ _ _)
  clear hput hb1 hw1 hD1 hrd hfn
  go_enter Tryz.func5, Tryz.ntmps5
  go_wp2_with fail
  clear kc
  rw [← HW1.out]
  refine HP.out.mono ?_
  rintro e w3 ⟨A3, n3, C3, rfl, hO3, hb3⟩
  obtain ⟨A3', C3', e3, hc3, hcm3, hn3, hr3⟩ := hO3.rd
  injection e3 with x1 x2 x3
  subst x1 x3
  obtain ⟨w4, hw4⟩ : ∃ w4, w4 = w3.alloc (.cells #[.slice A3 n3 C3] 42) := ⟨_, rfl⟩
  obtain ⟨w5, hw5⟩ : ∃ w5, w5 = w4.alloc (tapeObj 1 4 (some ⟨w3.heap.size, 0, none⟩) 1 1 false) := ⟨_, rfl⟩
  obtain ⟨w6, hw6⟩ : ∃ w6, w6 = w5.alloc (tapeObj 2 4 none 0 0 false) := ⟨_, rfl⟩
  have s4 : w4.heap.size = w3.heap.size + 1 := by rw [hw4]; simp
  have s5 : w5.heap.size = w3.heap.size + 1 + 1 := by rw [hw5]; simp [s4]
  have b34 : Below w3.heap.size w3 w4 := by rw [hw4]; exact (Below.refl _ _).alloc (Nat.le_refl _) _
  have b45 : Below w4.heap.size w4 w5 := by rw [hw5]; exact (Below.refl _ _).alloc (Nat.le_refl _) _
  have b56 : Below w5.heap.size w5 w6 := by rw [hw6]; exact (Below.refl _ _).alloc (Nat.le_refl _) _
  have b46 : Below w4.heap.size w4 w6 := b45.trans (b56.mono b45.size)
  have b36 : Below w3.heap.size w3 w6 := b34.trans (b46.mono b34.size)
  have k4 : w4.heap[w3.heap.size]? = some (.cells #[.slice A3 n3 C3] 42 (0, 0)) := by rw [hw4]; exact Go.Deep.blk_alloc_new _ _
  have k5 : w5.heap[w4.heap.size]? = some (tapeObj 1 4 (some ⟨w3.heap.size, 0, none⟩) 1 1 false) := by rw [hw5]; exact Go.Deep.blk_alloc_new _ _
  have k6 : w6.heap[w5.heap.size]? = some (tapeObj 2 4 none 0 0 false) := by rw [hw6]; exact Go.Deep.blk_alloc_new _ _
  have hrow := one_row (below_obj b46 k4) x2 (by rw [x2]; exact hc3) (by rw [x2]; exact hn3) ((hr3.old b36).mono fun _ _ => trivial)
  have hd := one_tape (below_obj b56 k5) rfl hrow
  have hb := one_tape (bs := []) k6 rfl (RdB.empty _ _ _)
  rw [s4] at hd
  rw [s5] at hb
  have hmk := make_any (some ⟨w3.heap.size + 1, 0, none⟩) exD 1 (some ⟨w3.heap.size + 1 + 1, 0, none⟩) exB 1 (fun _ => True) 1 w6 (by decide) (by decide) (fun h => by cases h) (fun h => by cases h) (fun t ht => by
    rw [List.mem_singleton.1 ht]
    refine ⟨by show 1 ≤ 1000000; omega, fun s hs => ?_⟩
    have hs' : s ∈ [Ex.b 1] := hs
    rw [List.mem_singleton.1 hs', Ex.b_len (by decide)]; omega) hd hb
  unfold MakeA at hmk
  simp only [if_pos ex_mk] at hmk
  have HMK := Lib.hid hmk
  have HB6 := Lib.hid ((HB1.out.trans (hb3.mono HB1.out.size)).trans (b36.mono (HB1.out.trans (hb3.mono HB1.out.size)).size))
  have HW6 : Hid (w6 = ((w3.alloc (.cells #[.slice A3 n3 C3] 42)).alloc (.cells #[.int .i64 1, .int .i64 4, .slice (some ⟨w3.heap.size, 0, none⟩) 1 1, .bool false] 49)).alloc (.cells #[.int .i64 2, .int .i64 4, .slice none 0 0, .bool false] 49)) := Lib.hid (by rw [hw6, hw5, hw4]; rfl)
  clear hw4 hw5 hw6 s4 s5 b34 b45 b56 b46 b36 k4 k5 k6 hrow hd hb hmk hO3 hb3 hc3 hcm3 hn3 hr3 x2
  go_wp2_with fail
  rw [← HW6.out]
  refine HMK.out.mono ?_
  rintro e w7 ⟨A7, C7, rfl, hC7, hM7, hA7, hr7, hb7⟩
  obtain ⟨b7, off7, A8, C8, rfl, -, -, -, c2, -, -⟩ := hr7.at_ (i := 0) (by decide)
  have hl3 : ((Gr.made exD exB 1)[0]'(by decide)).blocks.length = 3 := by
    have e : (Gr.made exD exB 1)[0]'(by decide) = Gr.madeT exD exB 1 0 exB[0] := rfl
    rw [e, Gr.madeT_len]; rfl
  rw [hl3] at c2
  have HB7 := Lib.hid (HB6.out.trans (hb7.mono HB6.out.size))
  have HF : Hid (∀ y, Below w7.heap.size w7 y → Calls Tryz.prog 11 #[.slice (some ⟨b7, off7, none⟩) 1 C7] y (FindA (Gr.find (Gr.made exD exB 1)) y)) := Lib.hid fun y hy =>
    find_any (some ⟨b7, off7, none⟩) (Gr.made exD exB 1) C7 _ y (by decide) (made_sizes (by decide)) (hr7.old hy)
  clear hr7 hb7 hl3 hC7 hM7 hA7
  go_wp2_with fail
  refine (HFN.out w7).mono ?_
  rintro e w8 ⟨A9, C9, l9, rfl, hl9, -, -, -, -, -, hb8⟩
  have hl0 : l9 = [] := by cases l9 with
    | nil => rfl
    | cons a l => cases hl9
  subst hl0
  have c2' := (hb8.cell (World.block_lt_of_cell? _ _ c2)).trans c2
  have HB8 := Lib.hid hb8
  clear hl9 hb8 c2
  simp only [List.length_nil]
  go_wp2_with (first
    | (go_at_call 10; refine (num14 _ _).mono ?_; rintro e w' ⟨rfl, hw'⟩; subst hw')
    | (go_at_call 11; refine (HF.out _ HB8.out).mono ?_; intro e w9 hfa; obtain ⟨A10, C10, l10, rfl, -, -, -, -, -, -, -, hb9⟩ := hfa.len; rw [ex_find]; have HB9 := Lib.hid (HB7.out.trans ((HB8.out.trans (hb9.mono HB8.out.size)).mono HB7.out.size)); clear hb9 hfa))
  go_ret
  exact ⟨rfl, HB9.out⟩
end Go.Proofs.YtfkoomldncfdnaaGreat
namespace Go.Proofs.YtfkoomldncfdnaaGreat
open Go.RowKit
open Pt (Tx)

/-- few blocks, none long -/
def Tp.few (bs : List Tx) : Bool := decide (bs.length ≤ 90) && bs.all fun s => decide (s.length ≤ 300)
theorem Tp.few_of {bs : List Tx} (h : Tp.few bs = true) : bs.length ≤ 90 ∧ ∀ s ∈ bs, s.length ≤ 300 := by
  simpa only [Tp.few, Bool.and_eq_true, decide_eq_true_eq, List.all_eq_true] using h
theorem few_yes (lab cap : Int) (A : Option Addr) (bs : List Tx) (C : Nat) (lost : Bool) (G : Nat → Prop) (w : World) (hr : RdB w A bs G) (hT : Tp.few bs = true) :
    Calls Tryz.prog 17 #[.agg #[.int .i64 lab, .int .i64 cap, .slice A bs.length C, .bool lost]] w (AnsB true w) := by
  have hB : Below w.heap.size w (w.alloc (.cells #[.int .i64 lab, .int .i64 cap, .slice A bs.length C, .bool lost] 49)) := (Below.refl _ _).alloc (Nat.le_refl _) _
  have hr' := hr.old hB
  have HB := Lib.hid hB
  obtain ⟨h1, h5⟩ := Tp.few_of hT
  have d1 : decide ((bs.length : Int) ≤ 90) = true := decide_eq_true (by omega)
  have H5 := Lib.hid h5
  clear h5 hr hB
  go_enter Tryz.func17, Tryz.ntmps17
  go_wp2
  go_loop [3] (fun i => ∃ k : Nat, k ≤ bs.length ∧ i = .int .i64 (k : Int)) (fun i => bs.length - (intOf i).toNat)
  case atStart => exact ⟨0, Nat.zero_le _, rfl⟩
  case round =>
    obtain ⟨k, hk, rfl⟩ := hrel
    by_cases hlt : k < bs.length
    · obtain ⟨b, off, A', C', rfl, _, hc, _⟩ := hr'.at_ hlt
      have hs := H5.out bs[k] (List.getElem_mem hlt)
      have e0 : decide (k < bs.length) = true := decide_eq_true hlt
      have e1 : decide (300 < (bs[k].length : Int)) = false := decide_eq_false (by omega)
      have e2 : decide ((k : Int) < 100) = true := decide_eq_true (by omega)
      go_wp2
      go_round
      case rel => exact ⟨k + 1, by omega, by go_num⟩
      case measure => simp [intOf]; omega
    · have e0 : decide (k < bs.length) = false := decide_eq_false hlt
      go_wp2
      go_ret
      exact ⟨rfl, HB.out⟩
theorem few_no (lab cap : Int) (A : Option Addr) (bs : List Tx) (C : Nat) (lost : Bool) (G : Nat → Prop) (w : World) (hr : RdB w A bs G) (hT : Tp.few bs = false) :
    Calls Tryz.prog 17 #[.agg #[.int .i64 lab, .int .i64 cap, .slice A bs.length C, .bool lost]] w (AnsB false w) := by
  have hB : Below w.heap.size w (w.alloc (.cells #[.int .i64 lab, .int .i64 cap, .slice A bs.length C, .bool lost] 49)) := (Below.refl _ _).alloc (Nat.le_refl _) _
  have hr' := hr.old hB
  have HB := Lib.hid hB
  have HT := Lib.hid hT
  clear hr hB hT
  go_enter Tryz.func17, Tryz.ntmps17
  go_wp2
  go_loop [3] (fun i => ∃ k : Nat, k ≤ bs.length ∧ k ≤ 100 ∧ i = .int .i64 (k : Int) ∧ Hid (∀ j (hj : j < bs.length), j < k → bs[j].length ≤ 300)) (fun i => bs.length - (intOf i).toNat)
  case atStart => exact ⟨0, Nat.zero_le _, by omega, rfl, Lib.hid (fun j _ h => absurd h (by omega))⟩
  case round =>
    obtain ⟨k, hk, hk1, rfl, HJ⟩ := hrel
    by_cases hlt : k < bs.length
    · have e0 : decide (k < bs.length) = true := decide_eq_true hlt
      by_cases hk2 : k < 100
      · have e2 : decide ((k : Int) < 100) = true := decide_eq_true (by omega)
        obtain ⟨b, off, A', C', rfl, _, hc, _⟩ := hr'.at_ hlt
        by_cases hs : 300 < bs[k].length
        · have e1 : decide (300 < (bs[k].length : Int)) = true := decide_eq_true (by omega)
          go_wp2
          go_ret
          exact ⟨rfl, HB.out⟩
        · have e1 : decide (300 < (bs[k].length : Int)) = false := decide_eq_false (by omega)
          have HJ2 : Hid (∀ j (hj : j < bs.length), j < k + 1 → bs[j].length ≤ 300) := Lib.hid fun j hj hjk => by
            by_cases e : j = k
            · subst e; omega
            · exact HJ.out j hj (by omega)
          go_wp2
          go_round
          case rel => exact ⟨k + 1, by omega, by omega, by go_num, HJ2⟩
          case measure => simp [intOf]; omega
      · have e2 : decide ((k : Int) < 100) = false := decide_eq_false (by omega)
        have d1 : decide ((bs.length : Int) ≤ 90) = false := decide_eq_false (by omega)
        go_wp2
        go_ret
        exact ⟨rfl, HB.out⟩
    · have e0 : decide (k < bs.length) = false := decide_eq_false hlt
      have d1 : decide ((bs.length : Int) ≤ 90) = false := decide_eq_false fun h => by
        have : Tp.few bs = true := by
          simp only [Tp.few, Bool.and_eq_true, decide_eq_true_eq, List.all_eq_true]
          refine ⟨by omega, fun s hs => ?_⟩
          obtain ⟨j, hj, rfl⟩ := List.mem_iff_getElem.1 hs
          exact HJ.out j hj (by omega)
        rw [HT.out] at this; cases this
      go_wp2
      go_ret
      exact ⟨rfl, HB.out⟩
end Go.Proofs.YtfkoomldncfdnaaGreat
namespace Go.Proofs.YtfkoomldncfdnaaGreat
open Go.RowKit
open Pt (Tx)

def St.sum : List St.T → Nat
  | [] => 0
  | t :: ts => t.blocks.length + St.sum ts
theorem St.sum_snoc : ∀ (l : List St.T) (t : St.T), St.sum (l ++ [t]) = St.sum l + t.blocks.length
  | [], t => by show t.blocks.length + 0 = 0 + t.blocks.length; omega
  | a :: l, t => by rw [List.cons_append, St.sum, St.sum, St.sum_snoc l t]; omega
theorem St.sum_take {l : List St.T} {i : Nat} (h : i < l.length) : St.sum (l.take (i + 1)) = St.sum (l.take i) + l[i].blocks.length := by
  rw [List.take_succ_eq_append_getElem h, St.sum_snoc]
/-- few tapes, and small -/
def St.few (ts : List St.T) : Bool := decide (ts.length ≤ 14) && ts.all (fun t => Tp.few t.blocks) && decide (St.sum ts ≤ 300)
theorem St.few_of {ts : List St.T} (h : St.few ts = true) : ts.length ≤ 14 ∧ (∀ t ∈ ts, Tp.few t.blocks = true) ∧ St.sum ts ≤ 300 := by
  simp only [St.few, Bool.and_eq_true, decide_eq_true_eq, List.all_eq_true] at h
  exact ⟨h.1.1, h.1.2, h.2⟩
theorem St.few_is {ts : List St.T} (h1 : ts.length ≤ 14) (h2 : ∀ t ∈ ts, Tp.few t.blocks = true) (h3 : St.sum ts ≤ 300) : St.few ts = true := by
  simp only [St.few, Bool.and_eq_true, decide_eq_true_eq, List.all_eq_true]
  exact ⟨⟨h1, h2⟩, h3⟩
theorem St.few_len {ts : List St.T} (h : St.few ts = true) : St.len ts ≤ 90 := St.len_le fun t ht => (Tp.few_of ((St.few_of h).2.1 t ht)).1
theorem St.sum_le {ts : List St.T} {m : Nat} (h : ∀ t ∈ ts, t.blocks.length ≤ m) : St.sum ts ≤ ts.length * m := by
  induction ts with
  | nil => exact Nat.zero_le _
  | cons t ts ih =>
    have h1 := ih fun t ht => h t (List.mem_cons_of_mem _ ht)
    have h2 := h t List.mem_cons_self
    rw [St.sum, List.length_cons, Nat.succ_mul]
    omega
set_option maxHeartbeats 2000000 in
theorem few13_any (A : Option Addr) (ts : List St.T) (C : Nat) (G : Nat → Prop) (w : World) (hn : ts.length ≤ maxLen) (hr : RdT w A ts G) :
    Calls Tryz.prog 6 #[.slice A ts.length C] w (AnsB (St.few ts) w) := by
  unfold maxLen at hn
  have HR := Lib.hid hr
  clear hr
  go_enter Tryz.func6, Tryz.ntmps6
  go_wp2
  go_loopw [4, 3] (fun vi vn wr => ∃ i n : Nat, i ≤ ts.length ∧ i ≤ 20 ∧ n ≤ i * 90 ∧ vi = .int .i64 (i : Int) ∧ vn = .int .i64 (n : Int) ∧ Hid (n = St.sum (ts.take i)) ∧ Hid (∀ j (hj : j < ts.length), j < i → Tp.few ts[j].blocks = true) ∧ Hid (Below w.heap.size w wr)) (fun vi _ _ => ts.length - (intOf vi).toNat)
  case atStart => exact ⟨0, 0, Nat.zero_le _, by omega, by omega, rfl, rfl, Lib.hid rfl, Lib.hid (fun j _ h => absurd h (by omega)), Lib.hid (Below.refl _ _)⟩
  case round =>
    obtain ⟨i, n, hi, hi2, hn2, rfl, rfl, HN, HJ, HB⟩ := hrel
    have hcase : (i < ts.length ∧ i < 20) ∨ (i = ts.length ∧ ts.length ≤ 20) ∨ (i = 20 ∧ 20 < ts.length) := by omega
    rcases hcase with ⟨hlt, hlt2⟩ | ⟨he, hle⟩ | ⟨he, hle⟩
    · have e0 : decide (i < ts.length) = true := decide_eq_true hlt
      have e2 : decide ((i : Int) < 20) = true := decide_eq_true (by omega)
      obtain ⟨b, off, A', C', rfl, -, c0, c1, c2, c3, hb⟩ := (HR.out.old HB.out).at_ hlt
      obtain ⟨⟨lab, cap, bs, lost⟩, ht⟩ : ∃ t, t = ts[i] := ⟨_, rfl⟩
      have HT := Lib.hid ht
      rw [← ht] at c0 c1 c2 c3 hb
      dsimp only at c0 c1 c2 c3 hb
      have HBB := Lib.hid hb
      clear ht hb
      cases hf : Tp.few bs with
      | false =>
        have HF : Hid (St.few ts = false) := Lib.hid (by
          cases h : St.few ts with
          | false => rfl
          | true =>
            have := (St.few_of h).2.1 ts[i] (List.getElem_mem hlt)
            rw [← HT.out] at this
            exact (hf.symm.trans this).symm)
        go_wp2_with fail
        refine (few_no lab cap A' bs C' lost _ _ HBB.out hf).mono ?_
        rintro e w1 ⟨rfl, hb1⟩
        have HB1 := Lib.hid (HB.out.trans (hb1.mono HB.out.size))
        clear hb1 hf
        go_wp2
        go_ret
        exact ⟨by rw [HF.out]; rfl, HB1.out⟩
      | true =>
        obtain ⟨k, hk⟩ : ∃ k, k = bs.length := ⟨_, rfl⟩
        have hk90 : k ≤ 90 := by rw [hk]; exact (Tp.few_of hf).1
        have HN1 : Hid (n + k = St.sum (ts.take (i + 1))) := Lib.hid (by rw [St.sum_take hlt, ← HN.out, ← HT.out, hk])
        have HJ1 : Hid (∀ j (hj : j < ts.length), j < i + 1 → Tp.few ts[j].blocks = true) := Lib.hid fun j hj hji => by
          by_cases e : j = i
          · subst e; rw [← HT.out]; exact hf
          · exact HJ.out j hj (by omega)
        have HFW := Lib.hid (few_yes lab cap A' bs C' lost _ wr HBB.out hf)
        rw [← hk] at c2 HFW
        clear hf hk
        go_wp2_with fail
        refine HFW.out.mono ?_
        rintro e w1 ⟨rfl, hb1⟩
        have HB1 := Lib.hid (HB.out.trans (hb1.mono HB.out.size))
        have d2 := (hb1.cell (World.block_lt_of_cell? _ _ c2)).trans c2
        clear hb1 c0 c1 c2 c3
        go_wp2
        go_roundw
        case rel => exact ⟨i + 1, n + k, by omega, by omega, by omega, by go_num, by go_num, HN1, HJ1, HB1⟩
        case measure => simp [intOf]; omega
    · have HS : Hid (n = St.sum ts) := Lib.hid (by rw [HN.out, List.take_of_length_le (by omega)])
      have HALL : Hid (∀ t ∈ ts, Tp.few t.blocks = true) := Lib.hid fun t ht => by
        obtain ⟨j, hj, rfl⟩ := List.mem_iff_getElem.1 ht
        exact HJ.out j hj (by omega)
      have e0 : decide (i < ts.length) = false := decide_eq_false (by omega)
      by_cases a : ts.length ≤ 14
      · have d1 : decide ((ts.length : Int) ≤ 14) = true := decide_eq_true (by omega)
        by_cases a2 : n ≤ 300
        · have d2 : decide ((n : Int) ≤ 300) = true := decide_eq_true (by omega)
          have HF := Lib.hid (St.few_is a HALL.out (by rw [← HS.out]; exact a2))
          clear a a2 he
          go_wp2
          go_ret
          exact ⟨by rw [HF.out]; rfl, HB.out⟩
        · have d2 : decide ((n : Int) ≤ 300) = false := decide_eq_false (by omega)
          have HF : Hid (St.few ts = false) := Lib.hid (by
            cases h : St.few ts with
            | false => rfl
            | true => exact absurd (St.few_of h).2.2 (by rw [← HS.out]; exact a2))
          clear a a2 he
          go_wp2
          go_ret
          exact ⟨by rw [HF.out]; rfl, HB.out⟩
      · have d1 : decide ((ts.length : Int) ≤ 14) = false := decide_eq_false (by omega)
        have HF : Hid (St.few ts = false) := Lib.hid (by
          cases h : St.few ts with
          | false => rfl
          | true => exact absurd (St.few_of h).1 a)
        clear a he
        go_wp2
        go_ret
        exact ⟨by rw [HF.out]; rfl, HB.out⟩
    · have e0 : decide (i < ts.length) = true := decide_eq_true (by omega)
      have e2 : decide ((i : Int) < 20) = false := decide_eq_false (by omega)
      have d1 : decide ((ts.length : Int) ≤ 14) = false := decide_eq_false (by omega)
      have HF : Hid (St.few ts = false) := Lib.hid (by
        cases h : St.few ts with
        | false => rfl
        | true => have := (St.few_of h).1; omega)
      clear he
      go_wp2
      go_ret
      exact ⟨by rw [HF.out]; rfl, HB.out⟩
end Go.Proofs.YtfkoomldncfdnaaGreat
namespace Go.Proofs.YtfkoomldncfdnaaGreat
open Go.RowKit
open Pt (Tx)

/-- a row of numbers in new memory -/
def NewZ (l : List Int) (w : World) (e : Ending) (w' : World) : Prop :=
  ∃ A C, e = .returned (.slice A l.length C) ∧ l.length ≤ C ∧ C ≤ maxLen ∧ (A = none → l.length = 0 ∧ C = 0) ∧ RdZ w' A l (w.heap.size ≤ ·) ∧ Below w.heap.size w w'
set_option maxHeartbeats 1000000 in
theorem cloneZ_any (A : Option Addr) (l : List Int) (n C : Nat) (G : Nat → Prop) (w : World) (hn : n = l.length) (hn0 : 0 < n) (hm : n ≤ 1000000) (hr : RdZ w A l G) :
    Calls Tryz.prog 38 #[.slice A n C] w (NewZ l w) := by
  obtain ⟨b, off, rfl, -, -⟩ := hr.at_ (j := 0) (by omega)
  have hown : OwnZ (w.alloc (.cells #[] 3)) w.heap.size (.slice (some ⟨w.heap.size, 0, none⟩) 0 0) [] := World.ownsRow_made w #[] 0 (Nat.le_refl _) (by decide) rfl
  have hb0 : Below w.heap.size w (w.alloc (.cells #[] 3)) := (Below.refl _ _).alloc (Nat.le_refl _) _
  obtain ⟨i0, hi, hz0, hz1, hz2⟩ := info_parts infoI
  have hnews : ∀ j u, (cellsZ l)[j]? = some u → (w.alloc (.cells #[] 3)).cell? ((⟨b, off, none⟩ : Addr).add j) = some u := fun j u hu => by
    obtain ⟨hj, rfl⟩ := cellsZ_some hu
    obtain ⟨b', off', e, -, hc⟩ := (hr.old hb0).at_ hj
    cases e
    rw [addr_add]; exact hc
  have hnil : ∀ (w : World) (a : Option Addr) (n c n' c' : Nat), (binOp .eql 36 (.slice a n c) (.slice none n' c')).run Tryz.prog w = .ok (.bool a.isNone) w := fun w a n c n' c' => Lib.run_eql_slice_nil w _ _ a n c n' c' Tryz.underlying36
  have hlen : (cellsZ l).length = n * 1 := by rw [cellsZ_len, Nat.mul_one, hn]
  have HN := Lib.hid hn
  have HB0 := Lib.hid hb0
  have HNEW := Lib.hid hnews
  clear hr hb0 hn hnews
  go_enter Tryz.func38, Tryz.ntmps38
  go_wp2_with (at_builtin; refine wpList_append_own _ rfl _ _ 36 rfl w.heap.size 3 i0 (.int .i64 0) 1 8 Tryz.underlying36 hi hz0 hz1 hz2 rfl (by decide) _ _ _ rfl hown ⟨b, off, none⟩ n C (cellsZ l) rfl hlen HNEW.out cellsZ_one (by unfold maxLen; simp; omega) (by simp; omega) (by simp) ?_)
  intro v' w' hown' hgrow _
  have HB := Lib.hid (HB0.out.grown hgrow (by simp) (fun k hk => by simp [Value.ownBlock] at hk; omega))
  have hO : OwnZ w' w.heap.size v' l := by
    unfold OwnZ
    rw [← HN.out]
    exact hown'
  obtain ⟨A2, C2, rfl, h2, h3, h4, h5⟩ := hO.rd
  have H5 := Lib.hid h5
  have H4 := Lib.hid h4
  clear hown' hgrow hown hnil h5 h4 hO
  go_wp2
  go_ret
  exact ⟨_, _, rfl, h2, h3, H4.out, H5.out, HB.out⟩
theorem of_take {l : List Rc.S} {label : Int} {i : Nat} (h : i < l.length) (hno : ∀ s ∈ l.take i, label ∉ s.labels) (hy : label ∈ l[i].labels) : Gr.of l label = some l[i] := by
  unfold Gr.of
  have e : (l.take i ++ l.drop i).find? (fun s => decide (label ∈ s.labels)) = some l[i] := by
    rw [List.find?_append, List.find?_eq_none.2 (fun s hs => by simpa using hno s hs), List.drop_eq_getElem_cons h, List.find?_cons_of_pos (by simpa using hy)]
    rfl
  rwa [List.take_append_drop] at e
theorem of_none {l : List Rc.S} {label : Int} (hno : ∀ s ∈ l, label ∉ s.labels) : Gr.of l label = none := by
  unfold Gr.of
  exact List.find?_eq_none.2 (fun s hs => by simpa using hno s hs)
/-- the five cells of one that is read -/
theorem rd_five {w : World} {A : Option Addr} {xs : List Sx} {G : Nat → Prop} (h : encX.Rd w A xs G) {i : Nat} (hi : i < xs.length) {x : Sx} (hx : xs[i] = x) : ∃ b off, A = some ⟨b, off, none⟩ ∧ Five w b (off + i * 5) x.s.number x.s.index x.s.data x.s.parity x.A x.s.labels.length x.C := by
  subst hx
  obtain ⟨b, off, e, -, hc⟩ := h.at_ hi
  exact ⟨b, off, e, hc 0 _ rfl, hc 1 _ rfl, hc 2 _ rfl, hc 3 _ rfl, hc 4 _ rfl⟩
set_option maxRecDepth 100000 in
set_option maxHeartbeats 8000000 in
theorem of_any (A : Option Addr) (xs : List Sx) (n C : Nat) (G : Nat → Prop) (label : Int) (w : World) (hn : n = xs.length) (hm : n ≤ 1000) (hr : encX.Rd w A xs G) (hok : ∀ x ∈ xs, x.Ok w (fun _ => True) ∧ x.s.labels.length ≤ 1000) :
    Calls Tryz.prog 14 #[.slice A n C, .int .i64 label] w (SealA (Gr.of (xs.map Sx.s) label) w) := by
  have HR := Lib.hid hr
  have HN := Lib.hid hn
  have HOK := Lib.hid hok
  obtain ⟨wb, hwb⟩ : ∃ wb, wb = w.alloc (sealObj 0 0 0 0 none 0 0) := ⟨_, rfl⟩
  have hB : Below w.heap.size w wb := by rw [hwb]; exact (Below.refl _ _).alloc (Nat.le_refl _) _
  have hU : wb.heap[w.heap.size]? = some (sealObj 0 0 0 0 none 0 0) := by rw [hwb]; exact Go.Deep.blk_alloc_new _ _
  have HB0 := Lib.hid hB
  have HU0 := Lib.hid hU
  have HW := Lib.hid hwb
  unfold sealObj at HW
  clear hr hn hok hwb hB hU
  go_enter Tryz.func14, Tryz.ntmps14
  go_wp2
  rw [← HW.out]
  go_loopw [10] (fun vi wr => ∃ i : Nat, i ≤ n ∧ vi = .int .i64 (i : Int) ∧ Hid (∀ s ∈ (xs.map Sx.s).take i, label ∉ s.labels) ∧ Hid (Below w.heap.size w wr) ∧ Hid (wr.heap[w.heap.size]? = some (sealObj 0 0 0 0 none 0 0))) (fun vi _ => n - (intOf vi).toNat)
  case atStart => exact ⟨0, Nat.zero_le _, rfl, Lib.hid (fun s hs => by cases hs), HB0, HU0⟩
  case round =>
    obtain ⟨i, hi, rfl, HNO, HB, HU⟩ := hrel
    by_cases hlt : i < n
    · have e0 : decide (i < n) = true := decide_eq_true hlt
      have hlt' : i < xs.length := by rw [← HN.out]; exact hlt
      obtain ⟨x, hx⟩ : ∃ x, x = xs[i] := ⟨_, rfl⟩
      obtain ⟨b, off, rfl, hf⟩ := rd_five (HR.out.old HB.out) hlt' hx.symm
      have hxo := HOK.out x (by rw [hx]; exact List.getElem_mem hlt')
      have hlt2 : i < (xs.map Sx.s).length := by simpa using hlt'
      have hxm : (xs.map Sx.s)[i] = x.s := by rw [List.getElem_map, ← hx]
      obtain ⟨⟨sn, si, sd, sp, sl⟩, sA, sC⟩ := x
      have HYES : Hid (label ∈ sl → Gr.of (xs.map Sx.s) label = some ⟨sn, si, sd, sp, sl⟩) := Lib.hid fun h => by
        rw [of_take hlt2 HNO.out (by rw [hxm]; exact h), hxm]
      have HNEXT : Hid (label ∉ sl → ∀ s ∈ (xs.map Sx.s).take (i + 1), label ∉ s.labels) := Lib.hid fun h s hs => by
        rw [List.take_succ_eq_append_getElem hlt2, hxm] at hs
        rcases List.mem_append.1 hs with hs | hs
        · exact HNO.out s hs
        · rw [List.mem_singleton.1 hs]; exact h
      dsimp only at hf hxo
      obtain ⟨m, hm⟩ : ∃ m, m = sl.length := ⟨_, rfl⟩
      rw [← hm] at hf hxo
      have HM := Lib.hid hm
      obtain ⟨c0, c1, c2, c3, c4⟩ := hf
      obtain ⟨wa, hwa⟩ : ∃ wa, wa = wr.alloc (sealObj sn si sd sp sA m sC) := ⟨_, rfl⟩
      have hba : Below wr.heap.size wr wa := by rw [hwa]; exact (Below.refl _ _).alloc (Nat.le_refl _) _
      have hSa : wa.heap[wr.heap.size]? = some (sealObj sn si sd sp sA m sC) := by rw [hwa]; exact Go.Deep.blk_alloc_new _ _
      have HSA := Lib.hid hSa
      have HBA := Lib.hid (HB.out.trans (hba.mono HB.out.size))
      have HUA := Lib.hid (below_obj hba HU.out)
      have HXO := Lib.hid (hxo.1.old HBA.out)
      have hlo : w.heap.size < wr.heap.size := heap_lt HU.out
      have hml : m ≤ 1000 := hxo.2
      have HWA := Lib.hid hwa
      unfold sealObj at HWA
      obtain ⟨x0, x1, x2, x3, x4⟩ := seal5 hSa
      rw [HWA.out] at x0 x1 x2 x3 x4
      have hcall := contains_any sA sl m sC label (fun _ => True) wa hm (by unfold maxLen; omega) HXO.out.rd
      obtain ⟨d, hd⟩ : ∃ d, d = decide (label ∈ sl) := ⟨_, rfl⟩
      rw [← hd] at hcall
      have HC := Lib.hid hcall
      have HD := Lib.hid hd
      clear hx hxo hlt2 hxm hm hwa hba hSa hcall hd
      cases d with
      | false =>
        have HN2 := Lib.hid (HNEXT.out (of_decide_eq_false HD.out.symm))
        go_wp2_with fail
        rw [← HWA.out]
        refine HC.out.mono ?_
        rintro e w1 ⟨rfl, hw1⟩
        subst hw1
        clear x0 x1 x2 x3 x4 c0 c1 c2 c3 c4
        go_wp2
        go_roundw
        case rel => exact ⟨i + 1, by omega, by go_num, HN2, HBA, HUA⟩
        case measure => simp [intOf]; omega
      | true =>
        have hmem : label ∈ sl := of_decide_eq_true HD.out.symm
        have hm0 : 0 < m := by rw [HM.out]; exact List.length_pos_of_mem hmem
        have HOF := Lib.hid (HYES.out hmem)
        have HCL := Lib.hid (cloneZ_any sA sl m sC (fun _ => True) wa HM.out hm0 (by omega) HXO.out.rd)
        clear hmem HYES HNEXT
        go_wp2_with fail
        rw [← HWA.out]
        refine HC.out.mono ?_
        rintro e w1 ⟨rfl, hw1⟩
        subst hw1
        clear x0 x1 x2 x3 x4 c0 c1 c2 c3 c4
        obtain ⟨x0, x1, x2, x3, x4⟩ := seal5 HSA.out
        go_wp2_with fail
        refine HCL.out.mono ?_
        rintro e w2 ⟨A2, C2, rfl, hc2, hcm2, hn2, hr2, hb2⟩
        rw [← HM.out]
        have hS2 := below_obj hb2 HSA.out
        have hU2 := below_obj hb2 HUA.out
        have HB2 := Lib.hid (HBA.out.trans (hb2.mono HBA.out.size))
        have HK2 : Hid (Kp (· = wr.heap.size) w2 (w2.setCell ⟨wr.heap.size, 4, none⟩ (.slice A2 m C2))) := Lib.hid (Kp.store _ _ _ _)
        have hS3 := heap_set (j := 4) hS2 (.slice A2 m C2)
        have hS3' : (w2.setCell ⟨wr.heap.size, 4, none⟩ (.slice A2 m C2)).heap[wr.heap.size]? = some (sealObj sn si sd sp A2 m C2) := hS3
        have HO2 : Hid (Sx.Ok ⟨⟨sn, si, sd, sp, sl⟩, A2, C2⟩ w2 (fun x => w.heap.size ≤ x ∧ x ≠ w.heap.size ∧ x ≠ wr.heap.size)) := Lib.hid ⟨hc2, hcm2, hn2, hr2.mono fun x hx => by
          have h1 : wa.heap.size ≤ x := hx
          have h2 := heap_lt HSA.out
          omega⟩
        have hU3 : (w2.setCell ⟨wr.heap.size, 4, none⟩ (.slice A2 m C2)).heap[w.heap.size]? = some (sealObj 0 0 0 0 none 0 0) := (HK2.out.block _ (heap_lt hU2) (by omega)).trans hU2
        clear x0 x1 x2 x3 x4
        obtain ⟨x0, x1, x2, x3, x4⟩ := seal5 hS2
        obtain ⟨f0, f1, f2, f3, f4⟩ := seal_free hS2
        obtain ⟨w3, hw3⟩ : ∃ w3, w3 = w2.setCell ⟨wr.heap.size, 4, none⟩ (.slice A2 m C2) := ⟨_, rfl⟩
        rw [← hw3] at HK2 hS3' hU3
        obtain ⟨y0, y1, y2, y3, y4⟩ := seal5 hS3'
        obtain ⟨z0, z1, z2, z3, z4⟩ := seal5 hU3
        obtain ⟨u0, u1, u2, u3, u4⟩ := seal_free hU3
        have HU3 := Lib.hid hU3
        have HW3 := Lib.hid hw3
        have HB3 := Lib.hid (HB2.out.trans (HK2.out.below HB2.out.size (fun k e => by omega)))
        have HO3 : Hid (Sx.Ok ⟨⟨sn, si, sd, sp, sl⟩, A2, C2⟩ w3 (fun x => w.heap.size ≤ x ∧ x ≠ w.heap.size)) := Lib.hid ((HO2.out.kp HK2.out (fun x hx e => hx.2.2 e)).mono fun x hx => ⟨hx.1, hx.2.1⟩)
        rw [hw3] at y0 y1 y2 y3 y4 z0 z1 z2 z3 z4 u0 u1 u2 u3 u4
        clear hb2 hr2 hS2 hU2 hS3 hS3' hU3 hw3 hc2 hcm2 hn2
        go_wp2
        rw [← HW3.out]
        clear z0 z1 z2 z3 z4
        obtain ⟨z0, z1, z2, z3, z4⟩ := seal5 HU3.out
        refine bodyPost_ret (v := .tuple #[.agg #[.int .i64 sn, .int .i64 si, .int .i64 sd, .int .i64 sp, .slice A2 m C2], .bool true]) (by simp [results, Tryz.results14, go_sem, z0, z1, z2, z3, z4]) rfl ?_
        rw [HOF.out]
        exact SealA.stored (l := sl) rfl rfl (Nat.le_refl _) HM.out HO3.out HB3.out
    · have e0 : decide (i < n) = false := decide_eq_false hlt
      have HOF : Hid (Gr.of (xs.map Sx.s) label = none) := Lib.hid (of_none (by
        have h1 := HNO.out
        rwa [List.take_of_length_le (by rw [List.length_map, ← HN.out]; omega)] at h1))
      obtain ⟨z0, z1, z2, z3, z4⟩ := seal5 HU.out
      obtain ⟨u0, u1, u2, u3, u4⟩ := seal_free HU.out
      go_wp2
      clear z0 z1 z2 z3 z4
      obtain ⟨z0, z1, z2, z3, z4⟩ := seal5 HU.out
      refine bodyPost_ret (v := .tuple #[.agg #[.int .i64 0, .int .i64 0, .int .i64 0, .int .i64 0, .slice none 0 0], .bool false]) (by simp [results, Tryz.results14, go_sem, z0, z1, z2, z3, z4]) rfl ?_
      rw [HOF.out]
      exact SealA.stored (l := []) rfl rfl (Nat.le_refl _) rfl (nil_ok _ _ _ _ _ _) HB.out
end Go.Proofs.YtfkoomldncfdnaaGreat
namespace Go.Proofs.YtfkoomldncfdnaaGreat
open Go.RowKit
open Pt (Tx)

/-- the document's own Reader -/
structure Rf (w : World) (g : Nat) (s : Cd.St) (G : Nat → Prop) : Prop where
  ex : ∃ A m c, w.heap[g]? = some (.cells #[.slice A m c, .bool s.2] 146 (0, 0)) ∧ m ≤ c ∧ m ≤ maxLen ∧ (A = none → m = 0 ∧ c = 0) ∧ (s.2 = false → m = s.1.length ∧ RdL w A s.1 G)
  ok : Cd.Ok s
  ng : ¬ G g
theorem Rf.lt {w : World} {g : Nat} {s : Cd.St} {G : Nat → Prop} (h : Rf w g s G) : g < w.heap.size := by
  obtain ⟨A, m, c, h1, _⟩ := h.ex; exact heap_lt h1
theorem Rf.kp {w w' : World} {g : Nat} {s : Cd.St} {G S : Nat → Prop} (h : Rf w g s G) (hk : Kp S w w') (hg : ¬ S g) (hs : ∀ b, G b → ¬ S b) : Rf w' g s G := by
  obtain ⟨⟨A, m, c, h1, h2, h0, h3, h5⟩, ho, hn⟩ := h
  exact ⟨⟨A, m, c, (hk.block g (heap_lt h1) hg).trans h1, h2, h0, h3, fun h => ⟨(h5 h).1, (h5 h).2.kp hk hs⟩⟩, ho, hn⟩
/-- .. what is read of it -/
def RefRed (v : Value) (g : Nat) (s : Cd.St) (G : Nat → Prop) (w : World) (e : Ending) (w' : World) : Prop := e = .returned v ∧ Rf w' g s G ∧ Kp (· = g) w w'
end Go.Proofs.YtfkoomldncfdnaaGreat
namespace Go.Proofs.YtfkoomldncfdnaaGreat
open Go.RowKit
open Pt (Tx)

/-- a new Reader of the document's own: of these very bytes -/
def NewF (l : Tx) (G : Nat → Prop) (w : World) (e : Ending) (w' : World) : Prop := e = .returned (.pointer (some ⟨w.heap.size, 0, none⟩)) ∧ Rf w' w.heap.size (l, false) G ∧ Below w.heap.size w w'
theorem refNewReader_any (A : Option Addr) (l : Tx) (c : Nat) (G : Nat → Prop) (w : World) (hA : A = none → l.length = 0 ∧ c = 0) (hc : l.length ≤ c) (hc' : l.length ≤ maxLen) (hr : RdL w A l G) (hg : ¬ G w.heap.size) :
    Calls Tryz.prog 83 #[.slice A l.length c] w (NewF l G w) := by
  have HA := Lib.hid hA
  clear hA
  go_enter Tryz.func83, Tryz.ntmps83
  go_wp2
  go_ret
  exact ⟨rfl, ⟨⟨A, l.length, c, Go.Deep.blk_alloc_new _ _, hc, hc', HA.out, fun _ => ⟨rfl, hr.old ((Below.refl _ _).alloc (Nat.le_refl _) _)⟩⟩, (fun h => by cases h), hg⟩, (Below.refl _ _).alloc (Nat.le_refl _) _⟩
theorem Rf.set {w : World} {g : Nat} {v : Value} {G : Nat → Prop} (h1 : w.heap[g]? = some (.cells #[v, .bool false] 146 (0, 0))) {A : Option Addr} {c m : Nat} {l : Tx} (hm : m = l.length) (hl : l.length ≤ c) (hc : l.length ≤ maxLen) (hA : A = none → l.length = 0 ∧ c = 0) (hr : RdL w A l G) (ng : ¬ G g) :
    Rf (w.setCell ⟨g, 0, none⟩ (.slice A m c)) g (l, false) G := by
  subst hm
  refine ⟨⟨A, l.length, c, ?_, hl, hc, hA, fun _ => ⟨rfl, hr.kp (Kp.store w g 0 _) (fun b hb e => ng (e ▸ hb))⟩⟩, (fun h => by cases h), ng⟩
  rw [heap_set h1]; simp
def RefTook (n g : Nat) (s : Cd.St) (G : Nat → Prop) (w : World) (e : Ending) (w' : World) : Prop := ∃ A c, e = .returned (.slice A (Cd.tk n s).length c) ∧ RdL w' A (Cd.tk n s) G ∧ Rf w' g (Cd.af n s) G ∧ Kp (· = g) w w'
/-- the same, and that what is nil has no room -/
def RefTookN (n g : Nat) (s : Cd.St) (G : Nat → Prop) (w : World) (e : Ending) (w' : World) : Prop := ∃ A c, e = .returned (.slice A (Cd.tk n s).length c) ∧ RdL w' A (Cd.tk n s) G ∧ Rf w' g (Cd.af n s) G ∧ Kp (· = g) w w' ∧ (A = none → (Cd.tk n s).length = 0 ∧ c = 0)
/-- nothing is left -/
theorem RefTookN.lost {n g : Nat} {s : Cd.St} {G : Nat → Prop} {w : World} {v : Value} {bad : Bool} (h1 : w.heap[g]? = some (.cells #[v, .bool bad] 146 (0, 0))) {A : Option Addr} {m c : Nat} (hv : v = .slice A m c) (hm : m ≤ c) (hc : m ≤ maxLen) (hA : A = none → m = 0 ∧ c = 0) (ng : ¬ G g) (ht : Cd.tk n s = []) (ha : Cd.af n s = ([], true)) :
    RefTookN n g s G w (.returned (.slice none 0 0)) (w.setCell ⟨g, 1, none⟩ (.bool true)) := by
  subst hv
  refine ⟨none, 0, by rw [ht]; rfl, by rw [ht]; exact RdL.empty _ _ _, ?_, Kp.store w g 1 _, fun _ => ⟨by rw [ht]; rfl, rfl⟩⟩
  rw [ha]
  refine ⟨⟨A, m, c, ?_, hm, hc, hA, (fun h => by cases h)⟩, fun _ => rfl, ng⟩
  rw [heap_set h1]; simp
set_option maxRecDepth 100000 in
theorem refTakeN_any (g n : Nat) (s : Cd.St) (G : Nat → Prop) (w : World) (h : Rf w g s G) (hn : n ≤ 1000) :
    Calls Tryz.prog 88 #[.pointer (some ⟨g, 0, none⟩), .int .i64 (n : Int)] w (RefTookN n g s G w) := by
  obtain ⟨⟨A, m, c, h1, h2, h5, h3, h4⟩, hok, ng⟩ := h
  obtain ⟨l, bad⟩ := s
  simp only at h1 h4
  have h5' := h5
  unfold maxLen at h5'
  have c0 : w.cell? ⟨g, 0, none⟩ = some (.slice A m c) := heap_cell h1
  have c1 : w.cell? ⟨g, 1, none⟩ = some (.bool bad) := heap_cell h1
  have f0 : w.frozen? ⟨g, 0, none⟩ = false := heap_frozen h1
  have f1 : w.frozen? ⟨g, 1, none⟩ = false := heap_frozen h1
  have H1 := Lib.hid h1
  have H3 := Lib.hid h3
  have H4 := Lib.hid h4
  have H5 := Lib.hid h5
  clear h1 h3 h4 h5
  cases bad with
  | true =>
    have hl0 : l = [] := hok rfl
    have ht : Cd.tk n (l, true) = [] := by rw [hl0]; unfold Cd.tk; split <;> simp
    have ha : Cd.af n (l, true) = ([], true) := by rw [hl0]; unfold Cd.af; split <;> simp
    have HT := Lib.hid ht
    have HA := Lib.hid ha
    clear hl0 ht ha
    go_enter Tryz.func88, Tryz.ntmps88
    go_wp2
    go_ret
    exact RefTookN.lost H1.out rfl h2 H5.out H3.out ng HT.out HA.out
  | false =>
    obtain ⟨rfl, h4⟩ := H4.out rfl
    have H4' := Lib.hid h4
    clear h4
    by_cases hlt : l.length < n
    · have q1 : decide (l.length < n) = true := decide_eq_true hlt
      go_enter Tryz.func88, Tryz.ntmps88
      go_wp2
      go_ret
      exact RefTookN.lost H1.out rfl h2 H5.out H3.out ng (Cd.tk_no hlt) (Cd.af_no hlt)
    · have q0 : decide (l.length < n) = false := decide_eq_false hlt
      by_cases h0 : n = 0
      · subst h0
        have q2 : decide ((l.length : Int) < 0) = false := decide_eq_false (by omega)
        go_enter Tryz.func88, Tryz.ntmps88
        go_wp2
        go_ret
        have ht : Cd.tk 0 (l, false) = [] := by rw [Cd.tk_yes hlt]; rfl
        have ha : Cd.af 0 (l, false) = (l, false) := by rw [Cd.af_yes hlt]; rfl
        refine ⟨A, c, by rw [ht]; rfl, by rw [ht]; exact RdL.empty _ _ _, ?_, Kp.store w g 0 _, fun h => ⟨by rw [ht]; rfl, (H3.out h).2⟩⟩
        rw [ha]
        exact Rf.set H1.out rfl h2 H5.out H3.out H4'.out ng
      · obtain ⟨b, off, rfl, hb, -⟩ := H4'.out (by omega)
        have hmin : (l.take n).length = n := by simp; omega
        have ht : Cd.tk n (l, false) = l.take n := Cd.tk_yes hlt
        have ha : Cd.af n (l, false) = (l.drop n, false) := Cd.af_yes hlt
        have HT := Lib.hid ht
        have HA := Lib.hid ha
        have HM := Lib.hid hmin
        clear ht ha hmin
        by_cases hc : c = n
        · subst hc
          have hll : c = l.length := by omega
          have HLL := Lib.hid hll
          clear hll
          have q1 : (c : Int) ≤ (l.length : Int) := by omega
          go_enter Tryz.func88, Tryz.ntmps88
          go_wp2
          go_ret
          have hd : (l.drop c).length = 0 := by have := HLL.out; simp; omega
          refine ⟨some ⟨b, off, none⟩, c, by rw [HT.out, HM.out]; rfl, by rw [HT.out]; exact (H4'.out.take _).kp (Kp.store w g 0 _) (fun x hx e => ng (e ▸ hx)), ?_, Kp.store w g 0 _, fun h => by cases h⟩
          rw [HA.out]
          exact Rf.set H1.out hd.symm (by omega) (by rw [hd]; decide) (fun h => by cases h) (fun h => by omega) ng
        · have q1 : n ≤ l.length := by omega
          have q2 : n ≤ c := by omega
          have q3 : ¬ n = c := fun h => hc h.symm
          go_enter Tryz.func88, Tryz.ntmps88
          go_wp2
          go_ret
          refine ⟨some ⟨b, off, none⟩, c, by rw [HT.out, HM.out]; rfl, by rw [HT.out]; exact (H4'.out.take _).kp (Kp.store w g 0 _) (fun x hx e => ng (e ▸ hx)), ?_, Kp.store w g 0 _, fun h => by cases h⟩
          rw [HA.out]
          exact Rf.set H1.out (by simp) (by simp; omega) (by rw [List.length_drop]; exact Nat.le_trans (Nat.sub_le _ _) H5.out) (fun h => by cases h) (H4'.out.drop n) ng
theorem refTake_any (g n : Nat) (s : Cd.St) (G : Nat → Prop) (w : World) (h : Rf w g s G) (hn : n ≤ 1000) :
    Calls Tryz.prog 88 #[.pointer (some ⟨g, 0, none⟩), .int .i64 (n : Int)] w (RefTook n g s G w) :=
  (refTakeN_any g n s G w h hn).mono fun _ _ ⟨A, c, h1, h2, h3, h4, _⟩ => ⟨A, c, h1, h2, h3, h4⟩
set_option maxRecDepth 100000 in
theorem refInt_any (g : Nat) (s : Cd.St) (G : Nat → Prop) (w : World) (h : Rf w g s G) :
    Calls Tryz.prog 85 #[.pointer (some ⟨g, 0, none⟩)] w (RefRed (.int .i64 (Cd.num (Cd.tk 4 s))) g (Cd.af 4 s) G w) := by
  go_enter Tryz.func85, Tryz.ntmps85
  go_wp2_with (go_at_call 88; refine (refTake_any g 4 s G w h (by decide)).mono ?_; rintro e w1 ⟨A, c, rfl, hr, hR, hK⟩; have HR := Lib.hid hr; have HRR := Lib.hid hR; have HK := Lib.hid hK; clear hr hR hK)
  obtain ⟨t, ht⟩ : ∃ t, t = Cd.tk 4 s := ⟨_, rfl⟩
  have h4 : t.length ≤ 4 := by rw [ht]; exact Cd.tk_le 4 s
  rw [← ht] at HR ⊢
  have HT := Lib.hid ht
  clear ht
  go_loop [4, 5] (fun vn vi => ∃ k : Nat, k ≤ t.length ∧ vi = .int .i64 (k : Int) ∧ vn = .int .i64 (Cd.num (t.take k))) (fun _ vi => t.length - (intOf vi).toNat)
  case atStart => exact ⟨0, Nat.zero_le _, rfl, rfl⟩
  case round =>
    obtain ⟨k, hk, rfl, rfl⟩ := hrel
    by_cases hlt : k < t.length
    · obtain ⟨b, off, rfl, -, hc⟩ := HR.out.at_ hlt
      have hs := num_small t k h4
      obtain ⟨a, ha⟩ : ∃ a : Nat, Cd.num (t.take k) = (a : Int) := ⟨(Cd.num (t.take k)).toNat, by omega⟩
      have HN := Lib.hid (take_num t k hlt)
      rw [ha] at HN hs ⊢
      clear ha
      have ha' : a < 1099511627776 := by omega
      have hcl := t[k].toNat_lt
      have hor := or_byte a t[k].toNat ha' hcl
      clear ha'
      go_wp2
      go_round
      case rel => exact ⟨k + 1, by omega, by go_num, by rw [HN.out]⟩
      case measure => simp [intOf]; omega
    · go_wp2
      go_ret
      have e : t.take k = t := List.take_of_length_le (by omega)
      refine ⟨?_, HRR.out, HK.out⟩
      rw [← HT.out, e]; rfl
set_option maxRecDepth 100000 in
theorem refByte_any (g : Nat) (s : Cd.St) (G : Nat → Prop) (w : World) (h : Rf w g s G) :
    Calls Tryz.prog 84 #[.pointer (some ⟨g, 0, none⟩)] w (RefRed (.int .u8 ((Cd.byt s).toNat : Int)) g (Cd.af 1 s) G w) := by
  obtain ⟨t, ht⟩ : ∃ t, t = Cd.tk 1 s := ⟨_, rfl⟩
  have h1 : t.length ≤ 1 := by rw [ht]; exact Cd.tk_le 1 s
  have htake := refTake_any g 1 s G w h (by decide)
  unfold RefTook at htake
  rw [← ht] at htake
  have HT := Lib.hid ht
  clear ht
  by_cases h0 : t.length = 0
  · have q1 : ((t.length : Int) == 0) = true := by rw [h0]; rfl
    have HB := Lib.hid (byt_of HT.out h0)
    clear h0
    go_enter Tryz.func84, Tryz.ntmps84
    go_wp2_with (go_at_call 88; refine htake.mono ?_; rintro e w1 ⟨A, c, rfl, hr, hR, hK⟩; have HR := Lib.hid hr; have HRR := Lib.hid hR; have HK := Lib.hid hK; clear hr hR hK)
    go_ret
    refine ⟨?_, HRR.out, HK.out⟩
    rw [HB.out]; rfl
  · have q1 : ((t.length : Int) == 0) = false := beq_eq_false_iff_ne.2 (by omega)
    have hp : 0 < t.length := by omega
    have HB := Lib.hid (byt_at HT.out hp)
    have h0' : ¬ t.length = 0 := h0
    clear h0
    go_enter Tryz.func84, Tryz.ntmps84
    go_wp2_with (go_at_call 88; refine htake.mono ?_; rintro e w1 ⟨A, c, rfl, hr, hR, hK⟩; obtain ⟨b, off, rfl, -, hc⟩ := hr.at_ hp; rw [Nat.add_zero] at hc; have HRR := Lib.hid hR; have HK := Lib.hid hK; clear hr hR hK)
    go_ret
    refine ⟨?_, HRR.out, HK.out⟩
    rw [HB.out]; rfl
theorem refLeft_any (g : Nat) (s : Cd.St) (G : Nat → Prop) (w : World) (h : Rf w g s G) :
    Calls Tryz.prog 87 #[.pointer (some ⟨g, 0, none⟩)] w fun e w' => e = .returned (.int .i64 (s.1.length : Int)) ∧ w = w' := by
  obtain ⟨⟨A, m, c, h1, -, -, -, h4⟩, hok, ng⟩ := h
  obtain ⟨l, bad⟩ := s
  have c0 : w.cell? ⟨g, 0, none⟩ = some (.slice A m c) := heap_cell h1
  have c1 : w.cell? ⟨g, 1, none⟩ = some (.bool bad) := heap_cell h1
  clear h1
  cases bad with
  | true =>
    have hl0 : l = [] := hok rfl
    subst hl0
    clear h4
    go_enter Tryz.func87, Tryz.ntmps87
    go_wp2
    go_ret
    exact ⟨rfl, rfl⟩
  | false =>
    obtain ⟨rfl, -⟩ := h4 rfl
    go_enter Tryz.func87, Tryz.ntmps87
    go_wp2
    go_ret
    exact ⟨rfl, rfl⟩
end Go.Proofs.YtfkoomldncfdnaaGreat
namespace Go.Proofs.YtfkoomldncfdnaaGreat
open Go.RowKit
open Pt (Tx)

theorem refBad_any (g : Nat) (s : Cd.St) (G : Nat → Prop) (w : World) (h : Rf w g s G) :
    Calls Tryz.prog 86 #[.pointer (some ⟨g, 0, none⟩)] w fun e w' => e = .returned (.bool s.2) ∧ w = w' := by
  obtain ⟨⟨A, m, c, h1, -, -, -, -⟩, hok, ng⟩ := h
  have c1 : w.cell? ⟨g, 1, none⟩ = some (.bool s.2) := heap_cell h1
  clear h1 hok
  go_enter Tryz.func86, Tryz.ntmps86
  go_wp2
  go_ret
  exact ⟨rfl, rfl⟩
end Go.Proofs.YtfkoomldncfdnaaGreat
namespace Go.Proofs.YtfkoomldncfdnaaGreat
open Go.RowKit
open Pt (Tx)

set_option maxHeartbeats 4000000 in
theorem refGet_bad (A : Option Addr) (b : Tx) (L C : Nat) (G : Nat → Prop) (w : World) (hL : L = b.length) (hC : L ≤ C) (hCm : L ≤ maxLen) (hA : A = none → L = 0 ∧ C = 0) (hr : RdL w A b G) (hbad : (Fm.s5 b).2 = true) :
    Calls Tryz.prog 55 #[.slice A L C] w (GotU b w) := by
  have hng : ¬ Fm.Good b := fun h => by have := (Fm.good_not_bad h).1; rw [hbad] at this; cases this
  have HGE := Lib.hid (Fm.gotE_no hng)
  have HG := Lib.hid (Fm.got_no hng)
  have HBAD := Lib.hid hbad
  clear hng hbad
  have HB0 : Hid (Below w.heap.size w (w.alloc (unitObj 0 0 0 none 0 0))) := Lib.hid ((Below.refl _ _).alloc (Nat.le_refl _) _)
  have HZ0 : Hid ((w.alloc (unitObj 0 0 0 none 0 0)).heap[w.heap.size]? = some (unitObj 0 0 0 none 0 0)) := Lib.hid (Go.Deep.blk_alloc_new _ _)
  have HR : Hid (RdL w A b (· < w.heap.size)) := Lib.hid (hr.in_.mono fun _ h => h.2)
  have HN := Lib.hid (refNewReader_any A b C (· < w.heap.size) (w.alloc (unitObj 0 0 0 none 0 0)) (by rw [← hL]; exact hA) (by omega) (by rw [← hL]; exact hCm) (HR.out.old HB0.out) (by simp))
  unfold unitObj at HN
  rw [← hL] at HN
  have HL := Lib.hid hL
  obtain ⟨n0, hn0⟩ : ∃ n, n = (Cd.byt (b, false)).toNat := ⟨_, rfl⟩
  obtain ⟨n3, hn3⟩ : ∃ n, n = (Cd.byt (Fm.s3 b)).toNat := ⟨_, rfl⟩
  obtain ⟨n4, hn4⟩ : ∃ n, n = (Cd.byt (Fm.s4 b)).toNat := ⟨_, rfl⟩
  obtain ⟨l1, hl1⟩ : ∃ l, l = Cd.num (Cd.tk 4 (Fm.s1 b)) := ⟨_, rfl⟩
  obtain ⟨l2, hl2⟩ : ∃ l, l = Cd.num (Cd.tk 4 (Fm.s2 b)) := ⟨_, rfl⟩
  have k0 : n0 < 256 := by rw [hn0]; exact (Cd.byt (b, false)).toNat_lt
  have k3 : n3 < 256 := by rw [hn3]; exact (Cd.byt (Fm.s3 b)).toNat_lt
  have k4 : n4 < 256 := by rw [hn4]; exact (Cd.byt (Fm.s4 b)).toNat_lt
  obtain ⟨Z, hZ⟩ : ∃ Z, Z = Fm.sizeOf b := ⟨_, rfl⟩
  have hZ' : Z = 256 * n3 + n4 := by rw [hZ, hn3, hn4]; rfl
  have hZs : 256 * (n3 : Int) + (n4 : Int) = (Z : Int) := by omega
  have hZl : Z < 65536 := by omega
  have Hn0 := Lib.hid hn0
  have Hn3 := Lib.hid hn3
  have Hn4 := Lib.hid hn4
  have Hl1 := Lib.hid hl1
  have Hl2 := Lib.hid hl2
  have HZZ := Lib.hid hZ
  clear hL hr hA hn0 hn3 hn4 hl1 hl2 hZ hZ'
  go_enter Tryz.func55, Tryz.ntmps55
  go_wp2_with fail
  refine HN.out.mono ?_
  rintro e w1 ⟨rfl, hr1, hb1⟩
  obtain ⟨gr, hgr⟩ : ∃ gr, gr = (w.alloc (unitObj 0 0 0 none 0 0)).heap.size := ⟨_, rfl⟩
  have hgr' : gr = w.heap.size + 1 := by rw [hgr]; simp
  unfold unitObj at hgr
  rw [← hgr] at hr1 hb1 ⊢
  have HR1 : Hid (Rf w1 gr (b, false) (· < w.heap.size)) := Lib.hid hr1
  have HGR := Lib.hid hgr'
  have HB1 : Hid (Below w.heap.size w w1) := Lib.hid (HB0.out.trans (hb1.mono (by rw [hgr']; exact Nat.le_succ _)))
  have HZ1 : Hid (w1.heap[w.heap.size]? = some (unitObj 0 0 0 none 0 0)) := Lib.hid ((hb1.block _ (by omega)).trans HZ0.out)
  have HLO : Hid (w.heap.size ≤ gr) := Lib.hid (by omega)
  have HNE : Hid (¬ w.heap.size = gr) := Lib.hid (by omega)
  clear hr1 hb1 hgr hgr'
  go_wp2_with fail
  have hcall1 := refByte_any gr (b, false) _ w1 HR1.out
  rw [← Hn0.out] at hcall1
  refine hcall1.mono ?_
  clear hcall1
  rintro e w2 ⟨rfl, hr2, hk2⟩
  have HR2 : Hid (Rf w2 gr (Fm.s1 b) _) := Lib.hid hr2
  have HB2 := Lib.hid (HB1.out.trans (lo_g hk2 HB1.out.size HLO.out))
  have HZ2 := Lib.hid ((hk2.block _ (heap_lt HZ1.out) HNE.out).trans HZ1.out)
  clear hr2 hk2
  go_wp2_with fail
  have hcall2 := refInt_any gr (Fm.s1 b) _ w2 HR2.out
  rw [← Hl1.out] at hcall2
  refine hcall2.mono ?_
  clear hcall2
  rintro e w3 ⟨rfl, hr3, hk3⟩
  have HR3 : Hid (Rf w3 gr (Fm.s2 b) _) := Lib.hid hr3
  have HB3 := Lib.hid (HB2.out.trans (lo_g hk3 HB2.out.size HLO.out))
  have HZ3 := Lib.hid ((hk3.block _ (heap_lt HZ2.out) HNE.out).trans HZ2.out)
  clear hr3 hk3
  go_wp2_with fail
  have hcall3 := refInt_any gr (Fm.s2 b) _ w3 HR3.out
  rw [← Hl2.out] at hcall3
  refine hcall3.mono ?_
  clear hcall3
  rintro e w4 ⟨rfl, hr4, hk4⟩
  have HR4 : Hid (Rf w4 gr (Fm.s3 b) _) := Lib.hid hr4
  have HB4 := Lib.hid (HB3.out.trans (lo_g hk4 HB3.out.size HLO.out))
  have HZ4 := Lib.hid ((hk4.block _ (heap_lt HZ3.out) HNE.out).trans HZ3.out)
  clear hr4 hk4
  obtain ⟨wu, hwu⟩ : ∃ wu, wu = w4.alloc (unitObj (n0 : Int) l1 l2 none 0 0) := ⟨_, rfl⟩
  have hbu : Below w4.heap.size w4 wu := by rw [hwu]; exact (Below.refl _ _).alloc (Nat.le_refl _) _
  have HR4' : Hid (Rf wu gr (Fm.s3 b) (· < w.heap.size)) := Lib.hid (HR4.out.kp (S := fun _ => False) (Kp.of_below hbu) (fun h => h) (fun _ _ h => h))
  have HU4 : Hid (wu.heap[w4.heap.size]? = some (unitObj (n0 : Int) l1 l2 none 0 0)) := Lib.hid (by rw [hwu]; exact Go.Deep.blk_alloc_new _ _)
  have HZ4' := Lib.hid ((hbu.block _ (heap_lt HZ4.out)).trans HZ4.out)
  have HB4' := Lib.hid (HB4.out.trans (hbu.mono HB4.out.size))
  have HNU : Hid (¬ w4.heap.size = gr) := Lib.hid (by have := HR4.out.lt; omega)
  have HWU := Lib.hid hwu
  unfold unitObj at HWU
  clear hwu hbu
  go_wp2_with fail
  rw [← HWU.out]
  have hcall4 := refByte_any gr (Fm.s3 b) _ wu HR4'.out
  rw [← Hn3.out] at hcall4
  refine hcall4.mono ?_
  clear hcall4
  rintro e w5 ⟨rfl, hr5, hk5⟩
  have HR5 : Hid (Rf w5 gr (Fm.s4 b) _) := Lib.hid hr5
  have HB5 := Lib.hid (HB4'.out.trans (lo_g hk5 HB4'.out.size HLO.out))
  have HZ5 := Lib.hid ((hk5.block _ (heap_lt HZ4'.out) HNE.out).trans HZ4'.out)
  have HU5 := Lib.hid ((hk5.block _ (heap_lt HU4.out) HNU.out).trans HU4.out)
  clear hr5 hk5
  go_wp2_with fail
  have hcall5 := refByte_any gr (Fm.s4 b) _ w5 HR5.out
  rw [← Hn4.out] at hcall5
  refine hcall5.mono ?_
  clear hcall5
  rintro e w6 ⟨rfl, hr6, hk6⟩
  have HR6 : Hid (Rf w6 gr (Fm.s5 b) _) := Lib.hid hr6
  have HB6 := Lib.hid (HB5.out.trans (lo_g hk6 HB5.out.size HLO.out))
  have HZ6 := Lib.hid ((hk6.block _ (heap_lt HZ5.out) HNE.out).trans HZ5.out)
  have HU6 := Lib.hid ((hk6.block _ (heap_lt HU5.out) HNU.out).trans HU5.out)
  clear hr6 hk6
  go_wp2_with fail
  refine (refBad_any gr (Fm.s5 b) _ w6 HR6.out).mono ?_
  rintro e wv ⟨rfl, hwv⟩
  subst hwv
  rw [HBAD.out]
  obtain ⟨z0, z1, z2, z3⟩ := unit4 HZ6.out
  have y0 : w6.frozen? ⟨w.heap.size, 0, none⟩ = false := heap_frozen HZ6.out
  have y1 : w6.frozen? ⟨w.heap.size, 1, none⟩ = false := heap_frozen HZ6.out
  have y2 : w6.frozen? ⟨w.heap.size, 2, none⟩ = false := heap_frozen HZ6.out
  have y3 : w6.frozen? ⟨w.heap.size, 3, none⟩ = false := heap_frozen HZ6.out
  go_wp2
  exact bodyPost_ret (v := .tuple #[.agg #[.int .i64 0, .int .i64 0, .int .i64 0, .slice none 0 0], .int .i64 2]) (by simp [results, Tryz.results55, go_sem, z0, z1, z2, z3]) rfl (GotU.stored (u := Fm.zero) HG.out HGE.out rfl (RdL.empty _ _ _) rfl (Nat.le_refl _) (fun _ => ⟨rfl, rfl⟩) HB6.out)
set_option maxHeartbeats 4000000 in
theorem refGet_few (A : Option Addr) (b : Tx) (L C : Nat) (G : Nat → Prop) (w : World) (hL : L = b.length) (hC : L ≤ C) (hCm : L ≤ maxLen) (hA : A = none → L = 0 ∧ C = 0) (hr : RdL w A b G) (hbad : (Fm.s5 b).2 = false) (hfew : (Fm.s5 b).1.length < Fm.sizeOf b) :
    Calls Tryz.prog 55 #[.slice A L C] w (GotU b w) := by
  have hng : ¬ Fm.Good b := fun h => by have := (Fm.good_not_bad h).2; omega
  have HGE := Lib.hid (Fm.gotE_no hng)
  have HG := Lib.hid (Fm.got_no hng)
  have HBAD := Lib.hid hbad
  have HFEW := Lib.hid hfew
  clear hng hbad hfew
  have HB0 : Hid (Below w.heap.size w (w.alloc (unitObj 0 0 0 none 0 0))) := Lib.hid ((Below.refl _ _).alloc (Nat.le_refl _) _)
  have HZ0 : Hid ((w.alloc (unitObj 0 0 0 none 0 0)).heap[w.heap.size]? = some (unitObj 0 0 0 none 0 0)) := Lib.hid (Go.Deep.blk_alloc_new _ _)
  have HR : Hid (RdL w A b (· < w.heap.size)) := Lib.hid (hr.in_.mono fun _ h => h.2)
  have HN := Lib.hid (refNewReader_any A b C (· < w.heap.size) (w.alloc (unitObj 0 0 0 none 0 0)) (by rw [← hL]; exact hA) (by omega) (by rw [← hL]; exact hCm) (HR.out.old HB0.out) (by simp))
  unfold unitObj at HN
  rw [← hL] at HN
  have HL := Lib.hid hL
  obtain ⟨n0, hn0⟩ : ∃ n, n = (Cd.byt (b, false)).toNat := ⟨_, rfl⟩
  obtain ⟨n3, hn3⟩ : ∃ n, n = (Cd.byt (Fm.s3 b)).toNat := ⟨_, rfl⟩
  obtain ⟨n4, hn4⟩ : ∃ n, n = (Cd.byt (Fm.s4 b)).toNat := ⟨_, rfl⟩
  obtain ⟨l1, hl1⟩ : ∃ l, l = Cd.num (Cd.tk 4 (Fm.s1 b)) := ⟨_, rfl⟩
  obtain ⟨l2, hl2⟩ : ∃ l, l = Cd.num (Cd.tk 4 (Fm.s2 b)) := ⟨_, rfl⟩
  have k0 : n0 < 256 := by rw [hn0]; exact (Cd.byt (b, false)).toNat_lt
  have k3 : n3 < 256 := by rw [hn3]; exact (Cd.byt (Fm.s3 b)).toNat_lt
  have k4 : n4 < 256 := by rw [hn4]; exact (Cd.byt (Fm.s4 b)).toNat_lt
  obtain ⟨Z, hZ⟩ : ∃ Z, Z = Fm.sizeOf b := ⟨_, rfl⟩
  have hZ' : Z = 256 * n3 + n4 := by rw [hZ, hn3, hn4]; rfl
  have hZs : 256 * (n3 : Int) + (n4 : Int) = (Z : Int) := by omega
  have hZl : Z < 65536 := by omega
  have Hn0 := Lib.hid hn0
  have Hn3 := Lib.hid hn3
  have Hn4 := Lib.hid hn4
  have Hl1 := Lib.hid hl1
  have Hl2 := Lib.hid hl2
  have HZZ := Lib.hid hZ
  clear hL hr hA hn0 hn3 hn4 hl1 hl2 hZ hZ'
  go_enter Tryz.func55, Tryz.ntmps55
  go_wp2_with fail
  refine HN.out.mono ?_
  rintro e w1 ⟨rfl, hr1, hb1⟩
  obtain ⟨gr, hgr⟩ : ∃ gr, gr = (w.alloc (unitObj 0 0 0 none 0 0)).heap.size := ⟨_, rfl⟩
  have hgr' : gr = w.heap.size + 1 := by rw [hgr]; simp
  unfold unitObj at hgr
  rw [← hgr] at hr1 hb1 ⊢
  have HR1 : Hid (Rf w1 gr (b, false) (· < w.heap.size)) := Lib.hid hr1
  have HGR := Lib.hid hgr'
  have HB1 : Hid (Below w.heap.size w w1) := Lib.hid (HB0.out.trans (hb1.mono (by rw [hgr']; exact Nat.le_succ _)))
  have HZ1 : Hid (w1.heap[w.heap.size]? = some (unitObj 0 0 0 none 0 0)) := Lib.hid ((hb1.block _ (by omega)).trans HZ0.out)
  have HLO : Hid (w.heap.size ≤ gr) := Lib.hid (by omega)
  have HNE : Hid (¬ w.heap.size = gr) := Lib.hid (by omega)
  clear hr1 hb1 hgr hgr'
  go_wp2_with fail
  have hcall1 := refByte_any gr (b, false) _ w1 HR1.out
  rw [← Hn0.out] at hcall1
  refine hcall1.mono ?_
  clear hcall1
  rintro e w2 ⟨rfl, hr2, hk2⟩
  have HR2 : Hid (Rf w2 gr (Fm.s1 b) _) := Lib.hid hr2
  have HB2 := Lib.hid (HB1.out.trans (lo_g hk2 HB1.out.size HLO.out))
  have HZ2 := Lib.hid ((hk2.block _ (heap_lt HZ1.out) HNE.out).trans HZ1.out)
  clear hr2 hk2
  go_wp2_with fail
  have hcall2 := refInt_any gr (Fm.s1 b) _ w2 HR2.out
  rw [← Hl1.out] at hcall2
  refine hcall2.mono ?_
  clear hcall2
  rintro e w3 ⟨rfl, hr3, hk3⟩
  have HR3 : Hid (Rf w3 gr (Fm.s2 b) _) := Lib.hid hr3
  have HB3 := Lib.hid (HB2.out.trans (lo_g hk3 HB2.out.size HLO.out))
  have HZ3 := Lib.hid ((hk3.block _ (heap_lt HZ2.out) HNE.out).trans HZ2.out)
  clear hr3 hk3
  go_wp2_with fail
  have hcall3 := refInt_any gr (Fm.s2 b) _ w3 HR3.out
  rw [← Hl2.out] at hcall3
  refine hcall3.mono ?_
  clear hcall3
  rintro e w4 ⟨rfl, hr4, hk4⟩
  have HR4 : Hid (Rf w4 gr (Fm.s3 b) _) := Lib.hid hr4
  have HB4 := Lib.hid (HB3.out.trans (lo_g hk4 HB3.out.size HLO.out))
  have HZ4 := Lib.hid ((hk4.block _ (heap_lt HZ3.out) HNE.out).trans HZ3.out)
  clear hr4 hk4
  obtain ⟨wu, hwu⟩ : ∃ wu, wu = w4.alloc (unitObj (n0 : Int) l1 l2 none 0 0) := ⟨_, rfl⟩
  have hbu : Below w4.heap.size w4 wu := by rw [hwu]; exact (Below.refl _ _).alloc (Nat.le_refl _) _
  have HR4' : Hid (Rf wu gr (Fm.s3 b) (· < w.heap.size)) := Lib.hid (HR4.out.kp (S := fun _ => False) (Kp.of_below hbu) (fun h => h) (fun _ _ h => h))
  have HU4 : Hid (wu.heap[w4.heap.size]? = some (unitObj (n0 : Int) l1 l2 none 0 0)) := Lib.hid (by rw [hwu]; exact Go.Deep.blk_alloc_new _ _)
  have HZ4' := Lib.hid ((hbu.block _ (heap_lt HZ4.out)).trans HZ4.out)
  have HB4' := Lib.hid (HB4.out.trans (hbu.mono HB4.out.size))
  have HNU : Hid (¬ w4.heap.size = gr) := Lib.hid (by have := HR4.out.lt; omega)
  have HWU := Lib.hid hwu
  unfold unitObj at HWU
  clear hwu hbu
  go_wp2_with fail
  rw [← HWU.out]
  have hcall4 := refByte_any gr (Fm.s3 b) _ wu HR4'.out
  rw [← Hn3.out] at hcall4
  refine hcall4.mono ?_
  clear hcall4
  rintro e w5 ⟨rfl, hr5, hk5⟩
  have HR5 : Hid (Rf w5 gr (Fm.s4 b) _) := Lib.hid hr5
  have HB5 := Lib.hid (HB4'.out.trans (lo_g hk5 HB4'.out.size HLO.out))
  have HZ5 := Lib.hid ((hk5.block _ (heap_lt HZ4'.out) HNE.out).trans HZ4'.out)
  have HU5 := Lib.hid ((hk5.block _ (heap_lt HU4.out) HNU.out).trans HU4.out)
  clear hr5 hk5
  go_wp2_with fail
  have hcall5 := refByte_any gr (Fm.s4 b) _ w5 HR5.out
  rw [← Hn4.out] at hcall5
  refine hcall5.mono ?_
  clear hcall5
  rintro e w6 ⟨rfl, hr6, hk6⟩
  have HR6 : Hid (Rf w6 gr (Fm.s5 b) _) := Lib.hid hr6
  have HB6 := Lib.hid (HB5.out.trans (lo_g hk6 HB5.out.size HLO.out))
  have HZ6 := Lib.hid ((hk6.block _ (heap_lt HZ5.out) HNE.out).trans HZ5.out)
  have HU6 := Lib.hid ((hk6.block _ (heap_lt HU5.out) HNU.out).trans HU5.out)
  clear hr6 hk6
  go_wp2_with fail
  refine (refBad_any gr (Fm.s5 b) _ w6 HR6.out).mono ?_
  rintro e wv ⟨rfl, hwv⟩
  subst hwv
  rw [HBAD.out]
  go_wp2_with fail
  refine (refLeft_any gr (Fm.s5 b) _ w6 HR6.out).mono ?_
  rintro e wv ⟨rfl, hwv⟩
  subst hwv
  obtain ⟨Y, hY⟩ : ∃ Y, Y = (Fm.s5 b).1.length := ⟨_, rfl⟩
  rw [← hY]
  have hYZ : Y < Z := by rw [hY, HZZ.out]; exact HFEW.out
  have q1 : decide (Y < Z) = true := decide_eq_true hYZ
  have q2 : decide ((Y : Int) < (Z : Int)) = true := decide_eq_true (by omega)
  obtain ⟨z0, z1, z2, z3⟩ := unit4 HZ6.out
  have y0 : w6.frozen? ⟨w.heap.size, 0, none⟩ = false := heap_frozen HZ6.out
  have y1 : w6.frozen? ⟨w.heap.size, 1, none⟩ = false := heap_frozen HZ6.out
  have y2 : w6.frozen? ⟨w.heap.size, 2, none⟩ = false := heap_frozen HZ6.out
  have y3 : w6.frozen? ⟨w.heap.size, 3, none⟩ = false := heap_frozen HZ6.out
  go_wp2
  exact bodyPost_ret (v := .tuple #[.agg #[.int .i64 0, .int .i64 0, .int .i64 0, .slice none 0 0], .int .i64 2]) (by simp [results, Tryz.results55, go_sem, z0, z1, z2, z3]) rfl (GotU.stored (u := Fm.zero) HG.out HGE.out rfl (RdL.empty _ _ _) rfl (Nat.le_refl _) (fun _ => ⟨rfl, rfl⟩) HB6.out)
set_option maxHeartbeats 4000000 in
theorem refGet_all (A : Option Addr) (b : Tx) (L C : Nat) (G : Nat → Prop) (w : World) (hL : L = b.length) (hC : L ≤ C) (hCm : L ≤ maxLen) (hl : L ≤ 1000) (hA : A = none → L = 0 ∧ C = 0) (hr : RdL w A b G) (hbad : (Fm.s5 b).2 = false) (hfew : Fm.sizeOf b ≤ (Fm.s5 b).1.length) :
    Calls Tryz.prog 55 #[.slice A L C] w (GotU b w) := by
  have HBAD := Lib.hid hbad
  have HFEW := Lib.hid hfew
  clear hbad hfew
  have HB0 : Hid (Below w.heap.size w (w.alloc (unitObj 0 0 0 none 0 0))) := Lib.hid ((Below.refl _ _).alloc (Nat.le_refl _) _)
  have HZ0 : Hid ((w.alloc (unitObj 0 0 0 none 0 0)).heap[w.heap.size]? = some (unitObj 0 0 0 none 0 0)) := Lib.hid (Go.Deep.blk_alloc_new _ _)
  have HR : Hid (RdL w A b (· < w.heap.size)) := Lib.hid (hr.in_.mono fun _ h => h.2)
  have HN := Lib.hid (refNewReader_any A b C (· < w.heap.size) (w.alloc (unitObj 0 0 0 none 0 0)) (by rw [← hL]; exact hA) (by omega) (by rw [← hL]; exact hCm) (HR.out.old HB0.out) (by simp))
  unfold unitObj at HN
  rw [← hL] at HN
  have HL := Lib.hid hL
  obtain ⟨n0, hn0⟩ : ∃ n, n = (Cd.byt (b, false)).toNat := ⟨_, rfl⟩
  obtain ⟨n3, hn3⟩ : ∃ n, n = (Cd.byt (Fm.s3 b)).toNat := ⟨_, rfl⟩
  obtain ⟨n4, hn4⟩ : ∃ n, n = (Cd.byt (Fm.s4 b)).toNat := ⟨_, rfl⟩
  obtain ⟨l1, hl1⟩ : ∃ l, l = Cd.num (Cd.tk 4 (Fm.s1 b)) := ⟨_, rfl⟩
  obtain ⟨l2, hl2⟩ : ∃ l, l = Cd.num (Cd.tk 4 (Fm.s2 b)) := ⟨_, rfl⟩
  have k0 : n0 < 256 := by rw [hn0]; exact (Cd.byt (b, false)).toNat_lt
  have k3 : n3 < 256 := by rw [hn3]; exact (Cd.byt (Fm.s3 b)).toNat_lt
  have k4 : n4 < 256 := by rw [hn4]; exact (Cd.byt (Fm.s4 b)).toNat_lt
  obtain ⟨Z, hZ⟩ : ∃ Z, Z = Fm.sizeOf b := ⟨_, rfl⟩
  have hZ' : Z = 256 * n3 + n4 := by rw [hZ, hn3, hn4]; rfl
  have hZs : 256 * (n3 : Int) + (n4 : Int) = (Z : Int) := by omega
  have hZl : Z < 65536 := by omega
  have Hn0 := Lib.hid hn0
  have Hn3 := Lib.hid hn3
  have Hn4 := Lib.hid hn4
  have Hl1 := Lib.hid hl1
  have Hl2 := Lib.hid hl2
  have HZZ := Lib.hid hZ
  clear hL hr hA hn0 hn3 hn4 hl1 hl2 hZ hZ'
  go_enter Tryz.func55, Tryz.ntmps55
  go_wp2_with fail
  refine HN.out.mono ?_
  rintro e w1 ⟨rfl, hr1, hb1⟩
  obtain ⟨gr, hgr⟩ : ∃ gr, gr = (w.alloc (unitObj 0 0 0 none 0 0)).heap.size := ⟨_, rfl⟩
  have hgr' : gr = w.heap.size + 1 := by rw [hgr]; simp
  unfold unitObj at hgr
  rw [← hgr] at hr1 hb1 ⊢
  have HR1 : Hid (Rf w1 gr (b, false) (· < w.heap.size)) := Lib.hid hr1
  have HGR := Lib.hid hgr'
  have HB1 : Hid (Below w.heap.size w w1) := Lib.hid (HB0.out.trans (hb1.mono (by rw [hgr']; exact Nat.le_succ _)))
  have HZ1 : Hid (w1.heap[w.heap.size]? = some (unitObj 0 0 0 none 0 0)) := Lib.hid ((hb1.block _ (by omega)).trans HZ0.out)
  have HLO : Hid (w.heap.size ≤ gr) := Lib.hid (by omega)
  have HNE : Hid (¬ w.heap.size = gr) := Lib.hid (by omega)
  clear hr1 hb1 hgr hgr'
  go_wp2_with fail
  have hcall1 := refByte_any gr (b, false) _ w1 HR1.out
  rw [← Hn0.out] at hcall1
  refine hcall1.mono ?_
  clear hcall1
  rintro e w2 ⟨rfl, hr2, hk2⟩
  have HR2 : Hid (Rf w2 gr (Fm.s1 b) _) := Lib.hid hr2
  have HB2 := Lib.hid (HB1.out.trans (lo_g hk2 HB1.out.size HLO.out))
  have HZ2 := Lib.hid ((hk2.block _ (heap_lt HZ1.out) HNE.out).trans HZ1.out)
  clear hr2 hk2
  go_wp2_with fail
  have hcall2 := refInt_any gr (Fm.s1 b) _ w2 HR2.out
  rw [← Hl1.out] at hcall2
  refine hcall2.mono ?_
  clear hcall2
  rintro e w3 ⟨rfl, hr3, hk3⟩
  have HR3 : Hid (Rf w3 gr (Fm.s2 b) _) := Lib.hid hr3
  have HB3 := Lib.hid (HB2.out.trans (lo_g hk3 HB2.out.size HLO.out))
  have HZ3 := Lib.hid ((hk3.block _ (heap_lt HZ2.out) HNE.out).trans HZ2.out)
  clear hr3 hk3
  go_wp2_with fail
  have hcall3 := refInt_any gr (Fm.s2 b) _ w3 HR3.out
  rw [← Hl2.out] at hcall3
  refine hcall3.mono ?_
  clear hcall3
  rintro e w4 ⟨rfl, hr4, hk4⟩
  have HR4 : Hid (Rf w4 gr (Fm.s3 b) _) := Lib.hid hr4
  have HB4 := Lib.hid (HB3.out.trans (lo_g hk4 HB3.out.size HLO.out))
  have HZ4 := Lib.hid ((hk4.block _ (heap_lt HZ3.out) HNE.out).trans HZ3.out)
  clear hr4 hk4
  obtain ⟨wu, hwu⟩ : ∃ wu, wu = w4.alloc (unitObj (n0 : Int) l1 l2 none 0 0) := ⟨_, rfl⟩
  have hbu : Below w4.heap.size w4 wu := by rw [hwu]; exact (Below.refl _ _).alloc (Nat.le_refl _) _
  have HR4' : Hid (Rf wu gr (Fm.s3 b) (· < w.heap.size)) := Lib.hid (HR4.out.kp (S := fun _ => False) (Kp.of_below hbu) (fun h => h) (fun _ _ h => h))
  have HU4 : Hid (wu.heap[w4.heap.size]? = some (unitObj (n0 : Int) l1 l2 none 0 0)) := Lib.hid (by rw [hwu]; exact Go.Deep.blk_alloc_new _ _)
  have HZ4' := Lib.hid ((hbu.block _ (heap_lt HZ4.out)).trans HZ4.out)
  have HB4' := Lib.hid (HB4.out.trans (hbu.mono HB4.out.size))
  have HNU : Hid (¬ w4.heap.size = gr) := Lib.hid (by have := HR4.out.lt; omega)
  have HWU := Lib.hid hwu
  unfold unitObj at HWU
  clear hwu hbu
  go_wp2_with fail
  rw [← HWU.out]
  have hcall4 := refByte_any gr (Fm.s3 b) _ wu HR4'.out
  rw [← Hn3.out] at hcall4
  refine hcall4.mono ?_
  clear hcall4
  rintro e w5 ⟨rfl, hr5, hk5⟩
  have HR5 : Hid (Rf w5 gr (Fm.s4 b) _) := Lib.hid hr5
  have HB5 := Lib.hid (HB4'.out.trans (lo_g hk5 HB4'.out.size HLO.out))
  have HZ5 := Lib.hid ((hk5.block _ (heap_lt HZ4'.out) HNE.out).trans HZ4'.out)
  have HU5 := Lib.hid ((hk5.block _ (heap_lt HU4.out) HNU.out).trans HU4.out)
  clear hr5 hk5
  go_wp2_with fail
  have hcall5 := refByte_any gr (Fm.s4 b) _ w5 HR5.out
  rw [← Hn4.out] at hcall5
  refine hcall5.mono ?_
  clear hcall5
  rintro e w6 ⟨rfl, hr6, hk6⟩
  have HR6 : Hid (Rf w6 gr (Fm.s5 b) _) := Lib.hid hr6
  have HB6 := Lib.hid (HB5.out.trans (lo_g hk6 HB5.out.size HLO.out))
  have HZ6 := Lib.hid ((hk6.block _ (heap_lt HZ5.out) HNE.out).trans HZ5.out)
  have HU6 := Lib.hid ((hk6.block _ (heap_lt HU5.out) HNU.out).trans HU5.out)
  clear hr6 hk6
  go_wp2_with fail
  refine (refBad_any gr (Fm.s5 b) _ w6 HR6.out).mono ?_
  rintro e wv ⟨rfl, hwv⟩
  subst hwv
  rw [HBAD.out]
  go_wp2_with fail
  refine (refLeft_any gr (Fm.s5 b) _ w6 HR6.out).mono ?_
  rintro e wv ⟨rfl, hwv⟩
  subst hwv
  obtain ⟨Y, hY⟩ : ∃ Y, Y = (Fm.s5 b).1.length := ⟨_, rfl⟩
  rw [← hY]
  have hYL : Y ≤ L := by rw [hY, HL.out]; exact (Fm.s_len b).2.2.2.2
  have hYZ : Z ≤ Y := by rw [hY, HZZ.out]; exact HFEW.out
  have q1 : decide (Y < Z) = false := decide_eq_false (by omega)
  have q2 : decide ((Y : Int) < (Z : Int)) = false := decide_eq_false (by omega)
  clear hY
  go_wp2_with fail
  refine (refTakeN_any gr Z (Fm.s5 b) _ w6 HR6.out (by omega)).mono ?_
  rintro e w7 ⟨A7, C7, rfl, hr7, -, hk7, hn7⟩
  obtain ⟨s, hs⟩ : ∃ s, s = Cd.tk Z (Fm.s5 b) := ⟨_, rfl⟩
  obtain ⟨m, hm⟩ : ∃ m, m = s.length := ⟨_, rfl⟩
  rw [← hs, ← hm] at hn7
  rw [← hs] at hr7
  rw [← hs, ← hm]
  have hmZ : m ≤ 1000 := by rw [hm, hs]; exact Nat.le_trans (Cd.tk_le _ _) (by omega)
  have HB7 := Lib.hid (HB6.out.trans (lo_g hk7 HB6.out.size HLO.out))
  have HZ7 := Lib.hid ((hk7.block _ (heap_lt HZ6.out) HNE.out).trans HZ6.out)
  have HU7 := Lib.hid ((hk7.block _ (heap_lt HU6.out) HNU.out).trans HU6.out)
  have HM := Lib.hid hm
  obtain ⟨A8, C8, w8, hr8, hO8, hG8⟩ := ap_run w7 w7.heap.size (.slice none 0 0) [] (OwnL.nil _ _) A7 m C7 s _ hm.symm hn7 hr7 (by simp; omega) (Nat.le_refl _) m (by simp)
  have hb8 : Below w7.heap.size w7 w8 := ⟨hG8.os, hG8.tape, hG8.output, hG8.size, fun x hx => hG8.block x hx (fun e => by cases e)⟩
  have hZ8 := (hb8.block _ (heap_lt HZ7.out)).trans HZ7.out
  have hU8 := (hb8.block _ (heap_lt HU7.out)).trans HU7.out
  have hPAR : Fm.parse b = ⟨(n0 : Int), l1, l2, s⟩ := by
    rw [Fm.parse_full HBAD.out HFEW.out, hs, HZZ.out, Hn0.out, Hl1.out, Hl2.out]; rfl
  obtain ⟨X8, D8, e8, g1, -, g3, g4⟩ := hO8.rd
  injection e8 with x1 x2 x3
  subst x1 x3
  rw [List.nil_append] at g1 g3 g4
  rw [← hm] at g1 g3
  have HB8 := Lib.hid (HB7.out.trans (hb8.mono HB7.out.size))
  have hKs : Kp (· = w4.heap.size) w8 (w8.setCell ⟨w4.heap.size, 3, none⟩ (.slice A8 m C8)) := Kp.store _ _ _ _
  have hlt47 : w4.heap.size < w7.heap.size := heap_lt HU7.out
  have HU9 : Hid ((w8.setCell ⟨w4.heap.size, 3, none⟩ (.slice A8 m C8)).heap[w4.heap.size]? = some (unitObj (n0 : Int) l1 l2 A8 m C8)) := Lib.hid (by
    have := heap_set (j := 3) hU8 (.slice A8 m C8)
    simpa [unitObj] using this)
  have hz4 : w.heap.size < w4.heap.size := heap_lt HZ4.out
  have HZ9 := Lib.hid ((hKs.block _ (heap_lt hZ8) (by omega)).trans hZ8)
  have HR9 : Hid (RdL (w8.setCell ⟨w4.heap.size, 3, none⟩ (.slice A8 m C8)) A8 s (w7.heap.size ≤ ·)) := Lib.hid ((g4.kp hKs (fun x hx e => by omega)).mono fun x hx => hx.1)
  have HB9 := Lib.hid (HB8.out.trans (hKs.below HB8.out.size (fun x hx => by omega)))
  have HG1 := Lib.hid g1
  have HG3 := Lib.hid g3
  have v3 : w8.cell? ⟨w4.heap.size, 3, none⟩ = some (.slice none 0 0) := (unit4 hU8).2.2.2
  have v0 : w8.cell? ⟨w4.heap.size, 0, none⟩ = some (.int .i64 (n0 : Int)) := (unit4 hU8).1
  have v1 : w8.cell? ⟨w4.heap.size, 1, none⟩ = some (.int .i64 l1) := (unit4 hU8).2.1
  have v2 : w8.cell? ⟨w4.heap.size, 2, none⟩ = some (.int .i64 l2) := (unit4 hU8).2.2.1
  have vf : w8.frozen? ⟨w4.heap.size, 3, none⟩ = false := heap_frozen hU8
  have HS := Lib.hid hs
  have HLT := Lib.hid (Nat.lt_trans hz4 hlt47)
  clear hs hm hr7 hk7 hn7 hO8 hG8 hb8 hZ8 hU8 g1 g3 g4 hKs hz4 hlt47 x2
  obtain ⟨er, her⟩ : ∃ er, er = Fm.err (Fm.parse b) := ⟨_, rfl⟩
  rw [hPAR] at her
  have HPAR := Lib.hid hPAR
  have HE2 := Lib.hid her
  clear hPAR her
  go_wp2_with (at_builtin; refine Lib.wpList_append_run _ rfl _ _ _ _ rfl _ _ rfl rfl _ _ (hr8 _) ?_)
  refine (refPut_any (n0 : Int) l1 l2 A8 s m C8 _ _ HM.out HG3.out HR9.out).mono ?_
  rintro e w10 ⟨A10, n10, C10, rfl, hn10, -, -, -, hr10, hb10⟩
  have HU10 := Lib.hid ((hb10.block _ (heap_lt HU9.out)).trans HU9.out)
  have HZ10 := Lib.hid ((hb10.block _ (heap_lt HZ9.out)).trans HZ9.out)
  have HS10 := Lib.hid ((HR9.out.old hb10).mono fun x hx => (Nat.lt_of_lt_of_le HLT.out hx : w.heap.size < x))
  have HB10 := Lib.hid (HB9.out.trans (hb10.mono HB9.out.size))
  rw [← HE2.out]
  obtain ⟨x, hx⟩ : ∃ x, x = Fm.put ⟨(n0 : Int), l1, l2, s⟩ := ⟨_, rfl⟩
  rw [← hx] at hn10 hr10
  have hst1 := hr10.str C10
  rw [← hn10] at hst1
  have hst2 := ((HR.out.old HB10.out)).str C
  rw [← HL.out] at hst2
  have et1 := tx_toList x
  have et2 := tx_toList b
  have HX := Lib.hid hx
  clear hr10 hn10 hb10 hx v0 v1 v2 v3 vf hr8
  obtain ⟨u0, u1, u2, u3⟩ := unit4 HU10.out
  obtain ⟨z0, z1, z2, z3⟩ := unit4 HZ10.out
  have y0 : w10.frozen? ⟨w.heap.size, 0, none⟩ = false := heap_frozen HZ10.out
  have y1 : w10.frozen? ⟨w.heap.size, 1, none⟩ = false := heap_frozen HZ10.out
  have y2 : w10.frozen? ⟨w.heap.size, 2, none⟩ = false := heap_frozen HZ10.out
  have y3 : w10.frozen? ⟨w.heap.size, 3, none⟩ = false := heap_frozen HZ10.out
  by_cases he : er = 0
  · subst he
    have hok : Fm.Ok ⟨(n0 : Int), l1, l2, s⟩ := Fm.err_zero.1 HE2.out.symm
    by_cases hg : Fm.blk ⟨(n0 : Int), l1, l2, s⟩ = b
    · have heq : (x == b) = true := by rw [HX.out, Fm.put_ok hok, hg]; simp
      have heq' : (x != b) = false := by rw [HX.out, Fm.put_ok hok, hg]; simp
      have hgood : Fm.Good b := by unfold Fm.Good; rw [HPAR.out]; exact ⟨hok, hg⟩
      have HGE := Lib.hid (Fm.gotE_yes hgood)
      have HG : Hid (Fm.got b = ⟨(n0 : Int), l1, l2, s⟩) := Lib.hid ((Fm.got_yes hgood).trans HPAR.out)
      clear hok hg hgood
      go_wp2
      exact bodyPost_ret (v := .tuple #[.agg #[.int .i64 (n0 : Int), .int .i64 l1, .int .i64 l2, .slice A8 m C8], .int .i64 0]) (by simp [results, Tryz.results55, go_sem, z0, z1, z2, z3]) rfl (GotU.stored (u := ⟨(n0 : Int), l1, l2, s⟩) HG.out HGE.out rfl HS10.out HM.out HG1.out HG3.out HB10.out)
    · have heq : (x == b) = false := by rw [HX.out, Fm.put_ok hok]; simpa using hg
      have heq' : (x != b) = true := by rw [HX.out, Fm.put_ok hok]; simpa using hg
      have hno : ¬ Fm.Good b := fun h => hg (by have := h.2; rw [HPAR.out] at this; exact this)
      have HGE := Lib.hid (Fm.gotE_no hno)
      have HG := Lib.hid (Fm.got_no hno)
      clear hok hg hno
      go_wp2
      exact bodyPost_ret (v := .tuple #[.agg #[.int .i64 0, .int .i64 0, .int .i64 0, .slice none 0 0], .int .i64 2]) (by simp [results, Tryz.results55, go_sem, z0, z1, z2, z3]) rfl (GotU.stored (u := Fm.zero) HG.out HGE.out rfl (RdL.empty _ _ _) rfl (Nat.le_refl _) (fun _ => ⟨rfl, rfl⟩) HB10.out)
  · have hno : ¬ Fm.Good b := fun h => he (by have := Fm.err_ok h.1; rw [HPAR.out] at this; rw [HE2.out]; exact this)
    have HGE := Lib.hid (Fm.gotE_no hno)
    have HG := Lib.hid (Fm.got_no hno)
    have q5 : (er == 0) = false := beq_eq_false_iff_ne.2 he
    have q6 : (er != 0) = true := bne_iff_ne.2 he
    clear hno he
    go_wp2
    exact bodyPost_ret (v := .tuple #[.agg #[.int .i64 0, .int .i64 0, .int .i64 0, .slice none 0 0], .int .i64 2]) (by simp [results, Tryz.results55, go_sem, z0, z1, z2, z3]) rfl (GotU.stored (u := Fm.zero) HG.out HGE.out rfl (RdL.empty _ _ _) rfl (Nat.le_refl _) (fun _ => ⟨rfl, rfl⟩) HB10.out)
theorem refGet_len (A : Option Addr) (b : Tx) (L C : Nat) (G : Nat → Prop) (w : World) (hL : L = b.length) (hC : L ≤ C) (hl : L ≤ 1000) (hA : A = none → L = 0 ∧ C = 0) (hr : RdL w A b G) :
    Calls Tryz.prog 55 #[.slice A L C] w (GotU b w) := by
  have hCm : L ≤ maxLen := by unfold maxLen; omega
  cases hbad : (Fm.s5 b).2 with
  | true => exact refGet_bad A b L C G w hL hC hCm hA hr hbad
  | false =>
    rcases Nat.lt_or_ge (Fm.s5 b).1.length (Fm.sizeOf b) with h | h
    · exact refGet_few A b L C G w hL hC hCm hA hr hbad h
    · exact refGet_all A b L C G w hL hC hCm hl hA hr hbad h
theorem refGet_any (A : Option Addr) (b : Tx) (L C : Nat) (G : Nat → Prop) (w : World) (hL : L = b.length) (hC : L ≤ C) (_ : C ≤ maxLen) (hl : L ≤ 1000) (hA : A = none → L = 0 ∧ C = 0) (hr : RdL w A b G) :
    Calls Tryz.prog 55 #[.slice A L C] w (GotU b w) := by
  exact refGet_len A b L C G w hL hC hl hA hr
end Go.Proofs.YtfkoomldncfdnaaGreat
namespace Go.Proofs.YtfkoomldncfdnaaGreat
open Go.RowKit
open Pt (Tx)

set_option maxHeartbeats 400000 in
theorem refGood_out (lab cap : Int) (bs : List Tx) (A : Option Addr) (L C : Nat) (lost : Bool) (n : Int) (w : World) (hL : L = bs.length) (h : lost = true ∨ n < 0 ∨ (bs.length : Int) ≤ n) :
    Calls Tryz.prog 24 #[.agg #[.int .i64 lab, .int .i64 cap, .slice A L C, .bool lost], .int .i64 n] w (GoodA (Vo.goodZ ⟨lab, bs, lost⟩ n) w) := by
  have HG := Lib.hid (goodZ_no (lab := lab) h)
  obtain ⟨wb, hwb⟩ : ∃ wb, wb = (w.alloc (tapeObj lab cap A L C lost)).alloc (unitObj 0 0 0 none 0 0) := ⟨_, rfl⟩
  obtain ⟨hB, hT, hU⟩ := two_blocks hwb
  have HB := Lib.hid hB
  have HU := Lib.hid hU
  have HT := Lib.hid hT
  have HW := Lib.hid hwb
  unfold tapeObj unitObj at HW
  obtain ⟨t0, t1, t2, t3⟩ := tape4 hT
  obtain ⟨z0, z1, z2, z3⟩ := unit4 hU
  rw [hwb] at t0 t1 t2 t3
  rw [← hL] at h
  clear hB hT hU hwb hL
  have hq : lost = true ∨ (lost = false ∧ decide (n < 0) = true) ∨ (lost = false ∧ decide (n < 0) = false ∧ decide ((L : Int) ≤ n) = true) := by
    cases lost with
    | true => exact .inl rfl
    | false =>
      refine .inr ?_
      by_cases h0 : n < 0
      · exact .inl ⟨rfl, decide_eq_true h0⟩
      · exact .inr ⟨rfl, decide_eq_false h0, decide_eq_true (by rcases h with h | h | h; · cases h
                                                                · exact absurd h h0
                                                                · exact h)⟩
  clear h
  rcases hq with rfl | ⟨rfl, q1⟩ | ⟨rfl, q1, q2⟩
  all_goals
    go_enter Tryz.func24, Tryz.ntmps24
    go_wp2_with fail
    rw [← HW.out]
    refine bodyPost_ret (v := .tuple #[.agg #[.int .i64 0, .int .i64 0, .int .i64 0, .slice none 0 0], .bool false]) (by simp [results, Tryz.results24, go_sem, z0, z1, z2, z3]) rfl ?_
    rw [HG.out]
    exact ⟨none, 0, 0, rfl, rfl, Nat.le_refl _, fun _ => ⟨rfl, rfl⟩, RdL.empty _ _ _, HB.out⟩
set_option maxHeartbeats 4000000 in
theorem refGood_in (lab cap : Int) (bs : List Tx) (A : Option Addr) (L C : Nat) (G : Nat → Prop) (n : Nat) (w : World) (hL : L = bs.length) (hr : RdB w A bs G) (hn : n < bs.length) (hl : ∀ s ∈ bs, s.length ≤ 1000) :
    Calls Tryz.prog 24 #[.agg #[.int .i64 lab, .int .i64 cap, .slice A L C, .bool false], .int .i64 n] w (GoodA (Vo.good ⟨lab, bs, false⟩ n) w) := by
  obtain ⟨b, off, A1, C1, rfl, hg1, hc1, hC1, hN1, hr1⟩ := hr.at_ hn
  obtain ⟨s, hsd⟩ : ∃ s, s = bs[n] := ⟨_, rfl⟩
  have hsl : s.length ≤ 1000 := by rw [hsd]; exact hl _ (List.getElem_mem hn)
  have HG := Lib.hid (good_is (lab := lab) hn)
  rw [← hsd] at HG hc1 hC1 hN1 hr1
  obtain ⟨S, hS⟩ : ∃ S, S = s.length := ⟨_, rfl⟩
  rw [← hS] at hc1 hC1 hN1 hsl
  obtain ⟨wb, hwb⟩ : ∃ wb, wb = (w.alloc (tapeObj lab cap (some ⟨b, off, none⟩) L C false)).alloc (unitObj 0 0 0 none 0 0) := ⟨_, rfl⟩
  obtain ⟨hB, hT, hU⟩ := two_blocks hwb
  have hcb : wb.cell? ⟨b, off + n, none⟩ = some (.slice A1 S C1) := (hB.cell (World.block_lt_of_cell? _ _ hc1)).trans hc1
  have HGET := Lib.hid (refGet_len A1 s S C1 G wb hS hC1 hsl hN1 (hr1.old hB))
  have HB := Lib.hid hB
  have HU := Lib.hid hU
  have HT := Lib.hid hT
  have HW := Lib.hid hwb
  unfold tapeObj unitObj at HW
  obtain ⟨t0, t1, t2, t3⟩ := tape4 hT
  have q1 : decide ((n : Int) < 0) = false := decide_eq_false (by omega)
  have q2 : decide ((L : Int) ≤ (n : Int)) = false := decide_eq_false (by omega)
  have q3 : decide (L ≤ n) = false := decide_eq_false (by omega)
  have q4 : n < L := by omega
  obtain ⟨ge, hge⟩ : ∃ ge, ge = Fm.gotE s := ⟨_, rfl⟩
  obtain ⟨k, lb, nb, ld, hu⟩ : ∃ k lb nb ld, Fm.got s = ⟨k, lb, nb, ld⟩ := ⟨_, _, _, _, rfl⟩
  unfold GotU at HGET
  rw [hu, ← hge] at HGET
  have hcase : (ge = 0 ∧ lb = lab ∧ nb = (n : Int) ∧ Vo.good ⟨lab, bs, false⟩ n = some ⟨k, lb, nb, ld⟩) ∨ (Vo.good ⟨lab, bs, false⟩ n = none ∧ ((ge != 0) = true ∨ ((ge != 0) = false ∧ (lb != lab) = true) ∨ ((ge != 0) = false ∧ (lb != lab) = false ∧ (nb != (n : Int)) = true))) := by
    have h := HG.out
    by_cases hgd : Fm.Good s
    · rw [Fm.gotE_yes hgd] at hge
      rw [Fm.got_yes hgd] at hu
      rw [hu] at h
      by_cases h1 : lb = lab
      · by_cases h2 : nb = (n : Int)
        · refine .inl ⟨hge, h1, h2, ?_⟩
          rw [h, if_pos ⟨hgd, h1, h2⟩]
        · refine .inr ⟨?_, .inr (.inr ⟨by rw [hge]; rfl, by rw [h1]; simp, by simpa using h2⟩)⟩
          rw [h, if_neg fun h' => h2 h'.2.2]
      · refine .inr ⟨?_, .inr (.inl ⟨by rw [hge]; rfl, by simpa using h1⟩)⟩
        rw [h, if_neg fun h' => h1 h'.2.1]
    · rw [Fm.gotE_no hgd] at hge
      refine .inr ⟨?_, .inl (by rw [hge]; rfl)⟩
      rw [h, if_neg fun h' => hgd h'.1]
  clear HG hg1 hc1 hC1 hN1 hr1 hS hsl hu hge hr hl hL hn hB hT hU hsd
  rcases hcase with ⟨rfl, rfl, hnb, hres⟩ | ⟨hres, hq⟩
  · have HRES := Lib.hid hres
    have hq5 : (nb != (n : Int)) = false := by simp [hnb]
    clear hres hnb
    rw [HW.out] at t0 t1 t2 t3 hcb
    go_enter Tryz.func24, Tryz.ntmps24
    go_wp2_with fail
    rw [← HW.out]
    refine HGET.out.mono ?_
    rintro e w1 ⟨A2, m2, C2, rfl, hm2, hc2, hn2, hr2, hb2⟩
    obtain ⟨wc, hwc⟩ : ∃ wc, wc = w1.alloc (unitObj k lb nb A2 m2 C2) := ⟨_, rfl⟩
    have hb3 : Below w1.heap.size w1 wc := by rw [hwc]; exact (Below.refl _ _).alloc (Nat.le_refl _) _
    have hbc := hb2.trans (hb3.mono hb2.size)
    have hY : wc.heap[w1.heap.size]? = some (unitObj k lb nb A2 m2 C2) := by rw [hwc]; exact Go.Deep.blk_alloc_new _ _
    have hZ := (hbc.block _ (heap_lt HU.out)).trans HU.out
    have hT3 := below_tape hbc HT.out
    obtain ⟨t0', t1', t2', t3'⟩ := tape4 hT3
    obtain ⟨z0, z1, z2, z3⟩ := unit4 hZ
    obtain ⟨x0, x1, x2, x3⟩ := unit4 hY
    have y0 : wc.frozen? ⟨w.heap.size + 1, 0, none⟩ = false := heap_frozen hZ
    have y1 : wc.frozen? ⟨w.heap.size + 1, 1, none⟩ = false := heap_frozen hZ
    have y2 : wc.frozen? ⟨w.heap.size + 1, 2, none⟩ = false := heap_frozen hZ
    have y3 : wc.frozen? ⟨w.heap.size + 1, 3, none⟩ = false := heap_frozen hZ
    have HR2 : Hid (RdL wc A2 ld (fun x => w.heap.size ≤ x ∧ x ≠ w.heap.size + 1)) := Lib.hid ((hr2.old hb3).mono fun x hx => by
      have h1 : w.heap.size + 2 ≤ wb.heap.size := by have := heap_lt HU.out; omega
      have h2 : wb.heap.size ≤ x := hx
      omega)
    have HB3 := Lib.hid (HB.out.trans (hbc.mono HB.out.size))
    have HM2 := Lib.hid hm2
    have HN2 := Lib.hid hn2
    have HWC := Lib.hid hwc
    unfold unitObj at HWC
    obtain ⟨y, hy⟩ : ∃ y, y = w1.heap.size := ⟨_, rfl⟩
    rw [← hy] at x0 x1 x2 x3
    have HY := Lib.hid hy
    have hZ2 := Lib.hid hZ
    clear hb2 hb3 hbc hZ hT3 hr2 hm2 hn2 hwc hY hy t0 t1 t2 t3 x0 x1 x2 x3
    rw [HWC.out] at z0 z1 z2 z3 y0 y1 y2 y3 t0' t1' t2' t3'
    go_wp2
    rw [← HWC.out]
    clear z0 z1 z2 z3
    obtain ⟨z0, z1, z2, z3⟩ := unit4 hZ2.out
    exact bodyPost_ret (v := .tuple #[.agg #[.int .i64 k, .int .i64 lb, .int .i64 nb, .slice A2 m2 C2], .bool true]) (by simp [results, Tryz.results24, go_sem, z0, z1, z2, z3]) rfl (GoodA.stored (u := ⟨k, lb, nb, ld⟩) (by rw [HRES.out]; rfl) (by rw [HRES.out]; rfl) (by omega) HR2.out HM2.out hc2 HN2.out HB3.out)
  · have HRES := Lib.hid hres
    clear hres
    rw [HW.out] at t0 t1 t2 t3 hcb
    rcases hq with p1 | ⟨p1, p2⟩ | ⟨p1, p2, p3⟩
    all_goals
      go_enter Tryz.func24, Tryz.ntmps24
      go_wp2_with fail
      rw [← HW.out]
      refine HGET.out.mono ?_
      rintro e w1 ⟨A2, m2, C2, rfl, hm2, hc2, hn2, hr2, hb2⟩
      obtain ⟨wc, hwc⟩ : ∃ wc, wc = w1.alloc (unitObj k lb nb A2 m2 C2) := ⟨_, rfl⟩
      have hb3 : Below w1.heap.size w1 wc := by rw [hwc]; exact (Below.refl _ _).alloc (Nat.le_refl _) _
      have hbc := hb2.trans (hb3.mono hb2.size)
      have hY : wc.heap[w1.heap.size]? = some (unitObj k lb nb A2 m2 C2) := by rw [hwc]; exact Go.Deep.blk_alloc_new _ _
      have hZ := (hbc.block _ (heap_lt HU.out)).trans HU.out
      have hT3 := below_tape hbc HT.out
      obtain ⟨t0', t1', t2', t3'⟩ := tape4 hT3
      obtain ⟨z0, z1, z2, z3⟩ := unit4 hZ
      obtain ⟨x0, x1, x2, x3⟩ := unit4 hY
      have y0 : wc.frozen? ⟨w.heap.size + 1, 0, none⟩ = false := heap_frozen hZ
      have y1 : wc.frozen? ⟨w.heap.size + 1, 1, none⟩ = false := heap_frozen hZ
      have y2 : wc.frozen? ⟨w.heap.size + 1, 2, none⟩ = false := heap_frozen hZ
      have y3 : wc.frozen? ⟨w.heap.size + 1, 3, none⟩ = false := heap_frozen hZ
      have HR2 : Hid (RdL wc A2 ld (fun x => w.heap.size ≤ x ∧ x ≠ w.heap.size + 1)) := Lib.hid ((hr2.old hb3).mono fun x hx => by
        have h1 : w.heap.size + 2 ≤ wb.heap.size := by have := heap_lt HU.out; omega
        have h2 : wb.heap.size ≤ x := hx
        omega)
      have HB3 := Lib.hid (HB.out.trans (hbc.mono HB.out.size))
      have HM2 := Lib.hid hm2
      have HN2 := Lib.hid hn2
      have HWC := Lib.hid hwc
      unfold unitObj at HWC
      obtain ⟨y, hy⟩ : ∃ y, y = w1.heap.size := ⟨_, rfl⟩
      rw [← hy] at x0 x1 x2 x3
      have HY := Lib.hid hy
      have hZ2 := Lib.hid hZ
      clear hb2 hb3 hbc hZ hT3 hr2 hm2 hn2 hwc hY hy t0 t1 t2 t3 x0 x1 x2 x3
      rw [HWC.out] at z0 z1 z2 z3 y0 y1 y2 y3 t0' t1' t2' t3'
      go_wp2
      rw [← HWC.out]
      clear z0 z1 z2 z3
      obtain ⟨z0, z1, z2, z3⟩ := unit4 hZ2.out
      exact bodyPost_ret (v := .tuple #[.agg #[.int .i64 0, .int .i64 0, .int .i64 0, .slice none 0 0], .bool false]) (by simp [results, Tryz.results24, go_sem, z0, z1, z2, z3]) rfl (GoodA.stored (u := Fm.zero) (by rw [HRES.out]; rfl) (by rw [HRES.out]; rfl) (by omega) (RdL.empty _ _ _) rfl (Nat.le_refl _) (fun _ => ⟨rfl, rfl⟩) HB3.out)
theorem refGood_any (lab cap : Int) (bs : List Tx) (A : Option Addr) (L C : Nat) (G : Nat → Prop) (lost : Bool) (n : Int) (w : World) (hL : L = bs.length) (hr : RdB w A bs G) (hl : ∀ s ∈ bs, s.length ≤ 1000) :
    Calls Tryz.prog 24 #[.agg #[.int .i64 lab, .int .i64 cap, .slice A L C, .bool lost], .int .i64 n] w (GoodA (Vo.goodZ ⟨lab, bs, lost⟩ n) w) := by
  by_cases h : lost = true ∨ n < 0 ∨ (bs.length : Int) ≤ n
  · exact refGood_out lab cap bs A L C lost n w hL h
  · have h1 : lost = false := by cases lost with
      | true => exact absurd (.inl rfl) h
      | false => rfl
    subst h1
    have h2 : 0 ≤ n ∧ n < (bs.length : Int) := by
      constructor
      · rcases Int.lt_or_le n 0 with h' | h'
        · exact absurd (.inr (.inl h')) h
        · exact h'
      · rcases Int.lt_or_le n (bs.length : Int) with h' | h'
        · exact h'
        · exact absurd (.inr (.inr h')) h
    obtain ⟨m, rfl⟩ : ∃ m : Nat, n = (m : Int) := ⟨n.toNat, by omega⟩
    have h3 : Vo.goodZ ⟨lab, bs, false⟩ (m : Int) = Vo.good ⟨lab, bs, false⟩ m := by
      unfold Vo.goodZ
      rw [if_neg (by omega)]; rfl
    rw [h3]
    exact refGood_in lab cap bs A L C G m w hL hr (by omega) hl
end Go.Proofs.YtfkoomldncfdnaaGreat
