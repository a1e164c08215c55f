/- One tape, and one row, in a block of its own. No function of the program. The example of chapter 14 comes out true: alive of package cartridgelaw14. The document's own tape in memory, behind a pointer. No function of the program. Tapes whose rows lie in blocks of their own, one tape's behind the other's. No function of the program. Tapes in a row made by append, each tape's rows in blocks of their own. No function of the program. -/
import Derived.Test.YtmfikihcoafekaaMae
import Derived.Test.YtmfikihcoafekaaMal
import Derived.Test.YtmfikihcoafekaaMai
import Derived.Test.YtmfikihcoafekaaMar
import Derived.Test.YtmfikihcoafekaaMax
import Derived.Test.YtmfikihcoafekaaRefFmP
import Derived.Test.YtmfikihcoafekaaMah
import Derived.Test.YtmfikihcoafekaaMat
import Derived.Lib.SmallJoins
namespace Go.Proofs.Ytmfikihcoafekaa
open Go.RowKit
open Pt (Tx)

/-- one tape in a block of its own -/
theorem one_tape {w : World} {g : Nat} {lab cap : Int} {A : Option Addr} {bs : List Tx} {n C : Nat} {lost : Bool} (h : w.heap[g]? = some (tapeObj lab cap A n C lost)) (hn : n = bs.length) (hr : RdB w A bs (fun _ => True)) : RdT w (some ⟨g, 0, none⟩) [⟨lab, cap, bs, lost⟩] (fun _ => True) := fun _ => by
  subst hn
  refine ⟨g, 0, rfl, trivial, fun i hi => ?_⟩
  have h0 : i = 0 := by simpa using hi
  subst h0
  obtain ⟨t0, t1, t2, t3⟩ := tape4 h
  exact ⟨A, C, t0, t1, t2, t3, hr⟩
/-- one row in a block of its own -/
theorem one_row {w : World} {g : Nat} {A : Option Addr} {s : Tx} {n C : Nat} (h : w.heap[g]? = some (.cells #[.slice A n C] 24 (0, 0))) (hn : n = s.length) (hC : n ≤ C) (hA : A = none → n = 0 ∧ C = 0) (hr : RdL w A s (fun _ => True)) : RdB w (some ⟨g, 0, none⟩) [s] (fun _ => True) := fun _ => by
  subst hn
  refine ⟨g, 0, rfl, trivial, fun i hi => ?_⟩
  have h0 : i = 0 := by simpa using hi
  subst h0
  exact ⟨A, C, by rw [heap_cell h]; rfl, hC, hA, hr⟩
end Go.Proofs.Ytmfikihcoafekaa
namespace Go.Proofs.Ytmfikihcoafekaa
open Go.RowKit
open Pt (Tx)

theorem make_any (A1 : Option Addr) (data : List St.T) (C1 : Nat) (A2 : Option Addr) (blank : List St.T) (C2 : Nat) (G : Nat → Prop) (number : Int) (w : World) (hn1 : data.length ≤ 1000) (hn2 : blank.length ≤ 1000) (hA1 : A1 = none → data.length = 0 ∧ C1 = 0) (hA2 : A2 = none → blank.length = 0 ∧ C2 = 0)
    (hl : ∀ t ∈ data, t.blocks.length ≤ 1000000 ∧ ∀ s ∈ t.blocks, s.length ≤ 1000000) (hr1 : RdT w A1 data G) (hr2 : RdT w A2 blank G) :
    Calls Try.prog 6 #[.slice A1 data.length C1, .slice A2 blank.length C2, .int .i64 number] w (MakeA data blank number w) := by
  by_cases h : Gr.mkE data blank number = 0
  · exact make_yes A1 data C1 A2 blank C2 G number w hn1 hn2 hA1 hA2 hl hr1 hr2 h
  · exact make_no A1 data C1 A2 blank C2 G number w hn1 hn2 hA1 hA2 hl hr1 hr2 h
theorem num14 (n : Int) (w : World) : Calls Try.prog 7 #[.int .i64 n] w fun e w' => e = .returned (.int .i64 n) ∧ w = w' := by
  go_enter Try.func7, Try.ntmps7
  go_wp2
  go_ret
  exact ⟨rfl, rfl⟩
theorem FindA.len {ss : List Rc.S} {w w' : World} {e : Ending} (h : FindA ss w e w') : ∃ A C l, e = .returned (.slice A ss.length C) ∧ l.length = ss.length ∧ l.map Sx.s = ss ∧ ss.length ≤ C ∧ C ≤ maxLen ∧ (A = none → ss.length = 0 ∧ C = 0) ∧ encX.Rd w' A l (w.heap.size ≤ ·) ∧ (∀ x ∈ l, x.Ok w' (w.heap.size ≤ ·)) ∧ Below w.heap.size w w' := by
  obtain ⟨A, C, l, h1, h2, h3, h4, h5, h6, h7, h8⟩ := h
  have hl : l.length = ss.length := by rw [← h2, List.length_map]
  rw [hl] at h1 h3 h5
  exact ⟨A, C, l, h1, hl, h2, h3, h4, h5, h6, h7, h8⟩
theorem blk_short (u : Fm.U) (h : u.load.length ≤ 79) : (Fm.blk u).length ≤ 200 := by
  have h1 := Fm.room_le u.kind
  unfold Fm.blk Fm.body Fm.pad
  rw [List.length_append, List.length_append, List.length_append, Fm.head_len, List.length_replicate, Cd.be4_len]
  omega
/-- how long what is made is -/
theorem made_sizes {data blank : List St.T} {number : Int} (h : St.len data ≤ 1000) : ∀ t ∈ Gr.made data blank number, t.blocks.length ≤ 1000000 ∧ ∀ s ∈ t.blocks, s.length ≤ 1000000 := by
  intro t ht
  obtain ⟨i, hi, rfl⟩ := List.mem_iff_getElem.1 ht
  have hi' : i < blank.length := by rwa [Gr.made_len] at hi
  rw [Gr.made_at hi']
  refine ⟨by rw [Gr.madeT_len]; omega, fun s hs => ?_⟩
  have hs' : s ∈ framedL blank[i].label (says (Gr.rowsOf data blank.length i) (Gr.sealOf data blank number (data.length + i))) := hs
  obtain ⟨k, hk, rfl⟩ := List.mem_iff_getElem.1 hs'
  rw [framedL_at (by rwa [framedL_len] at hk)]
  refine Nat.le_trans (blk_short _ ?_) (by omega)
  show ((says (Gr.rowsOf data blank.length i) (Gr.sealOf data blank number (data.length + i)))[k]'(by rwa [framedL_len] at hk)).2.length ≤ 79
  have hm := List.getElem_mem (by rwa [framedL_len] at hk : k < (says (Gr.rowsOf data blank.length i) (Gr.sealOf data blank number (data.length + i))).length)
  generalize (says (Gr.rowsOf data blank.length i) (Gr.sealOf data blank number (data.length + i)))[k]'(by rwa [framedL_len] at hk) = u at hm ⊢
  unfold says at hm
  rcases List.mem_append.1 hm with hm | hm
  · rcases List.mem_cons.1 hm with rfl | hm
    · show 1 ≤ 79; omega
    · obtain ⟨r, hr, rfl⟩ := List.mem_map.1 hm
      show r.length ≤ 79
      rw [Gr.rowsOf_79 hr]; exact Nat.le_refl _
  · rw [List.mem_singleton.1 hm]
    have := Rc.sput_le (Gr.sealOf data blank number (data.length + i))
    show (Rc.sput _).length ≤ 79
    omega
def exD : List St.T := [Ex.d 1 4]
def exB : List St.T := [⟨2, 4, [], false⟩]
theorem ex_mk : Gr.mkE exD exB 1 = 0 := Ex.mk_zero ⟨by decide, by decide⟩ (by decide) (by decide) (fun t ht => by rw [List.mem_singleton.1 ht]; exact ⟨rfl, rfl, by decide⟩) (by decide)
theorem ex_seal : Rc.SOk (Gr.sealOf exD exB 1 0) := Gr.chk_seal (Ex.chk_zero ⟨by decide, by decide⟩ (by decide) (by decide) (fun t ht => by rw [List.mem_singleton.1 ht]; exact ⟨rfl, rfl, by decide⟩) (by decide))
theorem ex_find : (Gr.find (Gr.made exD exB 1)).length = 1 := by
  have h := Gr.made_cand ex_seal (by decide) (i := 0) (by decide)
  have e : Gr.made exD exB 1 = [Gr.madeT exD exB 1 0 exB[0]] := rfl
  rw [e]
  show (Gr.all (Gr.cands _)).length = 1
  rw [show Gr.cands [Gr.madeT exD exB 1 0 exB[0]] = [Gr.sealOf exD exB 1 (exD.length + 0)] by unfold Gr.cands; simp [h]]
  rfl
set_option maxRecDepth 100000 in
set_option maxHeartbeats 8000000 in
theorem alive14_true (w : World) : Calls Try.prog 4 #[] w (AnsB true w) := by
  obtain ⟨w1, hw1⟩ : ∃ w1, w1 = w.alloc (.cells #[.int .u8 68] 5 (1, 2)) := ⟨_, rfl⟩
  have kc := Go.Joins.run_convert_bytes_const_at (P := Try.prog) w 24 5 #[.int .u8 68] 1 1 w.heap.size rfl Try.underlying24 Try.underlying5
  simp only [List.size_toArray, List.length_cons, List.length_nil, Nat.zero_add, Nat.reduceAdd] at kc
  have hb1 : Below w.heap.size w w1 := by rw [hw1]; exact (Below.refl _ _).alloc (Nat.le_refl _) _
  have hD1 : w1.heap[w.heap.size]? = some (.cells #[.int .u8 68] 5 (1, 2)) := by rw [hw1]; exact Go.Deep.blk_alloc_new _ _
  have hrd : RdL w1 (some ⟨w.heap.size, 0, none⟩) [68] (fun _ => True) := fun _ => ⟨_, _, rfl, trivial, fun j hj => by
    have : j = 0 := by simp at hj; omega
    subst this
    rw [heap_cell hD1]; rfl⟩
  have hput := refPut_own 1 1 0 (some ⟨w.heap.size, 0, none⟩) [68] 1 1 _ w1 rfl (fun h => by cases h) hrd
  unfold PutO at hput
  rw [show Fm.err ⟨1, 1, 0, [68]⟩ = 0 from Fm.err_ok (Ex.ok (by decide)), show Fm.put ⟨1, 1, 0, [68]⟩ = Ex.b 1 from Fm.put_ok (Ex.ok (by decide))] at hput
  have HP := Lib.hid hput
  have HB1 := Lib.hid hb1
  have HW1 := Lib.hid hw1
  have hfn := find_any none [] 0 (fun _ => True)
  have HFN : Hid (∀ y, Calls Try.prog 8 #[.slice none 0 0] y (FindA [] y)) := Lib.hid fun y => hfn y (by simp) (fun t ht => by cases ht) (RdT.empty _ _ _)
  clear hput hb1 hw1 hD1 hrd hfn
  go_enter Try.func4, Try.ntmps4
  go_wp2_with fail
  clear kc
  rw [← HW1.out]
  refine HP.out.mono ?_
  rintro e w3 ⟨A3, n3, C3, rfl, hO3, hb3⟩
  obtain ⟨A3', C3', e3, hc3, hcm3, hn3, hr3⟩ := hO3.rd
  injection e3 with x1 x2 x3
  subst x1 x3
  obtain ⟨w4, hw4⟩ : ∃ w4, w4 = w3.alloc (.cells #[.slice A3 n3 C3] 24) := ⟨_, rfl⟩
  obtain ⟨w5, hw5⟩ : ∃ w5, w5 = w4.alloc (tapeObj 1 4 (some ⟨w3.heap.size, 0, none⟩) 1 1 false) := ⟨_, rfl⟩
  obtain ⟨w6, hw6⟩ : ∃ w6, w6 = w5.alloc (tapeObj 2 4 none 0 0 false) := ⟨_, rfl⟩
  have s4 : w4.heap.size = w3.heap.size + 1 := by rw [hw4]; simp
  have s5 : w5.heap.size = w3.heap.size + 1 + 1 := by rw [hw5]; simp [s4]
  have b34 : Below w3.heap.size w3 w4 := by rw [hw4]; exact (Below.refl _ _).alloc (Nat.le_refl _) _
  have b45 : Below w4.heap.size w4 w5 := by rw [hw5]; exact (Below.refl _ _).alloc (Nat.le_refl _) _
  have b56 : Below w5.heap.size w5 w6 := by rw [hw6]; exact (Below.refl _ _).alloc (Nat.le_refl _) _
  have b46 : Below w4.heap.size w4 w6 := b45.trans (b56.mono b45.size)
  have b36 : Below w3.heap.size w3 w6 := b34.trans (b46.mono b34.size)
  have k4 : w4.heap[w3.heap.size]? = some (.cells #[.slice A3 n3 C3] 24 (0, 0)) := by rw [hw4]; exact Go.Deep.blk_alloc_new _ _
  have k5 : w5.heap[w4.heap.size]? = some (tapeObj 1 4 (some ⟨w3.heap.size, 0, none⟩) 1 1 false) := by rw [hw5]; exact Go.Deep.blk_alloc_new _ _
  have k6 : w6.heap[w5.heap.size]? = some (tapeObj 2 4 none 0 0 false) := by rw [hw6]; exact Go.Deep.blk_alloc_new _ _
  have hrow := one_row (below_obj b46 k4) x2 (by rw [x2]; exact hc3) (by rw [x2]; exact hn3) ((hr3.old b36).mono fun _ _ => trivial)
  have hd := one_tape (below_obj b56 k5) rfl hrow
  have hb := one_tape (bs := []) k6 rfl (RdB.empty _ _ _)
  rw [s4] at hd
  rw [s5] at hb
  have hmk := make_any (some ⟨w3.heap.size + 1, 0, none⟩) exD 1 (some ⟨w3.heap.size + 1 + 1, 0, none⟩) exB 1 (fun _ => True) 1 w6 (by decide) (by decide) (fun h => by cases h) (fun h => by cases h) (fun t ht => by
    rw [List.mem_singleton.1 ht]
    refine ⟨by show 1 ≤ 1000000; omega, fun s hs => ?_⟩
    have hs' : s ∈ [Ex.b 1] := hs
    rw [List.mem_singleton.1 hs', Ex.b_len (by decide)]; omega) hd hb
  unfold MakeA at hmk
  simp only [if_pos ex_mk] at hmk
  have HMK := Lib.hid hmk
  have HB6 := Lib.hid ((HB1.out.trans (hb3.mono HB1.out.size)).trans (b36.mono (HB1.out.trans (hb3.mono HB1.out.size)).size))
  have HW6 : Hid (w6 = ((w3.alloc (.cells #[.slice A3 n3 C3] 24)).alloc (.cells #[.int .i64 1, .int .i64 4, .slice (some ⟨w3.heap.size, 0, none⟩) 1 1, .bool false] 32)).alloc (.cells #[.int .i64 2, .int .i64 4, .slice none 0 0, .bool false] 32)) := Lib.hid (by rw [hw6, hw5, hw4]; rfl)
  clear hw4 hw5 hw6 s4 s5 b34 b45 b56 b46 b36 k4 k5 k6 hrow hd hb hmk hO3 hb3 hc3 hcm3 hn3 hr3 x2
  go_wp2_with fail
  rw [← HW6.out]
  refine HMK.out.mono ?_
  rintro e w7 ⟨A7, C7, rfl, hC7, hM7, hA7, hr7, hb7⟩
  obtain ⟨b7, off7, A8, C8, rfl, -, -, -, c2, -, -⟩ := hr7.at_ (i := 0) (by decide)
  have hl3 : ((Gr.made exD exB 1)[0]'(by decide)).blocks.length = 3 := by
    have e : (Gr.made exD exB 1)[0]'(by decide) = Gr.madeT exD exB 1 0 exB[0] := rfl
    rw [e, Gr.madeT_len]; rfl
  rw [hl3] at c2
  have HB7 := Lib.hid (HB6.out.trans (hb7.mono HB6.out.size))
  have HF : Hid (∀ y, Below w7.heap.size w7 y → Calls Try.prog 8 #[.slice (some ⟨b7, off7, none⟩) 1 C7] y (FindA (Gr.find (Gr.made exD exB 1)) y)) := Lib.hid fun y hy =>
    find_any (some ⟨b7, off7, none⟩) (Gr.made exD exB 1) C7 _ y (by decide) (made_sizes (by decide)) (hr7.old hy)
  clear hr7 hb7 hl3 hC7 hM7 hA7
  go_wp2_with fail
  refine (HFN.out w7).mono ?_
  rintro e w8 ⟨A9, C9, l9, rfl, hl9, -, -, -, -, -, hb8⟩
  have hl0 : l9 = [] := by cases l9 with
    | nil => rfl
    | cons a l => cases hl9
  subst hl0
  have c2' := (hb8.cell (World.block_lt_of_cell? _ _ c2)).trans c2
  have HB8 := Lib.hid hb8
  clear hl9 hb8 c2
  simp only [List.length_nil]
  go_wp2_with (first
    | (go_at_call 7; refine (num14 _ _).mono ?_; rintro e w' ⟨rfl, hw'⟩; subst hw')
    | (go_at_call 8; refine (HF.out _ HB8.out).mono ?_; intro e w9 hfa; obtain ⟨A10, C10, l10, rfl, -, -, -, -, -, -, -, hb9⟩ := hfa.len; rw [ex_find]; have HB9 := Lib.hid (HB7.out.trans ((HB8.out.trans (hb9.mono HB8.out.size)).mono HB7.out.size)); clear hb9 hfa))
  go_ret
  exact ⟨rfl, HB9.out⟩
end Go.Proofs.Ytmfikihcoafekaa
namespace Go.Proofs.Ytmfikihcoafekaa
open Go.RowKit
open Pt (Tx)

/-- the tape at block gr -/
structure Rt (w : World) (B gr : Nat) (G : Nat → Prop) (lab cap : Int) (bs : List Tx) : Prop where
  ex : ∃ v us, w.heap[gr]? = some (.cells #[.int .i64 lab, .int .i64 cap, v, .bool false] 32 (0, 0)) ∧ TopB w B G v us bs
  lo : B ≤ gr
/-- what a call on such a tape may turn -/
def RefS (B : Nat) (G : Nat → Prop) (w : World) (k : Nat) : Prop := B ≤ k ∧ ((∃ c, w.heap[k]? = some (.cells c 24 (0, 0))) ∨ (∃ c, w.heap[k]? = some (.cells c 32 (0, 0))) ∨ G k)
def RefT (B : Nat) (G : Nat → Prop) (w w' : World) : Prop := Kp (RefS B G w) w w'
theorem RefT.refl (B : Nat) (G : Nat → Prop) (w : World) : RefT B G w w := Kp.refl _ _
theorem RefT.trans {B : Nat} {G : Nat → Prop} {a b c : World} (h : RefT B G a b) (k : RefT B G b c) : RefT B G a c := by
  refine ⟨k.os.trans h.os, k.tape.trans h.tape, k.output.trans h.output, Nat.le_trans h.size k.size, fun i hi hs => ?_⟩
  have e := h.block i hi hs
  rw [← e]
  refine k.block i (Nat.lt_of_lt_of_le hi h.size) fun h' => hs ?_
  obtain ⟨h1, h2⟩ := h'
  rw [e] at h2
  exact ⟨h1, h2⟩
theorem RefT.below {B : Nat} {G : Nat → Prop} {a b : World} (h : RefT B G a b) (hB : B ≤ a.heap.size) : Below B a b := Kp.below h hB fun _ hk => hk.1
theorem RefT.of_below {B : Nat} {G : Nat → Prop} {a b : World} (h : Below a.heap.size a b) : RefT B G a b := Kp.of_below h
/-- a block of another kind is kept -/
theorem RefT.kept {B : Nat} {G : Nat → Prop} {a b : World} (h : RefT B G a b) {k : Nat} {c : Array Value} {t : TypeId} {fr : Nat × Nat} (hk : a.heap[k]? = some (.cells c t fr)) (h1 : t ≠ 24) (h2 : t ≠ 32) (h3 : ¬ G k) : b.heap[k]? = some (.cells c t fr) := by
  refine (h.block k (heap_lt hk) fun hs => ?_).trans hk
  rcases hs.2 with ⟨c', e⟩ | ⟨c', e⟩ | e
  · rw [hk] at e; injection e with e; injection e with _ e; exact h1 e
  · rw [hk] at e; injection e with e; injection e with _ e; exact h2 e
  · exact h3 e
namespace Rt
variable {w w' : World} {B gr : Nat} {G G' : Nat → Prop} {lab cap : Int} {bs : List Tx}
theorem lt (h : Rt w B gr G lab cap bs) : gr < w.heap.size := by obtain ⟨v, us, h1, _⟩ := h.ex; exact heap_lt h1
theorem kp {S : Nat → Prop} (h : Rt w B gr G lab cap bs) (hk : Kp S w w') (h0 : ¬ S gr) (h1 : ∀ k c, S k → w.heap[k]? ≠ some (.cells c 24 (0, 0))) (h2 : ∀ k, S k → ¬ G k) : Rt w' B gr G lab cap bs := by
  obtain ⟨⟨v, us, hb, ht⟩, hlo⟩ := h
  exact ⟨⟨v, us, (hk.block gr (heap_lt hb) h0).trans hb, ht.kp hk h1 h2⟩, hlo⟩
theorem old (h : Rt w B gr G lab cap bs) (hb : Below w.heap.size w w') : Rt w' B gr G lab cap bs :=
  h.kp (S := fun _ => False) (Kp.of_below hb) (fun h => h) (fun _ _ h => h.elim) (fun _ h => h.elim)
theorem mono (h : Rt w B gr G lab cap bs) (hg : ∀ k, G k → G' k) : Rt w B gr G' lab cap bs := by
  obtain ⟨⟨v, us, hb, ht⟩, hlo⟩ := h
  exact ⟨⟨v, us, hb, ht.mono hg⟩, hlo⟩
theorem there (h : Rt w B gr G lab cap bs) : Rt w B gr (fun k => G k ∧ k < w.heap.size) lab cap bs := by
  obtain ⟨⟨v, us, hb, ht⟩, hlo⟩ := h
  exact ⟨⟨v, us, hb, ht.there⟩, hlo⟩
end Rt
theorem own_down {w : World} {B B' : Nat} {t : TypeId} {v : Value} {n : Nat} {xs : List Value} (h : w.ownsRow B t 1 v n xs) (hB : B' ≤ B) : w.ownsRow B' t 1 v n xs := by
  refine ⟨h.1, ?_⟩
  rcases h.2 with h0 | ⟨g, c, cur, e, hb, hr⟩
  · exact .inl h0
  · exact .inr ⟨g, c, cur, e, Nat.le_trans hB hb, hr⟩
/-- what a call on such a tape answered, and left -/
def RefDid (r : Value) (B gr : Nat) (G : Nat → Prop) (lab cap : Int) (bs : List Tx) (w : World) (e : Ending) (w' : World) : Prop := e = .returned r ∧ Rt w' B gr G lab cap bs ∧ RefT B G w w'
theorem oneCellT (w : World) (u : Value) (t : TypeId) : ∀ j u', [u][j]? = some u' → (w.alloc (.cells #[u] t)).cell? ((⟨w.heap.size, 0, none⟩ : Addr).add j) = some u' := fun j u' hu => by
  have hj : j = 0 := by
    rcases Nat.eq_zero_or_pos j with h0 | h0
    · exact h0
    · rw [List.getElem?_eq_none (by simp; omega)] at hu; cases hu
  subst hj
  cases hu
  rw [addr_add]; simp
theorem oneTop (A : Option Addr) (L C : Nat) : ∀ u ∈ [Value.slice A L C], u.oneCell' = true := fun u hu => by rw [List.mem_singleton.1 hu]; rfl
/-- a row is appended to the tape at gr -/
theorem Rt.pushed {w wA wB : World} {B gr : Nat} {G : Nat → Prop} {lab cap : Int} {bs : List Tx} {v : Value} {us : List Value} {s : Tx} {u v' : Value} {o : Obj} (hM : w.heap[gr]? = some (.cells #[.int .i64 lab, .int .i64 cap, v, .bool false] 32 (0, 0))) (hT : TopB w B G v us bs) (hlo : B ≤ gr)
    (hA : Below w.heap.size w wA) (hu : OwnL wA B u s) (hun : ∀ k, u.ownBlock = some k → w.heap.size ≤ k) (hG : ∀ k, w.heap.size ≤ k → G k) (hB : wB.ownsRow B 24 1 v' (us.length + 1) (us ++ [u])) (hg : (wA.alloc o).grownBy wB v.ownBlock) :
    wB.heap[gr]? = w.heap[gr]? ∧ Rt (wB.setCell ⟨gr, 2, none⟩ v') B gr G lab cap (bs ++ [s]) ∧ RefT B G w (wB.setCell ⟨gr, 2, none⟩ v') := by
  have hlt := heap_lt hM
  have hA' : Below w.heap.size w (wA.alloc o) := hA.alloc hA.size _
  have hne : some gr ≠ v.ownBlock := fun e => by
    obtain ⟨x, hx⟩ := own_blk hT.top gr e.symm
    rw [hM] at hx
    injection hx with hx
    injection hx with _ e2
    exact absurd e2 (by decide)
  have e : wB.heap[gr]? = w.heap[gr]? := (hg.block gr (Nat.lt_of_lt_of_le hlt hA'.size) hne).trans (hA'.block gr hlt)
  have hp := hT.push hA' (hu.alloc o) hun (fun k hk => hG k (hun k hk)) hB hg
  refine ⟨e, ⟨⟨v', us ++ [u], by rw [heap_set (e.trans hM)]; rfl, hp.kpT (Kp.store _ gr 2 _) (fun x c hx hc => ?_) (fun x c hx hc => ?_)⟩, hlo⟩, ?_⟩
  · rw [hx, e, hM] at hc
    injection hc with hc
    injection hc with _ e2
    exact absurd e2 (by decide)
  · rw [hx, e, hM] at hc
    injection hc with hc
    injection hc with _ e2
    exact absurd e2 (by decide)
  · refine (RefT.of_below hA').trans (RefT.trans (Kp.grown (Kp.refl _ _) hg fun k hk => ?_) ((Kp.store wB gr 2 v').mono fun k hk => ?_))
    · obtain ⟨x, hx⟩ := own_blk hT.top k hk
      exact ⟨(hT.top.lt k hk).1, .inl ⟨x, (hA'.block k (heap_lt hx)).trans hx⟩⟩
    · rw [hk]
      exact ⟨hlo, .inr (.inl ⟨_, e.trans hM⟩)⟩
theorem own_row {w : World} {B B' : Nat} {v : Value} {n : Nat} {s : Tx} (h : w.ownsRow B' 5 1 v n ([] ++ cellsL s)) (hn : s.length = n) (hB : B ≤ B') : OwnL w B v s := by
  subst hn; exact own_down h hB
theorem own_base {w : World} {B g n c : Nat} {t : TypeId} {xs : List Value} (h : w.ownsRow B t 1 (.slice (some ⟨g, 0, none⟩) n c) n xs) : B ≤ g := by
  rcases h.2 with ⟨e, _⟩ | ⟨g', c', cur, e, hb, _⟩
  · cases e
  · cases e; exact hb
end Go.Proofs.Ytmfikihcoafekaa
namespace Go.Proofs.Ytmfikihcoafekaa
open Go.RowKit
open Pt (Tx)

/-- a tape whose rows lie in blocks from lo on, below hi -/
structure OneT (w : World) (lo hi : Nat) (t : Tv) (s : St.T) : Prop where
  label : t.label = s.label
  cap : t.cap = s.cap
  n : t.n = s.blocks.length
  lost : t.lost = s.lost
  rows : ∃ us, TopB w lo (fun k => lo ≤ k ∧ k < hi) (.slice t.A t.n t.C) us s.blocks
  top : ∀ k, (Value.slice t.A t.n t.C).ownBlock = some k → k < hi
namespace OneT
variable {w w' : World} {lo hi : Nat} {t : Tv} {s : St.T}
theorem kp {S : Nat → Prop} (h : OneT w lo hi t s) (hk : Kp S w w') (h1 : ∀ k c, S k → k < hi → w.heap[k]? ≠ some (.cells c 24 (0, 0))) (h2 : ∀ k c, S k → k < hi → w.heap[k]? ≠ some (.cells c 5 (0, 0))) : OneT w' lo hi t s := by
  obtain ⟨us, ht⟩ := h.rows
  refine ⟨h.label, h.cap, h.n, h.lost, ⟨us, ⟨own_of ht.top fun k e => ?_, ht.len, fun i hi hi' => (ht.rows i hi hi').of_block fun k e => ?_, ht.gs, ht.inj⟩⟩, h.top⟩
  · obtain ⟨c, hc⟩ := own_blk ht.top k e
    exact hk.block k (heap_lt hc) fun hs => h1 k c hs (h.top k e) hc
  · obtain ⟨c, hc⟩ := (ht.rows i hi hi').block k e
    exact hk.block k (heap_lt hc) fun hs => h2 k c hs (ht.gs i hi k e).2 hc
theorem up (h : OneT w lo hi t s) {hi' : Nat} (hh : hi ≤ hi') : OneT w lo hi' t s := by
  obtain ⟨us, ht⟩ := h.rows
  exact ⟨h.label, h.cap, h.n, h.lost, ⟨us, ht.mono fun k hk => ⟨hk.1, by omega⟩⟩, fun k e => by have := h.top k e; omega⟩
theorem rdB (h : OneT w lo hi t s) : RdB w t.A s.blocks (lo ≤ ·) := by
  obtain ⟨us, ht⟩ := h.rows
  exact ht.rdB
end OneT
/-- tapes, one's rows behind the other's -/
structure RowsT (w : World) (B N : Nat) (tvs : List Tv) (ts : List St.T) (L : Nat → Nat) : Prop where
  len : tvs.length = ts.length
  lo : B ≤ L 0
  mono : ∀ i, i < ts.length → L i ≤ L (i + 1)
  hi : L ts.length ≤ N
  one : ∀ i (hi : i < tvs.length) (hi' : i < ts.length), OneT w (L i) (L (i + 1)) tvs[i] ts[i]
namespace RowsT
variable {w w' : World} {B N : Nat} {tvs : List Tv} {ts : List St.T} {L : Nat → Nat}
theorem nil (w : World) (B : Nat) : RowsT w B B [] [] (fun _ => B) := ⟨rfl, Nat.le_refl _, fun _ _ => Nat.le_refl _, Nat.le_refl _, fun i hi => absurd hi (by simp)⟩
theorem le (h : RowsT w B N tvs ts L) : ∀ j i, i ≤ j → j ≤ ts.length → L i ≤ L j := by
  intro j
  induction j with
  | zero => intro i hi _; rw [Nat.le_zero.1 hi]; exact Nat.le_refl _
  | succ j ih =>
    intro i hi hj
    by_cases e : i = j + 1
    · rw [e]; exact Nat.le_refl _
    · exact Nat.le_trans (ih i (by omega) (by omega)) (h.mono j (by omega))
theorem kp {S : Nat → Prop} (h : RowsT w B N tvs ts L) (hk : Kp S w w') (h1 : ∀ k c, S k → k < N → w.heap[k]? ≠ some (.cells c 24 (0, 0))) (h2 : ∀ k c, S k → k < N → w.heap[k]? ≠ some (.cells c 5 (0, 0))) : RowsT w' B N tvs ts L := by
  refine ⟨h.len, h.lo, h.mono, h.hi, fun i hi hi' => ?_⟩
  have hle := Nat.le_trans (h.le ts.length (i + 1) (by omega) (Nat.le_refl _)) h.hi
  exact (h.one i hi hi').kp hk (fun k c hs hl => h1 k c hs (by omega)) (fun k c hs hl => h2 k c hs (by omega))
theorem up (h : RowsT w B N tvs ts L) {N' : Nat} (hN : N ≤ N') : RowsT w B N' tvs ts L := ⟨h.len, h.lo, h.mono, Nat.le_trans h.hi hN, h.one⟩
theorem down (h : RowsT w B N tvs ts L) {B' : Nat} (hB : B' ≤ B) : RowsT w B' N tvs ts L := ⟨h.len, Nat.le_trans hB h.lo, h.mono, h.hi, h.one⟩
theorem push (h : RowsT w B N tvs ts L) {M : Nat} {t : Tv} {s : St.T} (ho : OneT w N M t s) (hM : N ≤ M) : RowsT w B M (tvs ++ [t]) (ts ++ [s]) (fun i => if i < ts.length then L i else if i = ts.length then N else M) := by
  have hl := h.len
  refine ⟨by simp [hl], ?_, fun i hi => ?_, ?_, fun i hi hi' => ?_⟩
  · split
    · exact h.lo
    · rename_i h0
      have e : ts.length = 0 := by omega
      rw [if_pos e.symm]
      have := h.hi
      rw [e] at this
      exact Nat.le_trans h.lo this
  · rw [List.length_append, List.length_singleton] at hi
    by_cases h0 : i < ts.length
    · rw [if_pos h0]
      by_cases h1 : i + 1 < ts.length
      · rw [if_pos h1]; exact h.mono i h0
      · rw [if_neg h1, if_pos (by omega)]
        exact Nat.le_trans (h.le ts.length i (by omega) (Nat.le_refl _)) h.hi
    · rw [if_neg h0, if_pos (by omega), if_neg (by omega), if_neg (by omega)]; exact hM
  · rw [List.length_append, List.length_singleton, if_neg (by omega), if_neg (by omega)]; exact Nat.le_refl _
  · rw [List.length_append, List.length_singleton] at hi hi'
    by_cases h0 : i < ts.length
    · rw [if_pos h0, List.getElem_append_left h0, List.getElem_append_left (by omega)]
      by_cases h1 : i + 1 < ts.length
      · rw [if_pos h1]; exact h.one i (by omega) h0
      · rw [if_neg h1, if_pos (by omega)]
        have e : i + 1 = ts.length := by omega
        have h2 := h.hi
        rw [← e] at h2
        exact (h.one i (by omega) h0).up h2
    · have e : i = ts.length := by omega
      subst e
      have e1 : (ts ++ [s])[ts.length] = s := by simp
      have e2 : (tvs ++ [t])[ts.length]'(by simp [hl]) = t := by simp [← hl]
      rw [if_neg (by omega), if_pos rfl, if_neg (by omega), if_neg (by omega), e1, e2]
      exact ho
theorem rdT (h : RowsT w B N tvs ts L) {A : Option Addr} {G : Nat → Prop} (hr : encT.Rd w A tvs G) (hG : ∀ b, B ≤ b → G b) : RdT w A ts G :=
  RdT.of_rows hr h.len fun i hi hi' => by
    have ho := h.one i hi hi'
    exact ⟨ho.label, ho.cap, ho.n, ho.lost, ho.rdB.mono fun b hb => hG b (Nat.le_trans (Nat.le_trans h.lo (h.le i 0 (by omega) (by omega))) hb)⟩
end RowsT
end Go.Proofs.Ytmfikihcoafekaa
namespace Go.Proofs.Ytmfikihcoafekaa
open Go.RowKit
open Pt (Tx)

structure LdR (w : World) (v : Value) (ts : List St.T) (wr : World) : Prop where
  ex : ∃ tvs L, encT.Own wr w.heap.size 32 v tvs ∧ RowsT wr w.heap.size wr.heap.size tvs ts L
  bel : Below w.heap.size w wr
namespace LdR
variable {w wr w2 w3 : World} {v v' : Value} {ts : List St.T}
theorem start (w : World) : LdR w (.slice none 0 0) [] w := ⟨⟨[], _, Enc.Own.nil _ _ _, RowsT.nil _ _⟩, Below.refl _ _⟩
theorem old (h : LdR w v ts wr) (hb : Below wr.heap.size wr w2) : LdR w v ts w2 := by
  obtain ⟨tvs, L, h1, h2⟩ := h.ex
  exact ⟨⟨tvs, L, h1.old hb, (h2.kp (S := fun _ => False) (Kp.of_below hb) (fun _ _ hs => hs.elim) (fun _ _ hs => hs.elim)).up hb.size⟩, h.bel.trans (hb.mono h.bel.size)⟩
/-- one tape more -/
theorem next {tvs : List Tv} {L : Nat → Nat} {lab cap : Int} {A : Option Addr} {n C : Nat} {us : List Value} {bs : List Tx} {G : Nat → Prop} {o : Obj} (h : LdR w v ts wr)
    (hown : encT.Own wr w.heap.size 32 v tvs) (hrow : RowsT wr w.heap.size wr.heap.size tvs ts L) (hb : Below wr.heap.size wr w2) (hn : n = bs.length) (hT : TopB w2 wr.heap.size G (.slice A n C) us bs)
    (hg : (w2.alloc o).grownBy w3 v.ownBlock) (ho : encT.Own w3 w.heap.size 32 v' (tvs ++ [⟨lab, cap, A, n, C, false⟩])) : LdR w v' (ts ++ [⟨lab, cap, bs, false⟩]) w3 := by
  have hvb : ∀ k, v.ownBlock = some k → ∃ c, wr.heap[k]? = some (.cells c 32 (0, 0)) := hown.block
  have hsz : (w2.alloc o).heap.size = w2.heap.size + 1 := by simp
  have hone2 : OneT w2 wr.heap.size w2.heap.size ⟨lab, cap, A, n, C, false⟩ ⟨lab, cap, bs, false⟩ := by
    refine ⟨rfl, rfl, hn, rfl, ⟨us, ⟨hT.top, hT.len, hT.rows, fun i hi k e => ?_, hT.inj⟩⟩, fun k e => (hT.top.lt k e).2⟩
    have hr := hT.rows i hi (by rw [← hT.len]; exact hi)
    exact ⟨hr.lo k e, hr.lt k e⟩
  have hk2 : Kp (fun k => v.ownBlock = some k) w2 w3 := ⟨hg.os, hg.tape, hg.output, by have := hg.size; omega, fun k hk hs => by
    rw [hg.block k (by omega) fun e => hs e.symm]
    exact ((Below.refl w2.heap.size w2).alloc (Nat.le_refl _) o).block k hk⟩
  have hv2 : ∀ k, v.ownBlock = some k → ∃ c, w2.heap[k]? = some (.cells c 32 (0, 0)) := fun k e => by
    obtain ⟨c, hc⟩ := hvb k e
    exact ⟨c, (hb.block k (heap_lt hc)).trans hc⟩
  have hne1 : ∀ k c, v.ownBlock = some k → w2.heap[k]? ≠ some (.cells c 24 (0, 0)) := fun k c e hc => by
    obtain ⟨c', hc'⟩ := hv2 k e
    rw [hc'] at hc; injection hc with hc; injection hc with _ e2; exact absurd e2 (by decide)
  have hne2 : ∀ k c, v.ownBlock = some k → w2.heap[k]? ≠ some (.cells c 5 (0, 0)) := fun k c e hc => by
    obtain ⟨c', hc'⟩ := hv2 k e
    rw [hc'] at hc; injection hc with hc; injection hc with _ e2; exact absurd e2 (by decide)
  have hone := hone2.kp hk2 (fun k c e _ => hne1 k c e) (fun k c e _ => hne2 k c e)
  have hrow2 := (hrow.kp (S := fun _ => False) (Kp.of_below hb) (fun _ _ hs => hs.elim) (fun _ _ hs => hs.elim)).kp hk2 (fun k c e _ => hne1 k c e) (fun k c e _ => hne2 k c e)
  have hbel : Below w.heap.size w w3 := (h.bel.trans (hb.mono h.bel.size)).trans (hk2.below (Nat.le_trans h.bel.size hb.size) fun k e => (hown.lt k e).1)
  exact ⟨⟨_, _, ho, (hrow2.push hone hb.size).up (by have := hg.size; omega)⟩, hbel⟩
/-- as what reads -/
theorem rd (h : LdR w v ts wr) : ∃ A C, v = .slice A ts.length C ∧ RdT wr A ts (fun _ => True) := by
  obtain ⟨tvs, L, h1, h2⟩ := h.ex
  obtain ⟨A, C, hv, -, -, -, hr⟩ := h1.rd
  rw [h2.len] at hv
  exact ⟨A, C, hv, h2.rdT (hr.mono fun _ _ => trivial) fun _ _ => trivial⟩
end LdR
end Go.Proofs.Ytmfikihcoafekaa
