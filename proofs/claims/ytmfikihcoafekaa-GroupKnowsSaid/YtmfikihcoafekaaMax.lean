/- What Make of package group answers: the parity tapes of a group, or why none. What Make of package group answers where nothing stands against it: the parity tapes. What the document's own Writer writes. A Writer of the document's own at work. -/
import Derived.Test.YtmfikihcoafekaaMat
import Derived.Test.YtmfikihcoafekaaMau
import Derived.Test.YtmfikihcoafekaaMaw
import Derived.Deep.RegionHeld3
import Derived.Deep.DeepFit
import Derived.Test.YtmfikihcoafekaaMai
import Derived.Test.YtmfikihcoafekaaMam
import Derived.Test.YtmfikihcoafekaaChecked
import Derived.OwnWalk
import Derived.Handy
import Derived.WalkSpells
import Derived.WalkLawsBesides
import Derived.StillTailTactics
import Derived.Laws.BitsAllLaws
import Derived.Laws.BitsLemmas
import Derived.Test.YtmfikihcoafekaaMap
namespace Go.Proofs.Ytmfikihcoafekaa
open Go.RowKit
open Pt (Tx)

/-- the labels of two rows of tapes -/
theorem labels_rows {t1 t2 : List Tv} {data blank : List St.T} (hl1 : t1.length = data.length) (hl2 : t2.length = blank.length) (h1 : ∀ i (hi : i < t1.length) (hi' : i < data.length), t1[i].label = data[i].label) (h2 : ∀ i (hi : i < t2.length) (hi' : i < blank.length), t2[i].label = blank[i].label) :
    tvLabels (t1 ++ t2) = (data ++ blank).map St.T.label := by
  unfold tvLabels
  rw [List.map_append, List.map_append]
  congr 1
  · refine List.ext_getElem (by simp [hl1]) fun i h h' => ?_
    rw [List.getElem_map, List.getElem_map]
    exact h1 i (by simpa using h) (by simpa using h')
  · refine List.ext_getElem (by simp [hl2]) fun i h h' => ?_
    rw [List.getElem_map, List.getElem_map]
    exact h2 i (by simpa using h) (by simpa using h')
/-- the seal with another index, in its block -/
theorem seal_turn {w : World} {B : Nat} {n x d p : Int} {A : Option Addr} {m C : Nat} (h : w.heap[B]? = some (sealObj n x d p A m C)) (y : Int) : (w.setCell ⟨B, 1, none⟩ (.int .i64 y)).heap[B]? = some (sealObj n y d p A m C) := heap_set h (.int .i64 y)
set_option maxRecDepth 100000 in
set_option maxHeartbeats 8000000 in
theorem make_no (A1 : Option Addr) (data : List St.T) (C1 : Nat) (A2 : Option Addr) (blank : List St.T) (C2 : Nat) (G : Nat → Prop) (number : Int) (w : World) (hn1 : data.length ≤ 1000) (hn2 : blank.length ≤ 1000) (hA1 : A1 = none → data.length = 0 ∧ C1 = 0) (hA2 : A2 = none → blank.length = 0 ∧ C2 = 0)
    (hl : ∀ t ∈ data, t.blocks.length ≤ 1000000 ∧ ∀ s ∈ t.blocks, s.length ≤ 1000000) (hr1 : RdT w A1 data G) (hr2 : RdT w A2 blank G) (hno : Gr.mkE data blank number ≠ 0) :
    Calls Try.prog 6 #[.slice A1 data.length C1, .slice A2 blank.length C2, .int .i64 number] w (MakeA data blank number w) := by
  obtain ⟨t1, hl1, hrd1, hk1⟩ := hr1.rows
  obtain ⟨t2, hl2, hrd2, hk2⟩ := hr2.rows
  have hlabs := labels_rows hl1 hl2 (fun i hi hi' => (hk1 i hi hi').1) (fun i hi hi' => (hk2 i hi hi').1)
  have hsl := sealOf_any number A1 data.length C1 A2 blank.length C2 t1 t2 G w hl1.symm hl2.symm hn1 hn2 hA1 hA2 hrd1 hrd2
  rw [hlabs] at hsl
  have hcp : ∀ y, Below w.heap.size w y → Calls Try.prog 14 #[.slice A1 data.length C1, .int .i64 (blank.length : Int)] y (ParA data (blank.length : Int) y) := fun y hy =>
    parity_any A1 data C1 G (blank.length : Int) y (by omega) (by omega) (by omega) (St.len_le fun t ht => (hl t ht).1) (hr1.old hy)
  obtain ⟨ck, hck⟩ : ∃ ck, ck = Gr.chk data blank number := ⟨_, rfl⟩
  obtain ⟨er, her⟩ : ∃ er, er = Gr.mkE data blank number := ⟨_, rfl⟩
  have hcase : (ck = er ∧ (ck != 0) = true) ∨ (ck = 0 ∧ ¬ St.Ok data (blank.length : Int) ∧ er = 1) := by
    have h1 := hno
    unfold Gr.mkE at h1 her
    rw [← hck] at h1 her
    by_cases h0 : ck = 0
    · rw [if_neg (by rw [h0]; simp)] at h1 her
      refine .inr ⟨h0, fun hok => h1 ?_, ?_⟩
      · unfold St.err; rw [if_pos hok]
      · rw [her]
        unfold St.err at h1 ⊢
        split
        · rename_i hok; exact absurd (if_pos hok) h1
        · rfl
    · rw [if_pos h0] at her
      exact .inl ⟨her.symm, by simpa using h0⟩
  have HMA : Hid (∀ e w', (e = Ending.returned (.tuple #[.slice none 0 0, .int .i64 er]) ∧ Below w.heap.size w w') → MakeA data blank number w e w') := Lib.hid fun e w' h => by
    unfold MakeA; rw [if_neg hno, ← her]; exact h
  have HSL := Lib.hid hsl
  have HCP := Lib.hid hcp
  have HR1 := Lib.hid hr1
  have HR2 := Lib.hid hr2
  have HCHK : Hid (∀ (x : Sx) (y : World), Below w.heap.size w y → x.s = Gr.sealOf data blank number 0 → x.Ok y (fun _ => True) → Calls Try.prog 13 #[.slice A1 data.length C1, .slice A2 blank.length C2, .agg #[.int .i64 x.s.number, .int .i64 x.s.index, .int .i64 x.s.data, .int .i64 x.s.parity, .slice x.A x.s.labels.length x.C]] y (AnsI ck y)) := Lib.hid fun x y hy hs hx => by
    have h := check_any A1 data C1 A2 blank C2 G x y hn1 hn2 hl (hr1.old hy) (hr2.old hy) hx
    rw [hs] at h
    rw [hck, hs]; exact h
  have hsof : Gr.sealOf data blank number 0 = ⟨number, 0, (data.length : Int), (blank.length : Int), (data ++ blank).map St.T.label⟩ := rfl
  obtain ⟨n1, hn1'⟩ : ∃ n, n = data.length := ⟨_, rfl⟩
  obtain ⟨n2, hn2'⟩ : ∃ n, n = blank.length := ⟨_, rfl⟩
  rw [← hn1', ← hn2'] at HSL HCHK HCP hsof ⊢
  have HSO := Lib.hid hsof
  have HN2 := Lib.hid hn2'
  clear hr1 hr2 hsl hcp hlabs hk1 hk2 hrd1 hrd2 hl hl1 hl2 hA1 hA2 hno hck her hn1 hn2 hn1' hn2' hsof HR1 HR2
  rcases hcase with ⟨rfl, q1⟩ | ⟨rfl, hnok, rfl⟩
  · go_enter Try.func6, Try.ntmps6
    go_wp2_with fail
    refine HSL.out.mono ?_
    rintro e w1 ⟨⟨⟨sn, si, sd, sp, sl⟩, sA, sC⟩, rfl, hxs, hxo, hb1⟩
    dsimp only at hxs hxo ⊢
    obtain ⟨m, hm⟩ : ∃ m, m = sl.length := ⟨_, rfl⟩
    rw [← hm]
    obtain ⟨wa, hwa⟩ : ∃ wa, wa = w1.alloc (sealObj sn si sd sp sA m sC) := ⟨_, rfl⟩
    have hba' : Below w1.heap.size w1 wa := by rw [hwa]; exact (Below.refl _ _).alloc (Nat.le_refl _) _
    have hba := hb1.trans (hba'.mono hb1.size)
    have hSa : wa.heap[w1.heap.size]? = some (sealObj sn si sd sp sA m sC) := by rw [hwa]; exact Go.Deep.blk_alloc_new _ _
    have hcall := HCHK.out ⟨⟨sn, si, sd, sp, sl⟩, sA, sC⟩ wa hba (hxs.trans HSO.out.symm) ((hxo.old hba').mono fun _ _ => trivial)
    dsimp only at hcall
    rw [← hm] at hcall
    have HC := Lib.hid hcall
    have HBA := Lib.hid hba
    have HWA := Lib.hid hwa
    unfold sealObj at HWA
    obtain ⟨x0, x1, x2, x3, x4⟩ := seal5 hSa
    rw [HWA.out] at x0 x1 x2 x3 x4
    clear hb1 hba' hba hSa hcall hwa hxs hxo hm
    go_wp2_with fail
    rw [← HWA.out]
    refine HC.out.mono ?_
    rintro e w2 ⟨rfl, hb2⟩
    have HB2 := Lib.hid (HBA.out.trans (hb2.mono HBA.out.size))
    clear hb2 x0 x1 x2 x3 x4
    go_wp2
    go_ret2
    exact HMA.out _ _ ⟨rfl, HB2.out⟩
  · go_enter Try.func6, Try.ntmps6
    go_wp2_with fail
    refine HSL.out.mono ?_
    rintro e w1 ⟨⟨⟨sn, si, sd, sp, sl⟩, sA, sC⟩, rfl, hxs, hxo, hb1⟩
    dsimp only at hxs hxo ⊢
    obtain ⟨m, hm⟩ : ∃ m, m = sl.length := ⟨_, rfl⟩
    rw [← hm]
    obtain ⟨wa, hwa⟩ : ∃ wa, wa = w1.alloc (sealObj sn si sd sp sA m sC) := ⟨_, rfl⟩
    have hba' : Below w1.heap.size w1 wa := by rw [hwa]; exact (Below.refl _ _).alloc (Nat.le_refl _) _
    have hba := hb1.trans (hba'.mono hb1.size)
    have hSa : wa.heap[w1.heap.size]? = some (sealObj sn si sd sp sA m sC) := by rw [hwa]; exact Go.Deep.blk_alloc_new _ _
    have hcall := HCHK.out ⟨⟨sn, si, sd, sp, sl⟩, sA, sC⟩ wa hba (hxs.trans HSO.out.symm) ((hxo.old hba').mono fun _ _ => trivial)
    dsimp only at hcall
    rw [← hm] at hcall
    have HC := Lib.hid hcall
    have HBA := Lib.hid hba
    have HWA := Lib.hid hwa
    unfold sealObj at HWA
    obtain ⟨x0, x1, x2, x3, x4⟩ := seal5 hSa
    rw [HWA.out] at x0 x1 x2 x3 x4
    clear hb1 hba' hba hSa hcall hwa hxs hxo hm
    go_wp2_with fail
    rw [← HWA.out]
    refine HC.out.mono ?_
    rintro e w2 ⟨rfl, hb2⟩
    have hB2 := HBA.out.trans (hb2.mono HBA.out.size)
    have hcp := (HCP.out w2 hB2).mono (fun e w' h => by unfold ParA at h; rw [HN2.out, if_neg hnok] at h; exact h : ∀ e w', ParA data (n2 : Int) w2 e w' → e = Ending.returned (.tuple #[.slice none 0 0, .int .i64 1]) ∧ Below w2.heap.size w2 w')
    have HCP2 := Lib.hid hcp
    have HB2 := Lib.hid hB2
    clear hb2 hB2 hcp x0 x1 x2 x3 x4
    go_wp2_with fail
    refine HCP2.out.mono ?_
    rintro e w3 ⟨rfl, hb3⟩
    have HB3 := Lib.hid (HB2.out.trans (hb3.mono HB2.out.size))
    clear hb3
    go_wp2
    go_ret2
    exact HMA.out _ _ ⟨rfl, HB3.out⟩
end Go.Proofs.Ytmfikihcoafekaa
namespace Go.Proofs.Ytmfikihcoafekaa
open Go.RowKit
open Pt (Tx)

/-- what is kept while tapes are made -/
structure MkI (w0 : World) (sB gm n : Nat) (number : Int) (n1 n2 : Nat) (sA : Option Addr) (m sC : Nat) (ts : List St.T) (wr : World) : Prop where
  made : MadeI w0 gm n ts wr
  hd : ∃ xi : Int, wr.heap[sB]? = some (sealObj number xi (n1 : Int) (n2 : Int) sA m sC)
  kp : Kp (fun k => k = sB ∨ k = gm ∨ w0.heap.size ≤ k) w0 wr
  ne : sB < gm
namespace MkI
variable {w0 wr w2 : World} {sB gm n n1 n2 m sC : Nat} {number : Int} {sA : Option Addr} {ts : List St.T}
theorem old (h : MkI w0 sB gm n number n1 n2 sA m sC ts wr) (hb : Below wr.heap.size wr w2) : MkI w0 sB gm n number n1 n2 sA m sC ts w2 := by
  obtain ⟨xi, hx⟩ := h.hd
  exact ⟨h.made.old hb, ⟨xi, below_obj hb hx⟩, h.kp.trans (Kp.of_below hb), h.ne⟩
theorem turn (h : MkI w0 sB gm n number n1 n2 sA m sC ts wr) (y : Int) : MkI w0 sB gm n number n1 n2 sA m sC ts (wr.setCell ⟨sB, 1, none⟩ (.int .i64 y)) ∧ (wr.setCell ⟨sB, 1, none⟩ (.int .i64 y)).heap[sB]? = some (sealObj number y (n1 : Int) (n2 : Int) sA m sC) := by
  obtain ⟨xi, hx⟩ := h.hd
  have hs := seal_turn hx y
  have hne := h.ne
  have hlt := h.made.lt
  exact ⟨⟨h.made.kp (S := (· = sB)) (Kp.store _ _ _ _) (fun k e => by omega), ⟨y, hs⟩, h.kp.setCell (p := ⟨sB, 1, none⟩) (.inl rfl) _, h.ne⟩, hs⟩
theorem set (h : MkI w0 sB gm n number n1 n2 sA m sC ts wr) {k : Nat} (hk : k = ts.length) (hkn : k < n) {t : St.T} {A : Option Addr} {C : Nat} (hr : RdB wr A t.blocks (w0.heap.size ≤ ·)) :
    MkI w0 sB gm n number n1 n2 sA m sC (ts ++ [t]) ((((wr.setCell ⟨gm, k * 4, none⟩ (.int .i64 t.label)).setCell ⟨gm, k * 4 + 1, none⟩ (.int .i64 t.cap)).setCell ⟨gm, k * 4 + 2, none⟩ (.slice A t.blocks.length C)).setCell ⟨gm, k * 4 + 3, none⟩ (.bool t.lost)) := by
  have hkp : Kp (· = gm) wr ((((wr.setCell ⟨gm, k * 4, none⟩ (.int .i64 t.label)).setCell ⟨gm, k * 4 + 1, none⟩ (.int .i64 t.cap)).setCell ⟨gm, k * 4 + 2, none⟩ (.slice A t.blocks.length C)).setCell ⟨gm, k * 4 + 3, none⟩ (.bool t.lost)) :=
    (((Kp.store _ _ _ _).trans (Kp.store _ _ _ _)).trans (Kp.store _ _ _ _)).trans (Kp.store _ _ _ _)
  obtain ⟨xi, hx⟩ := h.hd
  have hne := h.ne
  exact ⟨h.made.set hk hkn hr, ⟨xi, (hkp.block _ (heap_lt hx) (by omega)).trans hx⟩, h.kp.trans (hkp.mono fun k e => .inr (.inl e)), h.ne⟩
end MkI
set_option maxRecDepth 100000 in
set_option maxHeartbeats 8000000 in
theorem make_yes (A1 : Option Addr) (data : List St.T) (C1 : Nat) (A2 : Option Addr) (blank : List St.T) (C2 : Nat) (G : Nat → Prop) (number : Int) (w : World) (hn1 : data.length ≤ 1000) (hn2 : blank.length ≤ 1000) (hA1 : A1 = none → data.length = 0 ∧ C1 = 0) (hA2 : A2 = none → blank.length = 0 ∧ C2 = 0)
    (hl : ∀ t ∈ data, t.blocks.length ≤ 1000000 ∧ ∀ s ∈ t.blocks, s.length ≤ 1000000) (hr1 : RdT w A1 data G) (hr2 : RdT w A2 blank G) (hyes : Gr.mkE data blank number = 0) :
    Calls Try.prog 6 #[.slice A1 data.length C1, .slice A2 blank.length C2, .int .i64 number] w (MakeA data blank number w) := by
  obtain ⟨t1, hl1, hrd1, hk1⟩ := hr1.rows
  obtain ⟨t2, hl2, hrd2, hk2⟩ := hr2.rows
  have hlabs := labels_rows hl1 hl2 (fun i hi hi' => (hk1 i hi hi').1) (fun i hi hi' => (hk2 i hi hi').1)
  have hsl := sealOf_any number A1 data.length C1 A2 blank.length C2 t1 t2 G w hl1.symm hl2.symm hn1 hn2 hA1 hA2 hrd1 hrd2
  rw [hlabs] at hsl
  have hlenle : St.len data ≤ 1000000 := St.len_le fun t ht => (hl t ht).1
  have hchk0 : Gr.chk data blank number = 0 := by
    unfold Gr.mkE at hyes
    by_cases h0 : Gr.chk data blank number = 0
    · exact h0
    · rw [if_pos h0] at hyes; exact absurd hyes h0
  have hok : St.Ok data (blank.length : Int) := by
    unfold Gr.mkE at hyes
    rw [if_neg (by rw [hchk0]; simp)] at hyes
    unfold St.err at hyes
    by_cases h : St.Ok data (blank.length : Int)
    · exact h
    · rw [if_neg h] at hyes; cases hyes
  have hsok := Gr.chk_seal hchk0
  have hfew := Gr.seal_few hsok
  have hcp : ∀ y, Below w.heap.size w y → Calls Try.prog 14 #[.slice A1 data.length C1, .int .i64 (blank.length : Int)] y fun e w' => ∃ A C, e = Ending.returned (.tuple #[.slice A blank.length C, .int .i64 0]) ∧ RdP w' A blank.length (St.len data) 79 (St.X data blank.length) (y.heap.size ≤ ·) ∧ Below y.heap.size y w' := fun y hy =>
    (parity_any A1 data C1 G (blank.length : Int) y (by omega) (by omega) (by omega) hlenle (hr1.old hy)).mono fun e w' h => by
      unfold ParA at h
      rw [if_pos hok] at h
      obtain ⟨A, C, h1, -, -, h4, h5⟩ := h
      exact ⟨A, C, h1, h4, h5⟩
  have HMA : Hid (∀ A C w', blank.length ≤ C → C ≤ maxLen → (A = none → blank.length = 0 ∧ C = 0) → RdT w' A (Gr.made data blank number) (w.heap.size ≤ ·) → Below w.heap.size w w' → MakeA data blank number w (.returned (.tuple #[.slice A blank.length C, .int .i64 0])) w') := Lib.hid fun A C w' h1 h2 h3 h4 h5 => by
    unfold MakeA; rw [if_pos hyes]; exact ⟨A, C, rfl, h1, h2, h3, h4, h5⟩
  have HSL := Lib.hid hsl
  have HCP := Lib.hid hcp
  have HR2 := Lib.hid hr2
  have HCHK : Hid (∀ (x : Sx) (y : World), Below w.heap.size w y → x.s = Gr.sealOf data blank number 0 → x.Ok y (fun _ => True) → Calls Try.prog 13 #[.slice A1 data.length C1, .slice A2 blank.length C2, .agg #[.int .i64 x.s.number, .int .i64 x.s.index, .int .i64 x.s.data, .int .i64 x.s.parity, .slice x.A x.s.labels.length x.C]] y (AnsI 0 y)) := Lib.hid fun x y hy hs hx => by
    have h := check_any A1 data C1 A2 blank C2 G x y hn1 hn2 hl (hr1.old hy) (hr2.old hy) hx
    rw [hs] at h
    have h0 : checkE (decide (Rc.SOk (Gr.sealOf data blank number 0))) (data.any lostB) (blank.any lostB) (decide (St.len data = 0)) (data.all goodB) (blank.any hasB) (blank.any (smallB (St.len data))) = 0 := hchk0
    rw [h0] at h
    rw [hs]; exact h
  have HLABEL : Hid (∀ i (hi : i < blank.length), 1 ≤ blank[i].label ∧ blank[i].label ≤ 2147483647) := Lib.hid fun i hi => Gr.seal_labels hsok (List.mem_append_right _ (List.getElem_mem hi))
  obtain ⟨labs, hlabs2⟩ : ∃ l, l = (data ++ blank).map St.T.label := ⟨_, rfl⟩
  have hsof : ∀ i : Nat, Gr.sealOf data blank number i = ⟨number, (i : Int), (data.length : Int), (blank.length : Int), labs⟩ := fun i => by rw [hlabs2]; rfl
  rw [← hlabs2] at HSL
  obtain ⟨n1, hn1'⟩ : ∃ n, n = data.length := ⟨_, rfl⟩
  obtain ⟨n2, hn2'⟩ : ∃ n, n = blank.length := ⟨_, rfl⟩
  have HMT : Hid (∀ i (hi : i < blank.length), (Gr.made data blank number).take (i + 1) = (Gr.made data blank number).take i ++ [⟨blank[i].label, blank[i].cap, framedL blank[i].label (says (Gr.rowsOf data n2 i) ⟨number, ((n1 + i : Nat) : Int), (n1 : Int), (n2 : Int), labs⟩), false⟩]) := Lib.hid fun i hi => by
    rw [made_take hi]
    unfold Gr.madeT
    rw [hsof, hn1', hn2']
  have HML : Hid ((Gr.made data blank number).length = n2) := Lib.hid (by rw [Gr.made_len, hn2'])
  rw [← hn1', ← hn2'] at HSL HCHK HCP hsof ⊢
  rw [← hn2'] at HMA
  obtain ⟨hf1, hf2, hf3⟩ : 1 ≤ n1 ∧ 1 ≤ n2 ∧ n1 + n2 ≤ 14 := by rw [hn1', hn2']; exact hfew
  have HSO := Lib.hid hsof
  have HN2 := Lib.hid hn2'
  obtain ⟨len, hlen⟩ : ∃ len, len = St.len data := ⟨_, rfl⟩
  have HLEN := Lib.hid hlen
  have hlen1 : len ≤ 1000000 := by rw [hlen]; exact hlenle
  obtain ⟨cs, hcs⟩ : ∃ cs : Array Value, cs = madeCells (Value.agg #[.int .i64 0, .int .i64 0, .slice none 0 0, .bool false]).cells (n2 * 4) := ⟨_, rfl⟩
  have hcsz : cs.size = n2 * 4 := by rw [hcs, size_madeCells]
  have hmk : ∀ y : World, (Instr.makeSlice 29 (.int .i64 (n2 : Int)) (.int .i64 (n2 : Int))).run Try.prog y = .ok (.slice (some ⟨y.heap.size, 0, none⟩) n2 n2) (y.alloc (.cells cs 32)) := fun y => by
    obtain ⟨i0, hi, hz0, hz1, hz2⟩ := info_parts infoTape
    have h := run_make (P := Try.prog) y 29 32 i0 _ Try.underlying29 hi hz0 .i64 .i64 (n2 : Int) (n2 : Int) (by omega) (Int.le_refl _) (by rw [hz2]; omega) (by omega)
    rw [hz1, Int.toNat_natCast] at h
    rw [hcs]; exact h
  clear hr1 hr2 hsl hcp hlabs hk1 hk2 hrd1 hrd2 hl hl1 hl2 hA1 hA2 hyes hn1 hn2 hn1' hn2' hsof hchk0 hok hsok hfew hlabs2 hlenle hlen hcs
  go_enter Try.func6, Try.ntmps6
  go_wp2_with fail
  refine HSL.out.mono ?_
  rintro e w1 ⟨⟨⟨sn, si, sd, sp, sl⟩, sA, sC⟩, rfl, hxs, hxo, hb1⟩
  cases hxs
  dsimp only at hxo ⊢
  obtain ⟨m, hm⟩ : ∃ m, m = labs.length := ⟨_, rfl⟩
  rw [← hm]
  obtain ⟨wa, hwa⟩ : ∃ wa, wa = w1.alloc (sealObj number 0 (n1 : Int) (n2 : Int) sA m sC) := ⟨_, rfl⟩
  have hba' : Below w1.heap.size w1 wa := by rw [hwa]; exact (Below.refl _ _).alloc (Nat.le_refl _) _
  have hba := hb1.trans (hba'.mono hb1.size)
  have hSa : wa.heap[w1.heap.size]? = some (sealObj number 0 (n1 : Int) (n2 : Int) sA m sC) := by rw [hwa]; exact Go.Deep.blk_alloc_new _ _
  have hcall := HCHK.out ⟨⟨number, 0, (n1 : Int), (n2 : Int), labs⟩, sA, sC⟩ wa hba (HSO.out 0).symm ((hxo.old hba').mono fun _ _ => trivial)
  dsimp only at hcall
  rw [← hm] at hcall
  obtain ⟨sB, hsB⟩ : ∃ sB, sB = w1.heap.size := ⟨_, rfl⟩
  have HXO : Hid (Sx.Ok ⟨⟨number, 0, (n1 : Int), (n2 : Int), labs⟩, sA, sC⟩ wa (· < sB)) := Lib.hid ((hxo.in_.old hba').mono fun x hx => by rw [hsB]; exact hx.2)
  have HC := Lib.hid hcall
  have HBA := Lib.hid hba
  have HSA := Lib.hid (by rw [hsB]; exact hSa : wa.heap[sB]? = some (sealObj number 0 (n1 : Int) (n2 : Int) sA m sC))
  have HWA := Lib.hid hwa
  unfold sealObj at HWA
  have HM := Lib.hid hm
  have HSB0 := Lib.hid hsB
  have HLOW : Hid (w.heap.size ≤ sB) := Lib.hid (by rw [hsB]; exact hb1.size)
  obtain ⟨x0, x1, x2, x3, x4⟩ := seal5 hSa
  rw [HWA.out] at x0 x1 x2 x3 x4
  clear hb1 hba' hba hSa hcall hwa hxo hm hsB
  go_wp2_with fail
  rw [← HWA.out, ← HSB0.out]
  refine HC.out.mono ?_
  rintro e w2 ⟨rfl, hb2⟩
  have hB2 := HBA.out.trans (hb2.mono HBA.out.size)
  have HCP2 := Lib.hid (HCP.out w2 hB2)
  have HB2 := Lib.hid hB2
  have HS2 := Lib.hid (below_obj hb2 HSA.out)
  have HXO2 := Lib.hid (HXO.out.old hb2)
  clear hb2 hB2 x0 x1 x2 x3 x4
  go_wp2_with fail
  refine HCP2.out.mono ?_
  rintro e w3 ⟨Ap, Cp, rfl, hpar, hb3⟩
  obtain ⟨w0, hw0⟩ : ∃ w0, w0 = w3.alloc (.cells cs 32) := ⟨_, rfl⟩
  have hb0' : Below w3.heap.size w3 w0 := by rw [hw0]; exact (Below.refl _ _).alloc (Nat.le_refl _) _
  have hb0 := hb3.trans (hb0'.mono hb3.size)
  have hBW := HB2.out.trans (hb0.mono HB2.out.size)
  obtain ⟨gm, hgm⟩ : ∃ gm, gm = w3.heap.size := ⟨_, rfl⟩
  have hsz0 : w0.heap.size = gm + 1 := by rw [hw0, hgm]; simp
  have hs2lt := heap_lt HS2.out
  have hgm2 : w2.heap.size ≤ gm := by rw [hgm]; exact hb3.size
  have HG1 : Hid (∀ b, b < sB ∨ (w2.heap.size ≤ b ∧ b < gm) → ¬ (b = sB ∨ b = gm ∨ w0.heap.size ≤ b)) := Lib.hid fun b hb => by omega
  have HPAR : Hid (RdP w0 Ap n2 (St.len data) 79 (St.X data n2) (fun b => ¬ (b = sB ∨ b = gm ∨ w0.heap.size ≤ b))) := Lib.hid (by
    have h1 := RdP.in_' hpar
    rw [← hgm] at h1
    exact (h1.old hb0').mono fun b hb => HG1.out b (.inr hb))
  have HRB : Hid (RdT w0 A2 blank (fun b => ¬ (b = sB ∨ b = gm ∨ w0.heap.size ≤ b))) := Lib.hid ((HR2.out.in_.old hBW).mono fun b hb => HG1.out b (.inl (Nat.lt_of_lt_of_le hb.2 HLOW.out)))
  have HXO0 : Hid (Sx.Ok ⟨⟨number, 0, (n1 : Int), (n2 : Int), labs⟩, sA, sC⟩ w0 (fun b => ¬ (b = sB ∨ b = gm ∨ w0.heap.size ≤ b))) := Lib.hid ((HXO2.out.old hb0).mono fun b hb => HG1.out b (.inl hb))
  have HI0 : Hid (MkI w0 sB gm n2 number n1 n2 sA m sC ((Gr.made data blank number).take 0) w0) := Lib.hid ⟨by rw [hgm]; exact MadeI.start hw0 (by rw [hcsz]; exact Nat.le_refl _), ⟨0, below_obj hb0 HS2.out⟩, Kp.refl _ _, by omega⟩
  have HBW := Lib.hid hBW
  have HW0 := Lib.hid hw0
  have HGM := Lib.hid hgm
  have HLO2 : Hid (w.heap.size ≤ gm ∧ gm < w0.heap.size) := Lib.hid ⟨by have := HB2.out.size; omega, by omega⟩
  clear hpar hb3 hb0' hb0 hBW hw0 hgm hsz0 hs2lt hgm2
  go_wp2
  rw [← HW0.out, ← HGM.out]
  clear hmk
  go_loopw [43] (fun vi wr => ∃ i : Nat, i ≤ n2 ∧ vi = .int .i64 (i : Int) ∧ Hid (MkI w0 sB gm n2 number n1 n2 sA m sC ((Gr.made data blank number).take i) wr)) (fun vi _ => n2 - (intOf vi).toNat)
  case atStart => exact ⟨0, Nat.zero_le _, rfl, HI0⟩
  case round =>
    obtain ⟨i, hi, rfl, HI⟩ := hrel
    by_cases hlt : i < n2
    · have e0 : decide (i < n2) = true := decide_eq_true hlt
      have hltb : i < blank.length := by rw [← HN2.out]; exact hlt
      obtain ⟨b, off, A', C', rfl, -, c0, c1, c2, c3, -⟩ := (HRB.out.kp HI.out.kp (fun b h => h)).at_ hltb
      have hpar : RdP wr Ap n2 (St.len data) 79 (St.X data n2) (fun b => ¬ (b = sB ∨ b = gm ∨ w0.heap.size ≤ b)) := HPAR.out.keep fun _ _ hg hc => HI.out.kp.cell hc hg
      obtain ⟨pb, po, Aj, Cj, rfl, pc, hrow⟩ := rdP_row hpar hlt
      rw [← HLEN.out] at pc
      have hrl : (Gr.rowsOf data n2 i).length = len := by rw [Gr.rowsOf_len, HLEN.out]
      have hr79 : ∀ b ∈ Gr.rowsOf data n2 i, b.length ≤ 79 := fun b hb => by rw [Gr.rowsOf_79 hb]; exact Nat.le_refl _
      obtain ⟨rows, hrows⟩ : ∃ rows, rows = Gr.rowsOf data n2 i := ⟨_, rfl⟩
      have hmt := HMT.out i hltb
      have hlab := HLABEL.out i hltb
      rw [← hrows] at hrow hrl hr79 hmt
      obtain ⟨⟨lab, cap, bs, lost⟩, ht⟩ : ∃ t, t = blank[i] := ⟨_, rfl⟩
      rw [← ht] at c0 c1 c2 c3 hmt hlab
      dsimp only at c0 c1 c2 c3 hmt hlab
      have hxo := HXO0.out.kp HI.out.kp (fun b h => h)
      obtain ⟨wa, hwa⟩ : ∃ wa, wa = wr.alloc (tapeObj lab cap A' bs.length C' lost) := ⟨_, rfl⟩
      have hba : Below wr.heap.size wr wa := by rw [hwa]; exact (Below.refl _ _).alloc (Nat.le_refl _) _
      have hTa : wa.heap[wr.heap.size]? = some (tapeObj lab cap A' bs.length C' lost) := by rw [hwa]; exact Go.Deep.blk_alloc_new _ _
      obtain ⟨wb, hwb⟩ : ∃ wb, wb = wa.setCell ⟨sB, 1, none⟩ (.int .i64 ((n1 : Int) + (i : Int))) := ⟨_, rfl⟩
      have hsBlt : sB < wr.heap.size := by obtain ⟨xi, hx⟩ := HI.out.hd; exact heap_lt hx
      obtain ⟨hIB, hSb⟩ := (HI.out.old hba).turn ((n1 : Int) + (i : Int))
      rw [← hwb] at hIB hSb
      have hkb : Kp (· = sB) wa wb := by rw [hwb]; exact Kp.store _ _ _ _
      have hTb : wb.heap[wr.heap.size]? = some (tapeObj lab cap A' bs.length C' lost) := (hkb.block _ (heap_lt hTa) (by omega)).trans hTa
      have hxob : Sx.Ok ⟨⟨number, 0, (n1 : Int), (n2 : Int), labs⟩, sA, sC⟩ wb (fun _ => True) := ((hxo.old hba).kp hkb (fun b hb e => hb (.inl e))).mono fun _ _ => trivial
      have hrowb : RdW wb Aj rows (fun _ => True) := by
        intro h0
        obtain ⟨b1, o1, e1, g1, r1⟩ := (hrow.old hba) h0
        refine ⟨b1, o1, e1, trivial, fun k hk => ?_⟩
        obtain ⟨A9, C9, k1, k2, k3⟩ := r1 k hk
        exact ⟨A9, C9, hkb.cell k1 (fun e => g1 (.inl e)), k2, (k3.kp hkb (fun b hb e => hb (.inl e))).mono fun _ _ => trivial⟩
      have hpb : pb ≠ sB := fun e => by
        obtain ⟨b9, o9, A9, C9, e9, g9, -⟩ := hpar.at_ hlt
        cases e9
        exact g9 (.inl e)
      have pcb : wb.cell? ⟨pb, po + i, none⟩ = some (.slice Aj len Cj) := hkb.cell ((hba.cell (World.block_lt_of_cell? _ _ pc)).trans pc) hpb
      have HUN : Hid (∀ y, Below wb.heap.size wb y → Calls Try.prog 16 #[.slice Aj len Cj, .agg #[.int .i64 number, .int .i64 ((n1 : Int) + (i : Int)), .int .i64 (n1 : Int), .int .i64 (n2 : Int), .slice sA m sC]] y (UnitsG (says rows ⟨number, (n1 : Int) + (i : Int), (n1 : Int), (n2 : Int), labs⟩) y)) := Lib.hid fun y hy => by
        have h := units_any Aj rows len Cj (fun _ => True) ⟨⟨number, (n1 : Int) + (i : Int), (n1 : Int), (n2 : Int), labs⟩, sA, sC⟩ y hrl.symm hlen1 (hrowb.old hy) ⟨hxob.le, hxob.max, hxob.nil, hxob.rd.old hy⟩
        dsimp only at h
        rwa [← HM.out] at h
      obtain ⟨sy, hsy⟩ : ∃ sy, sy = says rows ⟨number, (n1 : Int) + (i : Int), (n1 : Int), (n2 : Int), labs⟩ := ⟨_, rfl⟩
      have hsyl : sy.length = len + 2 := by rw [hsy]; simp [says, hrl]
      have HFR : Hid (∀ (y0 y : World) v us, us.map Ux.pair = sy → UnitI y0 v us y → ∃ A C, v = .slice A us.length C ∧ Calls Try.prog 15 #[.int .i64 lab, .slice A us.length C] y (BlocksG (framedL lab sy) y)) := Lib.hid fun y0 y v us hus hui => by
        obtain ⟨A, C, hv, -, -, -, hrd⟩ := hui.own.rd
        refine ⟨A, C, hv, ?_⟩
        have hul : us.length = len + 2 := by rw [← hsyl, ← hus, List.length_map]
        have h := framed_ok lab A us us.length C _ y rfl (by omega) hrd (fun u hu => (hui.ok u hu).mono fun _ _ => trivial) (fun k hk => by
          have h1 : (us.map Ux.pair)[k]? = some (Ux.pair us[k]) := by rw [List.getElem?_map, List.getElem?_eq_getElem hk]; rfl
          rw [hus, hsy] at h1
          exact says_ok hlab hr79 (by rw [hrl]; exact hlen1) k _ h1)
        rwa [hus] at h
      rw [show (((n1 + i : Nat)) : Int) = (n1 : Int) + (i : Int) by omega, ← hsy] at hmt
      rw [← hsy] at HUN
      obtain ⟨fb, hfb⟩ : ∃ fb, fb = framedL lab sy := ⟨_, rfl⟩
      rw [← hfb] at HFR hmt
      have HMT2 := Lib.hid hmt
      obtain ⟨L, hL⟩ : ∃ L, L = bs.length := ⟨_, rfl⟩
      rw [← hL] at c2 hwa hTa hTb
      have HTB := Lib.hid hTb
      have HIB := Lib.hid hIB
      have HIL : Hid (i = ((Gr.made data blank number).take i).length) := Lib.hid (by rw [List.length_take, HML.out]; omega)
      have s1 : IntKind.i64.wrap ((n1 : Int) + (i : Int)) = (n1 : Int) + (i : Int) := IntWalk.i64_in _ (by omega)
      obtain ⟨xi, hSa⟩ := (HI.out.old hba).hd
      have f1 : wa.cell? ⟨sB, 1, none⟩ = some (.int .i64 xi) := (seal5 hSa).2.1
      have f2 : wa.frozen? ⟨sB, 1, none⟩ = false := heap_frozen hSa
      have HWA := Lib.hid hwa
      unfold tapeObj at HWA
      have HWB := Lib.hid hwb
      rw [HWA.out] at f1 f2 HWB
      have HS : Hid (∀ y, Below wb.heap.size wb y → y.cell? ⟨wr.heap.size, 0, none⟩ = some (.int .i64 lab) ∧ y.cell? ⟨pb, po + i, none⟩ = some (.slice Aj len Cj) ∧ y.cell? ⟨sB, 0, none⟩ = some (.int .i64 number) ∧ y.cell? ⟨sB, 1, none⟩ = some (.int .i64 ((n1 : Int) + (i : Int))) ∧ y.cell? ⟨sB, 2, none⟩ = some (.int .i64 (n1 : Int)) ∧ y.cell? ⟨sB, 3, none⟩ = some (.int .i64 (n2 : Int)) ∧ y.cell? ⟨sB, 4, none⟩ = some (.slice sA m sC)) := Lib.hid fun y hy => by
        obtain ⟨q0, q1, q2, q3, q4⟩ := seal5 (below_obj hy hSb)
        exact ⟨(tape4 (below_tape hy hTb)).1, (hy.cell (World.block_lt_of_cell? _ _ pcb)).trans pcb, q0, q1, q2, q3, q4⟩
      have hbd : Below wb.heap.size wb wb.drew := (Below.refl _ _).drew
      have hx0 := HS.out _ hbd
      have HBD := Lib.hid hbd
      have hlo0 : w0.heap.size ≤ wr.heap.size := HI.out.kp.size
      have hlo1 : wr.heap.size ≤ wb.heap.size := Nat.le_trans hba.size hkb.size
      clear hpar pc hrl hr79 hrow hrows hlab hmt ht hxo hba hTa hIB hSb hkb hTb hxob hrowb hpb pcb hsy hsyl hfb hL hwa hwb hSa hsBlt
      go_wp2
      rw [← HWB.out]
      go_region_held3 (fun y => y.cell? ⟨wr.heap.size, 0, none⟩ = some (.int .i64 lab) ∧ y.cell? ⟨pb, po + i, none⟩ = some (.slice Aj len Cj) ∧ y.cell? ⟨sB, 0, none⟩ = some (.int .i64 number) ∧ y.cell? ⟨sB, 1, none⟩ = some (.int .i64 ((n1 : Int) + (i : Int))) ∧ y.cell? ⟨sB, 2, none⟩ = some (.int .i64 (n1 : Int)) ∧ y.cell? ⟨sB, 3, none⟩ = some (.int .i64 (n2 : Int)) ∧ y.cell? ⟨sB, 4, none⟩ = some (.slice sA m sC))
        (first
          | exact hx9
          | exact hx2
          | exact hx0)
        (first
          | (go_at_call 16; refine (HUN.out _ HBD.out).mono ?_; rintro e y1 ⟨v1, us1, rfl, hus1, hui1⟩; obtain ⟨Av, Cv, rfl, hfr⟩ := HFR.out _ y1 v1 us1 hus1 hui1; have hby := HBD.out.trans (hui1.bel.mono HBD.out.size); have hx2 := HS.out y1 hby)
          | (go_at_call 15; refine hfr.mono ?_; rintro e y2 ⟨Ab, Cb, rfl, hcb, hcm, hab, hrb, hb2⟩; have hby2 := hby.trans (hb2.mono hby.size); have hx9 := HS.out y2 hby2))
      have HY2 := Lib.hid hby2
      have HRB2 : Hid (RdB y2 Ab fb (w0.heap.size ≤ ·)) := Lib.hid (hrb.mono fun x hx => by
        have h1 : y1.heap.size ≤ x := hx
        have h2 := hby.size
        omega)
      have HI2 := Lib.hid (HIB.out.old hby2)
      obtain ⟨t0, t1', -, -⟩ := tape4 (below_tape hby2 HTB.out)
      obtain ⟨⟨v0, g0⟩, ⟨v1', g1⟩, ⟨v2', g2⟩, ⟨v3', g3⟩, gf⟩ := HI2.out.made.four hlt
      have p0 := gf (i * 4)
      have p1 := gf (i * 4 + 1)
      have p2 := gf (i * 4 + 2)
      have p3 := gf (i * 4 + 3)
      obtain ⟨K, hK⟩ : ∃ K, K = fb.length := ⟨_, rfl⟩
      have hset := HI2.out.set HIL.out hlt (t := ⟨lab, cap, fb, false⟩) (A := Ab) (C := Cb) HRB2.out
      rw [← HMT2.out] at hset
      dsimp only at hset
      rw [← hK] at hset ⊢
      have HSET := Lib.hid hset
      clear hx0 hx2 hx9 hby hby2 hb2 hrb hcb hcm hab hfr hui1 hus1 gf hset hK hbd
      go_wp2
      go_roundw
      case rel => exact ⟨i + 1, by omega, by go_num, HSET⟩
      case measure => simp [intOf]; omega
    · have e0 : decide (i < n2) = false := decide_eq_false hlt
      have hI := HI.out
      rw [List.take_of_length_le (by rw [HML.out]; omega)] at hI
      have HIE := Lib.hid hI
      clear hI
      go_wp2
      go_ret2
      exact HMA.out _ _ _ (Nat.le_refl _) (by unfold maxLen; omega) (fun e => by cases e) (HIE.out.made.rdT HLO2.out.1) (HBW.out.trans (HIE.out.kp.below HBW.out.size fun k hk => by have := HLO2.out; have := HLOW.out; omega))
end Go.Proofs.Ytmfikihcoafekaa
namespace Go.Proofs.Ytmfikihcoafekaa
open Go.RowKit
open Pt (Tx)

theorem lit_rd (w : World) (l : Tx) {c : Array Value} (hc : c = (cellsL l).toArray) : RdL (w.alloc (.cells c 5)) (some ⟨w.heap.size, 0, none⟩) l (· = w.heap.size) := by
  subst hc
  exact RdL.of_cells (Go.Deep.blk_alloc_new _ _) fun j hj => by rw [Nat.zero_add]; simpa using cellsL_get hj
theorem Turned.refl (g base : Nat) (w : World) : Turned g base w w := Kp.refl _ w
theorem vbyte_any (g base : Nat) (v : Value) (l : Tx) (c : UInt8) (w : World) (h : Rw w g base v l) (hbase : base ≤ w.heap.size) (hl : l.length ≤ 999999990) :
    Calls Try.prog 9 #[.pointer (some ⟨g, 0, none⟩), .int .u8 (c.toNat : Int)] w (RefWrote g base (l ++ [c]) w) := by
  have hlt := h.lt
  obtain ⟨A, C, hv, -, -, -, -⟩ := h.2.rd
  have c0 : w.cell? ⟨g, 0, none⟩ = some v := heap_cell h.1
  have f0 : w.frozen? ⟨g, 0, none⟩ = false := heap_frozen h.1
  have H := Lib.hid h
  clear h
  subst hv
  go_enter Try.func9, Try.ntmps9
  go_wp2_with (at_builtin; refine wpList_append_bl _ rfl _ _ rfl base _ l rfl (H.out.2.alloc _) (some ⟨w.heap.size, 0, none⟩) 1 1 [c] (· = w.heap.size) rfl rfl (fun h => by cases h) (lit_rd w [c] rfl) (by omega) (by simp; omega) ?_; intro v' w' hv hg; obtain ⟨hA, hB, hC⟩ := H.out.stored ((Turned.refl g base w).alloc _) (Below.heap_alloc _ _ _ hlt) (H.out.2.alloc _) hg hv; obtain ⟨A', C', rfl, -, -, -, -⟩ := hv.rd; have d0 : w'.cell? ⟨g, 0, none⟩ = some (.slice A l.length C) := heap_cell (hA.trans H.out.1); have d1 : w'.frozen? ⟨g, 0, none⟩ = false := heap_frozen (hA.trans H.out.1); have HB := Lib.hid hB; have HC := Lib.hid hC; clear hA hB hC hv hg)
  go_end0
  have hb := HB.out
  have hc := HC.out
  rw [List.length_append] at hb hc
  exact ⟨rfl, ⟨_, hb⟩, hc⟩
theorem mask_u64 (y : Int) (h0 : 0 ≤ y) (h1 : y < 18446744073709551616) : bits BinOp.and IntKind.u64 y 255 = y % 256 := by
  have h : bits BinOp.and IntKind.u64 y (2 ^ 8 - 1) = y % 2 ^ 8 := bits_mask .u64 64 (by decide) (fun m h0 h1 => by rw [IntKind.wrap_u64]; omega) 8 (by decide) y h0 h1
  simpa using h
theorem vint_any (g base : Nat) (v : Value) (l : Tx) (n : Int) (w : World) (h : Rw w g base v l) (hbase : base ≤ w.heap.size) (hl : l.length ≤ 999999990) :
    Calls Try.prog 10 #[.pointer (some ⟨g, 0, none⟩), .int .i64 n] w (RefWrote g base (l ++ Cd.be4 n) w) := by
  have hlt := h.lt
  obtain ⟨A, C, hv, -, -, -, -⟩ := h.2.rd
  have c0 : w.cell? ⟨g, 0, none⟩ = some v := heap_cell h.1
  have f0 : w.frozen? ⟨g, 0, none⟩ = false := heap_frozen h.1
  have H := Lib.hid h
  clear h
  subst hv
  have hw := IntKind.wrap_u64 n
  have m0 : bits BinOp.and IntKind.u64 (IntKind.u64.wrap n / 16777216) 255 = n / 16777216 % 256 := by rw [mask_u64 _ (by omega) (by omega), hw]; omega
  have m1 : bits BinOp.and IntKind.u64 (IntKind.u64.wrap n / 65536) 255 = n / 65536 % 256 := by rw [mask_u64 _ (by omega) (by omega), hw]; omega
  have m2 : bits BinOp.and IntKind.u64 (IntKind.u64.wrap n / 256) 255 = n / 256 % 256 := by rw [mask_u64 _ (by omega) (by omega), hw]; omega
  have m3 : bits BinOp.and IntKind.u64 (IntKind.u64.wrap n) 255 = n % 256 := by rw [mask_u64 _ (by omega) (by omega), hw]; omega
  clear hw
  go_enter Try.func10, Try.ntmps10
  go_wp2_with (at_builtin; refine wpList_append_bl _ rfl _ _ rfl base _ l rfl (H.out.2.alloc _) (some ⟨w.heap.size, 0, none⟩) 4 4 (Cd.be4 n) (· = w.heap.size) rfl rfl (fun h => by cases h) (lit_rd w (Cd.be4 n) (by simp [cellsL, Cd.be4, Cd.b8_nat])) (by omega) (by simp; omega) ?_; intro v' w' hv hg; obtain ⟨hA, hB, hC⟩ := H.out.stored ((Turned.refl g base w).alloc _) (Below.heap_alloc _ _ _ hlt) (H.out.2.alloc _) hg hv; obtain ⟨A', C', rfl, -, -, -, -⟩ := hv.rd; have d0 : w'.cell? ⟨g, 0, none⟩ = some (.slice A l.length C) := heap_cell (hA.trans H.out.1); have d1 : w'.frozen? ⟨g, 0, none⟩ = false := heap_frozen (hA.trans H.out.1); have HB := Lib.hid hB; have HC := Lib.hid hC; clear hA hB hC hv hg)
  go_end0
  have hb := HB.out
  have hc := HC.out
  rw [List.length_append] at hb hc
  exact ⟨rfl, ⟨_, hb⟩, hc⟩
end Go.Proofs.Ytmfikihcoafekaa
namespace Go.Proofs.Ytmfikihcoafekaa
open Go.RowKit
open Pt (Tx)

theorem Turned.other {g base B : Nat} {a b : World} {cs : Array Value} {t : TypeId} (h : Turned g base a b) (hB : B ≠ g) (ht : t ≠ 5) (hu : a.heap[B]? = some (.cells cs t (0, 0))) : b.heap[B]? = some (.cells cs t (0, 0)) := by
  refine (h.block B (heap_lt hu) ?_).trans hu
  rintro (h' | ⟨_, c, h'⟩)
  · exact hB h'
  · rw [hu] at h'
    injection h' with h'
    injection h' with _ e
    exact ht e
/-- a Writer of the document's own at work: what it holds, and what lies beside it -/
structure RefAt (w : World) (gr : Nat) (o : Obj) (l : Tx) (x : World) : Prop where
  rw_ : ∃ v, Rw x gr gr v l
  hd : x.heap[w.heap.size]? = some o
  bel : Below w.heap.size w x
  lo : w.heap.size < gr
theorem RefAt.wrote {w : World} {gr : Nat} {l l' : Tx} {x y : World} {e : Ending} {cs : Array Value} {t : TypeId} (ht : t ≠ 5) (h : RefAt w gr (.cells cs t (0, 0)) l x) (hw : RefWrote gr gr l' x e y) : RefAt w gr (.cells cs t (0, 0)) l' y := by
  obtain ⟨_, h2, h3⟩ := hw
  have := h.lo
  exact ⟨h2, h3.other (by omega) ht h.hd, h.bel.trans (Turned.below h3 h.bel.size (by omega) (by omega)), h.lo⟩
theorem RefAt.base {w : World} {gr : Nat} {o : Obj} {l : Tx} {x : World} (h : RefAt w gr o l x) : gr ≤ x.heap.size := by
  obtain ⟨v, hv⟩ := h.rw_
  exact Nat.le_of_lt hv.lt
theorem RefAt.done {w : World} {gr : Nat} {o : Obj} {l l' : Tx} {x : World} (h : RefAt w gr o l x) (hl : l = l') : ∃ A C, x.cell? ⟨gr, 0, none⟩ = some (.slice A l.length C) ∧ AnsT l' w (.returned (.slice A l.length C)) x := by
  subst hl
  obtain ⟨v, hv⟩ := h.rw_
  obtain ⟨A, C, rfl, g1, g2, g3, g4⟩ := hv.2.rd
  have := h.lo
  exact ⟨A, C, heap_cell hv.1, A, l.length, C, rfl, rfl, g1, g2, g3, g4.mono (fun x hx => by omega), h.bel⟩
theorem vbyte_int (g base : Nat) (v : Value) (l : Tx) (n : Int) (w : World) (h : Rw w g base v l) (hbase : base ≤ w.heap.size) (hl : l.length ≤ 999999990) :
    Calls Try.prog 9 #[.pointer (some ⟨g, 0, none⟩), .int .u8 (n % 256)] w (RefWrote g base (l ++ [Cd.b8 n]) w) := by
  rw [← Cd.b8_nat]; exact vbyte_any g base v l (Cd.b8 n) w h hbase hl
end Go.Proofs.Ytmfikihcoafekaa
