/- What Tape of package mend answers, where what is there of each row is of one Encode. What Block and Tape of package mend answer of the tapes that the laws of chapter 15 lay, whatever some of them have lost. -/
import Derived.Test.YtcokmmanajdioaaGreatMbg
import Derived.Test.YtcokmmanajdioaaGreatMbb
namespace Go.Proofs.YtcokmmanajdioaaGreat
open Go.RowKit Mx
open Pt (Tx)

theorem RdW.kp {w w' : World} {A : Option Addr} {bs : List Tx} {G S : Nat → Prop} (h : RdW w A bs G) (hk : Kp S w w') (hs : ∀ b, G b → ¬ S b) : RdW w' A bs G := fun hn => by
  obtain ⟨b, off, e, hg, hc⟩ := h hn
  refine ⟨b, off, e, hg, fun i hi => ?_⟩
  obtain ⟨A', C', h1, h2, h3⟩ := hc i hi
  exact ⟨A', C', (hk.cell h1 (hs _ hg)), h2, h3.kp hk hs⟩
theorem RdW.mono {w : World} {A : Option Addr} {bs : List Tx} {G G' : Nat → Prop} (h : RdW w A bs G) (hg : ∀ b, G b → G' b) : RdW w A bs G' := fun hn => by
  obtain ⟨b, off, e, h0, hc⟩ := h hn
  refine ⟨b, off, e, hg _ h0, fun i hi => ?_⟩
  obtain ⟨A', C', h1, h2, h3⟩ := hc i hi
  exact ⟨A', C', h1, h2, h3.mono hg⟩
/-- rows of bytes lie in no block of a zero tape -/
theorem RdW.ne {w : World} {A : Option Addr} {bs : List Tx} {G : Nat → Prop} {q : Nat} (h : RdW w A bs G) (h79 : ∀ s ∈ bs, s.length = 79) (hq : w.heap[q]? = some (tapeObj 0 0 none 0 0 false)) : RdW w A bs (fun b => b ≠ q) := fun hn => by
  obtain ⟨b, off, e, hg, hc⟩ := h hn
  refine ⟨b, off, e, fun hb => ?_, fun i hi => ?_⟩
  · obtain ⟨A', C', h1, _, _⟩ := hc 0 hn
    rw [hb, heap_cell hq, h79 _ (List.getElem_mem hn)] at h1
    generalize off + 0 = j at h1
    match j, h1 with
    | 0, h1 => cases h1
    | 1, h1 => cases h1
    | 2, h1 => cases h1
    | 3, h1 => cases h1
    | j + 4, h1 => simp at h1
  · obtain ⟨A', C', h1, h2, h3⟩ := hc i hi
    refine ⟨A', C', h1, h2, fun hn' => ?_⟩
    obtain ⟨b', off', e', _, hc'⟩ := h3 hn'
    refine ⟨b', off', e', fun hb => ?_, hc'⟩
    have h4 := hc' 0 hn'
    rw [hb, heap_cell hq] at h4
    generalize off' + 0 = j at h4
    match j, h4 with
    | 0, h4 => cases h4
    | 1, h4 => cases h4
    | 2, h4 => cases h4
    | 3, h4 => cases h4
    | j + 4, h4 => simp at h4
theorem Me.rows_le {ms : List St.T} {m R : Nat} (hl : ∀ t ∈ ms, t.blocks.length ≤ m) (h : Me.rows ms = some R) : R ≤ m := by
  induction ms with
  | nil => cases h
  | cons t l ih =>
    rw [Me.rows] at h
    split at h
    · split at h
      · cases h
      · have := hl t (List.mem_cons_self ..)
        injection h with h
        omega
    · exact ih (fun u hu => hl u (List.mem_cons_of_mem _ hu)) h
/-- the zero tape and an error -/
def NoTape (er : Int) (w : World) (e : Ending) (w' : World) : Prop := e = .returned (.tuple #[.agg #[.int .i64 0, .int .i64 0, .slice none 0 0, .bool false], .int .i64 er]) ∧ Below w.heap.size w w'
/-- the member as it should be, or why none -/
def TapeQ (ts : List St.T) (labs : List Int) (d p : Nat) (lab : Int) (Dn : Nat → Mat) (w : World) (e : Ending) (w' : World) : Prop :=
  (lab ∉ labs.take d ∧ NoTape 1 w e w') ∨
  (lab ∈ labs.take d ∧ Me.rows ((Me.members ts labs).drop d) = none ∧ NoTape 10 w e w') ∨
  ∃ R k, Me.rows ((Me.members ts labs).drop d) = some R ∧ k < d ∧ labs[k]? = some lab ∧
    ((0 < R ∧ Me.there_ (Me.members ts labs) d p 0 < d ∧ NoTape 10 w e w') ∨
     ((∀ n, n < R → d ≤ Me.there_ (Me.members ts labs) d p n) ∧ ∃ g cap, (ts.any (fun t => decide (t.label = lab)) = true → cap = (Me.first ts lab).cap) ∧ e = .returned (.tuple #[.agg #[.int .i64 lab, .int .i64 cap, .slice (some ⟨g, 0, none⟩) (Me.end_ (fun n => lst (Dn n k) 79) R) R, .bool false], .int .i64 0]) ∧
       RdW w' (some ⟨g, 0, none⟩) ((List.range (Me.end_ (fun n => lst (Dn n k) 79) R)).map fun n => lst (Dn n k) 79) (fun _ => True) ∧ Below w.heap.size w w'))
set_option maxRecDepth 100000 in
set_option maxHeartbeats 4000000 in
theorem tape_any (A : Option Addr) (ts : List St.T) (n C : Nat) (num idx : Int) (d p : Nat) (labs : List Int) (sA : Option Addr) (m sC : Nat) (lab : Int) (Dn : Nat → Mat) (G G2 : Nat → Prop) (w : World) (hnl : n = ts.length) (hn : n ≤ 1000000) (hr : RdT w A ts G) (hl : ∀ t ∈ ts, t.blocks.length ≤ 1000000 ∧ ∀ s ∈ t.blocks, s.length ≤ 1000000)
    (hok : Rc.SOk ⟨num, idx, (d : Int), (p : Int), labs⟩) (hm : m = labs.length) (hC : m ≤ sC) (hCm : sC ≤ maxLen) (hz : RdZ w sA labs G2)
    (hD : ∀ R, Me.rows ((Me.members ts labs).drop d) = some R → ∀ no, no < R → ∀ j, j < d + p → 0 < (Me.have_ (Me.members ts labs) d no j).length → ∀ c, c < 79 → rowL (Me.have_ (Me.members ts labs) d no j) c = encD d p (Dn no) j c)
    (hmix : ∀ R, Me.rows ((Me.members ts labs).drop d) = some R → (∀ no, no < R → d ≤ Me.there_ (Me.members ts labs) d p no) ∨ (0 < R ∧ Me.there_ (Me.members ts labs) d p 0 < d)) :
    Calls Tryz.prog 7 #[.slice A n C, .agg #[.int .i64 num, .int .i64 idx, .int .i64 (d : Int), .int .i64 (p : Int), .slice sA m sC], .int .i64 lab] w (TapeQ ts labs d p lab Dn w) := by
  obtain ⟨w0, hw0⟩ : ∃ x, x = w.alloc (sealObj num idx (d : Int) (p : Int) sA m sC) := ⟨_, rfl⟩
  obtain ⟨w1, hw1⟩ : ∃ w1, w1 = w0.alloc (tapeObj 0 0 none 0 0 false) := ⟨_, rfl⟩
  have hs0 : w0.heap.size = w.heap.size + 1 := by rw [hw0]; simp
  have b0 : Below w.heap.size w w0 := by rw [hw0]; exact (Below.refl _ _).alloc (Nat.le_refl _) _
  have b01 : Below w0.heap.size w0 w1 := by rw [hw1]; exact (Below.refl _ _).alloc (Nat.le_refl _) _
  have b1 : Below w.heap.size w w1 := b0.trans (b01.mono b0.size)
  have k1 : w1.heap[w.heap.size]? = some (sealObj num idx (d : Int) (p : Int) sA m sC) := below_obj b01 (by rw [hw0]; exact Go.Deep.blk_alloc_new _ _)
  have k2 : w1.heap[w.heap.size + 1]? = some (tapeObj 0 0 none 0 0 false) := by rw [hw1, ← hs0]; exact Go.Deep.blk_alloc_new _ _
  have HQ := Lib.hid (queryOf_any A ts n C num idx d p labs sA m sC lab G G2 w1 hnl hn (hr.old b1) hl hok hm hC hCm (hz.old b1))
  have hmd : labs.length = d + p := by
    have h5 : (labs.length : Int) = (d : Int) + (p : Int) := hok.1.2.2.2.2.1
    omega
  have hd1 : 1 ≤ d := by have h2 : (1 : Int) ≤ (d : Int) := hok.1.2.1; omega
  have h14 : d + p ≤ 14 := by have h2 : (d : Int) + (p : Int) ≤ 14 := hok.1.2.2.2.1; omega
  have HBA : Hid (∀ (R k gm : Nat) y, Me.rows ((Me.members ts labs).drop d) = some R → k < d → RdT y (some ⟨gm, 0, none⟩) (Me.members ts labs) (fun _ => True) → (∀ no, no < R → d ≤ Me.there_ (Me.members ts labs) d p no) → Calls Tryz.prog 15 #[.agg #[.slice (some ⟨gm, 0, none⟩) labs.length labs.length, .int .i64 (d : Int), .int .i64 (R : Int), .int .i64 (k : Int)]] y (BlocksQ (fun n => lst (Dn n k) 79) (Me.end_ (fun n => lst (Dn n k) 79) R) R y)) := Lib.hid fun R k gm y hR hk hy hall =>
    blocks_all (some ⟨gm, 0, none⟩) (Me.members ts labs) labs.length labs.length d p k R Dn _ y (by rw [Me.members_len]) hmd hd1 hk (by omega) (Me.rows_le (fun t ht => (Me.members_sizes hl t (List.mem_of_mem_drop ht)).1) hR) (Me.members_sizes hl) hy (hD R hR) hall
  have HBF : Hid (∀ (R k gm : Nat) y, Me.rows ((Me.members ts labs).drop d) = some R → k < d → RdT y (some ⟨gm, 0, none⟩) (Me.members ts labs) (fun _ => True) → 0 < R → Me.there_ (Me.members ts labs) d p 0 < d → Calls Tryz.prog 15 #[.agg #[.slice (some ⟨gm, 0, none⟩) labs.length labs.length, .int .i64 (d : Int), .int .i64 (R : Int), .int .i64 (k : Int)]] y (fun e w' => e = .returned (.tuple #[.slice none 0 0, .int .i64 10]) ∧ Below y.heap.size y w')) := Lib.hid fun R k gm y hR hk hy h0 hfew =>
    blocks_few (some ⟨gm, 0, none⟩) (Me.members ts labs) labs.length labs.length d p k R Dn _ y (by rw [Me.members_len]) hmd hd1 hk (by omega) (Me.rows_le (fun t ht => (Me.members_sizes hl t (List.mem_of_mem_drop ht)).1) hR) (Me.members_sizes hl) hy (hD R hR) h0 hfew
  have HFI : Hid (∀ y, Below w.heap.size w y → Calls Tryz.prog 16 #[.slice A n C, .int .i64 lab] y (FirstA G ts lab y)) := Lib.hid fun y hy => first_any A ts n C G lab y hnl hn (hr.old hy)
  have HMIX := Lib.hid hmix
  have HB1 := Lib.hid b1
  have HW1 : Hid (w1 = (w.alloc (.cells #[.int .i64 num, .int .i64 idx, .int .i64 (d : Int), .int .i64 (p : Int), .slice sA m sC] 26)).alloc (.cells #[.int .i64 0, .int .i64 0, .slice none 0 0, .bool false] 31)) := Lib.hid (by rw [hw1, hw0]; rfl)
  have HK2 := Lib.hid k2
  obtain ⟨x0, x1, x2, x3, x4⟩ := seal5 k1
  rw [HW1.out] at x0 x1 x2 x3 x4
  clear hw0 hw1 hs0 b0 b01 b1 k1 k2 hnl hr hl hok hm hC hCm hz hmd hD hmix
  go_enter Tryz.func7, Tryz.ntmps7
  go_wp2_with fail
  rw [← HW1.out]
  refine HQ.out.mono ?_
  intro e w2 hh
  obtain ⟨hb2, hh⟩ := hh
  have HB2 := Lib.hid (HB1.out.trans (hb2.mono HB1.out.size))
  have HK22 := Lib.hid (below_obj hb2 HK2.out)
  clear hb2 x0 x1 x2 x3 x4
  rcases hh with ⟨hno, rfl⟩ | ⟨hin, hrn, rfl⟩ | ⟨R, k, gm, hrs, hkd, hkl, rfl, hrt⟩
  · have HN := Lib.hid hno
    clear hno
    obtain ⟨w3, hw3⟩ : ∃ x, x = w2.alloc (queryObj (.slice none 0 0) (.int .i64 0) (.int .i64 0) (.int .i64 0)) := ⟨_, rfl⟩
    have b3 : Below w2.heap.size w2 w3 := by rw [hw3]; exact (Below.refl _ _).alloc (Nat.le_refl _) _
    have hT3 := below_obj b3 HK22.out
    have HB3 := Lib.hid (HB2.out.trans (b3.mono HB2.out.size))
    obtain ⟨y0, y1, y2, y3⟩ := tape4 hT3
    have f3 : ∀ j, w3.frozen? ⟨w.heap.size + 1, j, none⟩ = false := fun j => heap_frozen hT3
    have HT3 := Lib.hid hT3
    have HW3 := Lib.hid hw3
    unfold queryObj at HW3
    rw [HW3.out] at y0 y1 y2 y3 f3
    clear hw3 b3 hT3
    go_wp2
    rw [← HW3.out]
    obtain ⟨z0, z1, z2, z3⟩ := tape4 (four_set HT3.out 0 0 none 0 0 false)
    exact bodyPost_ret (v := .tuple #[.agg #[.int .i64 0, .int .i64 0, .slice none 0 0, .bool false], .int .i64 1]) (by simp [results, Tryz.results7, go_sem, z0, z1, z2, z3]) rfl (.inl ⟨HN.out, rfl, HB3.out.trans ((four_kp w3 (w.heap.size + 1) _ _ _ _).below HB3.out.size fun k hk => by omega)⟩)
  · have HN := Lib.hid (And.intro hin hrn)
    clear hin hrn
    obtain ⟨w3, hw3⟩ : ∃ x, x = w2.alloc (queryObj (.slice none 0 0) (.int .i64 0) (.int .i64 0) (.int .i64 0)) := ⟨_, rfl⟩
    have b3 : Below w2.heap.size w2 w3 := by rw [hw3]; exact (Below.refl _ _).alloc (Nat.le_refl _) _
    have hT3 := below_obj b3 HK22.out
    have HB3 := Lib.hid (HB2.out.trans (b3.mono HB2.out.size))
    obtain ⟨y0, y1, y2, y3⟩ := tape4 hT3
    have f3 : ∀ j, w3.frozen? ⟨w.heap.size + 1, j, none⟩ = false := fun j => heap_frozen hT3
    have HT3 := Lib.hid hT3
    have HW3 := Lib.hid hw3
    unfold queryObj at HW3
    rw [HW3.out] at y0 y1 y2 y3 f3
    clear hw3 b3 hT3
    go_wp2
    rw [← HW3.out]
    obtain ⟨z0, z1, z2, z3⟩ := tape4 (four_set HT3.out 0 0 none 0 0 false)
    exact bodyPost_ret (v := .tuple #[.agg #[.int .i64 0, .int .i64 0, .slice none 0 0, .bool false], .int .i64 10]) (by simp [results, Tryz.results7, go_sem, z0, z1, z2, z3]) rfl (.inr (.inl ⟨HN.out.1, HN.out.2, rfl, HB3.out.trans ((four_kp w3 (w.heap.size + 1) _ _ _ _).below HB3.out.size fun k hk => by omega)⟩))
  · obtain ⟨w3, hw3⟩ : ∃ x, x = w2.alloc (queryObj (.slice (some ⟨gm, 0, none⟩) labs.length labs.length) (.int .i64 (d : Int)) (.int .i64 (R : Int)) (.int .i64 (k : Int))) := ⟨_, rfl⟩
    have b3 : Below w2.heap.size w2 w3 := by rw [hw3]; exact (Below.refl _ _).alloc (Nat.le_refl _) _
    have k3 : w3.heap[w2.heap.size]? = some (queryObj (.slice (some ⟨gm, 0, none⟩) labs.length labs.length) (.int .i64 (d : Int)) (.int .i64 (R : Int)) (.int .i64 (k : Int))) := by rw [hw3]; exact Go.Deep.blk_alloc_new _ _
    have hT3 := below_obj b3 HK22.out
    have HB3 := Lib.hid (HB2.out.trans (b3.mono HB2.out.size))
    have hmx := HMIX.out R hrs
    have HRT3 := hrt.old b3
    have HN := Lib.hid (And.intro hrs (And.intro hkd hkl))
    obtain ⟨L, hL⟩ : ∃ L, L = labs.length := ⟨_, rfl⟩
    have hBA := HBA.out R k gm w3 hrs hkd HRT3
    have hBF := HBF.out R k gm w3 hrs hkd HRT3
    rw [← hL] at hBA hBF k3 hw3 ⊢
    obtain ⟨y0, y1, y2, y3⟩ := query4 k3
    obtain ⟨u0, u1, u2, u3⟩ := tape4 hT3
    have HT3 := Lib.hid hT3
    have HK3 := Lib.hid k3
    have HW3 := Lib.hid hw3
    unfold queryObj at HW3
    rw [HW3.out] at y0 y1 y2 y3 u0 u1 u2 u3
    have HLT : Hid (w.heap.size + 1 < w2.heap.size) := Lib.hid (heap_lt HK22.out)
    clear hrs hkl hrt b3 k3 hT3 HRT3 hw3 hL
    rcases hmx with hall | ⟨h0R, hfew⟩
    · have HC := Lib.hid (hBA hall)
      have HALL := Lib.hid hall
      clear hBA hBF hall
      obtain ⟨en, hen⟩ : ∃ en, en = Me.end_ (fun n => lst (Dn n k) 79) R := ⟨_, rfl⟩
      rw [← hen] at HC
      have HEN := Lib.hid hen
      clear hen
      go_wp2_with fail
      rw [← HW3.out]
      refine HC.out.mono ?_
      rintro e w4 ⟨hb4, g, rfl, hrw⟩
      have HB4 := Lib.hid (HB3.out.trans (hb4.mono HB3.out.size))
      have HK4 := Lib.hid (below_obj hb4 HK3.out)
      have HT4 := Lib.hid (below_obj hb4 HT3.out)
      have HRW := Lib.hid (hrw.ne (fun s hs => by obtain ⟨_, _, rfl⟩ := List.mem_map.1 hs; exact lst_len _ _) HT4.out)
      clear hb4 hrw y0 y1 y2 y3 u0 u1 u2 u3
      have HFC := Lib.hid (HFI.out w4 HB4.out)
      go_wp2_with fail
      refine HFC.out.mono ?_
      rintro e w5 ⟨A5, C5, rfl, -, hb5⟩
      obtain ⟨t, ht⟩ : ∃ t, t = Me.first ts lab := ⟨_, rfl⟩
      obtain ⟨th, hth⟩ : ∃ th, th = ts.any (fun t => decide (t.label = lab)) := ⟨_, rfl⟩
      rw [← ht, ← hth]
      have HTH := Lib.hid hth
      have HTT := Lib.hid ht
      obtain ⟨w6, hw6⟩ : ∃ x, x = w5.alloc (tapeObj t.label t.cap A5 t.blocks.length C5 t.lost) := ⟨_, rfl⟩
      have b6 : Below w5.heap.size w5 w6 := by rw [hw6]; exact (Below.refl _ _).alloc (Nat.le_refl _) _
      have b56 : Below w4.heap.size w4 w6 := hb5.trans (b6.mono hb5.size)
      have HB6 := Lib.hid (HB4.out.trans (b56.mono HB4.out.size))
      have HK6 := Lib.hid (below_obj b56 HK4.out)
      have HT6 := Lib.hid (below_obj b56 HT4.out)
      have HX6 : Hid (w6.heap[w5.heap.size]? = some (tapeObj t.label t.cap A5 t.blocks.length C5 t.lost)) := Lib.hid (by rw [hw6]; exact Go.Deep.blk_alloc_new _ _)
      have HRW6 := Lib.hid (HRW.out.old b56)
      have HLT5 : Hid (w.heap.size + 1 < w5.heap.size) := Lib.hid (Nat.lt_of_lt_of_le (heap_lt HT4.out) hb5.size)
      obtain ⟨y0, y1, y2, y3⟩ := query4 HK6.out
      obtain ⟨u0, u1, u2, u3⟩ := tape4 HT6.out
      obtain ⟨v0, v1, v2, v3⟩ := tape4 HX6.out
      have f6 : ∀ j, w6.frozen? ⟨w.heap.size + 1, j, none⟩ = false := fun j => heap_frozen HT6.out
      have g6 : ∀ j, w6.frozen? ⟨w5.heap.size, j, none⟩ = false := fun j => heap_frozen HX6.out
      have HW6 := Lib.hid hw6
      unfold tapeObj at HW6
      rw [HW6.out] at y0 y1 y2 y3 u0 u1 u2 u3 v0 v1 v2 v3 f6 g6
      clear ht hth hw6 b6 b56
      cases th with
      | true =>
        go_wp2
        rw [← HW6.out]
        obtain ⟨z0, z1, z2, z3⟩ := tape4 (four_set HT6.out lab t.cap (some ⟨g, 0, none⟩) en R false)
        refine bodyPost_ret (v := .tuple #[.agg #[.int .i64 lab, .int .i64 t.cap, .slice (some ⟨g, 0, none⟩) en R, .bool false], .int .i64 0]) (by simp [results, Tryz.results7, go_sem, z0, z1, z2, z3]) rfl (.inr (.inr ⟨R, k, HN.out.1, HN.out.2.1, HN.out.2.2, .inr ⟨HALL.out, g, t.cap, fun _ => by rw [HTT.out], by rw [← HEN.out], ?_, HB6.out.trans ((four_kp w6 (w.heap.size + 1) _ _ _ _).below HB6.out.size fun k hk => by omega)⟩⟩))
        rw [← HEN.out]
        exact (HRW6.out.kp (four_kp w6 (w.heap.size + 1) _ _ _ _) (fun b hb e => hb e)).mono fun _ _ => trivial
      | false =>
        obtain ⟨w7, hw7⟩ : ∃ x, x = w5.alloc (tapeObj t.label (R : Int) A5 t.blocks.length C5 t.lost) := ⟨_, rfl⟩
        have b7 : Below w5.heap.size w5 w7 := by rw [hw7]; exact (Below.refl _ _).alloc (Nat.le_refl _) _
        have b57 := hb5.trans (b7.mono hb5.size)
        have HB7 := Lib.hid (HB4.out.trans (b57.mono HB4.out.size))
        have HT7 := Lib.hid (below_obj b57 HT4.out)
        have HRW7 := Lib.hid (HRW.out.old b57)
        obtain ⟨p0, p1, p2, p3⟩ := tape4 HT7.out
        have f7 : ∀ j, w7.frozen? ⟨w.heap.size + 1, j, none⟩ = false := fun j => heap_frozen HT7.out
        have HW7 := Lib.hid hw7
        unfold tapeObj at HW7
        rw [HW7.out] at p0 p1 p2 p3 f7
        clear hw7 b7 b57
        go_wp2
        rw [← HW7.out]
        obtain ⟨z0, z1, z2, z3⟩ := tape4 (four_set HT7.out lab (R : Int) (some ⟨g, 0, none⟩) en R false)
        refine bodyPost_ret (v := .tuple #[.agg #[.int .i64 lab, .int .i64 (R : Int), .slice (some ⟨g, 0, none⟩) en R, .bool false], .int .i64 0]) (by simp [results, Tryz.results7, go_sem, z0, z1, z2, z3]) rfl (.inr (.inr ⟨R, k, HN.out.1, HN.out.2.1, HN.out.2.2, .inr ⟨HALL.out, g, (R : Int), (fun h => (by rw [← HTH.out] at h; cases h)), by rw [← HEN.out], ?_, HB7.out.trans ((four_kp w7 (w.heap.size + 1) _ _ _ _).below HB7.out.size fun k hk => by omega)⟩⟩))
        rw [← HEN.out]
        exact (HRW7.out.kp (four_kp w7 (w.heap.size + 1) _ _ _ _) (fun b hb e => hb e)).mono fun _ _ => trivial
    · have HC := Lib.hid (hBF h0R hfew)
      have HFW := Lib.hid (And.intro h0R hfew)
      clear hBA hBF h0R hfew
      go_wp2_with fail
      rw [← HW3.out]
      refine HC.out.mono ?_
      rintro e w4 ⟨rfl, hb4⟩
      have HB4 := Lib.hid (HB3.out.trans (hb4.mono HB3.out.size))
      have HT4 := Lib.hid (below_obj hb4 HT3.out)
      obtain ⟨v0, v1, v2, v3⟩ := tape4 HT4.out
      have f4 : ∀ j, w4.frozen? ⟨w.heap.size + 1, j, none⟩ = false := fun j => heap_frozen HT4.out
      clear hb4 y0 y1 y2 y3 u0 u1 u2 u3
      go_wp2
      obtain ⟨z0, z1, z2, z3⟩ := tape4 (four_set HT4.out 0 0 none 0 0 false)
      exact bodyPost_ret (v := .tuple #[.agg #[.int .i64 0, .int .i64 0, .slice none 0 0, .bool false], .int .i64 10]) (by simp [results, Tryz.results7, go_sem, z0, z1, z2, z3]) rfl (.inr (.inr ⟨R, k, HN.out.1, HN.out.2.1, HN.out.2.2, .inl ⟨HFW.out.1, HFW.out.2, rfl, HB4.out.trans ((four_kp w4 (w.heap.size + 1) _ _ _ _).below HB4.out.size fun k hk => by omega)⟩⟩))
end Go.Proofs.YtcokmmanajdioaaGreat
namespace Go.Proofs.YtcokmmanajdioaaGreat
open Go.RowKit Mx
open Pt (Tx)

namespace Ld
/-- the group that is laid -/
noncomputable def all (z : Nat → Int) (d p : Nat) : List St.T := Me.whole (data z d) (bl p) 3
theorem all_len (z : Nat → Int) (d p : Nat) : (all z d p).length = d + p := by unfold all; rw [Me.whole_len, data_len, bl_len]
/-- the labels of the seal -/
noncomputable def labsOf (z : Nat → Int) (d p : Nat) : List Int := (data z d ++ bl p).map St.T.label
theorem labsOf_len (z : Nat → Int) (d p : Nat) : (labsOf z d p).length = d + p := by unfold labsOf; rw [List.length_map, List.length_append, data_len, bl_len]
theorem labs_take (z : Nat → Int) (d p : Nat) : (labsOf z d p).take d = (List.range d).map fun (i : Nat) => (i : Int) + 1 := by
  unfold labsOf
  rw [labels, List.take_left' (by simp)]
theorem labs_in {z : Nat → Int} {d p : Nat} {lab : Int} : lab ∈ (labsOf z d p).take d ↔ 1 ≤ lab ∧ lab ≤ (d : Int) := by
  rw [labs_take, List.mem_map]
  constructor
  · rintro ⟨i, hi, rfl⟩
    have := List.mem_range.1 hi
    omega
  · intro h
    exact ⟨(lab - 1).toNat, List.mem_range.2 (by omega), by omega⟩
theorem labs_at {z : Nat → Int} {d p k : Nat} {lab : Int} (hk : k < d) (h : (labsOf z d p)[k]? = some lab) : lab = (k : Int) + 1 := by
  have h2 : ((labsOf z d p).take d)[k]? = some lab := by rw [List.getElem?_take, if_pos hk]; exact h
  rw [labs_take] at h2
  simp [hk] at h2
  exact h2.symm
theorem nodup {z : Nat → Int} {d p : Nat} (hd : d ≤ 6) (hp : p ≤ 4) : (labsOf z d p).Nodup := (labs hd hp).2
theorem seal0 {z : Nat → Int} {d p : Nat} (hd1 : 1 ≤ d) (hd : d ≤ 6) (hp1 : 1 ≤ p) (hp : p ≤ 4) : Rc.SOk (Gr.sealOf (data z d) (bl p) 3 0) := sealOk hd1 hd hp1 hp
theorem seal_d {z : Nat → Int} {d p : Nat} (hd1 : 1 ≤ d) (hd : d ≤ 6) (hp1 : 1 ≤ p) (hp : p ≤ 4) : Rc.SOk ⟨3, (d : Int), (d : Int), (p : Int), labsOf z d p⟩ := by
  have h := Gr.sealOk_index (i := d) (seal0 (z := z) hd1 hd hp1 hp) (by rw [data_len, bl_len]; omega)
  unfold Gr.sealOf at h
  rw [data_len, bl_len] at h
  exact h
/-- how long they are -/
def Short (t : St.T) : Prop := t.blocks.length ≤ 1000000 ∧ ∀ s ∈ t.blocks, s.length ≤ 1000000
theorem all_short {z : Nat → Int} {d p : Nat} (hd : d ≤ 6) : ∀ t ∈ all z d p, Short t := by
  intro t ht
  unfold all Me.whole at ht
  rcases List.mem_append.1 ht with h | h
  · obtain ⟨i, hi, rfl⟩ := List.mem_map.1 h
    have h1 := (num_le z i).2
    have h2 := List.mem_range.1 hi
    refine ⟨by simp [T]; omega, fun s hs => ?_⟩
    obtain ⟨k, hk, rfl⟩ := List.mem_map.1 hs
    have h3 := List.mem_range.1 hk
    rw [b_len (by omega) (by omega)]; omega
  · have h1 := made_short (blank := bl p) (number := 3) (Nat.le_trans (len_le (z := z) (d := d)) (by omega)) t h
    exact ⟨h1.1, fun s hs => Nat.le_trans (h1.2 s hs) (by omega)⟩
theorem gone_short {t : St.T} (h : Short t) : Short (Me.gone t) := h
theorem hurtN_short {f : St.T → St.T} {a i : Nat} {ts : List St.T} (hf : ∀ t, Short t → Short (f t)) (h : ∀ t ∈ ts, Short t) : ∀ t ∈ Me.hurtN f a i ts, Short t := by
  intro t ht
  obtain ⟨j, hj, rfl⟩ := List.mem_iff_getElem.1 ht
  have hj' : j < ts.length := by rwa [Me.hurtN_len] at hj
  have e := Me.hurtN_at f a i ts hj'
  rw [List.getElem?_eq_getElem hj] at e
  rw [Option.some.inj e]
  split
  · exact hf _ (h _ (List.getElem_mem hj'))
  · exact h _ (List.getElem_mem hj')
end Ld
section
variable {z : Nat → Int} {d p : Nat} {ts : List St.T}
/-- the error of Block -/
def LdBlock (z : Nat → Int) (d p : Nat) (ts : List St.T) (lab : Int) (no : Nat) (w : World) (e : Ending) (w' : World) : Prop :=
  Below w.heap.size w w' ∧
    ((¬ (1 ≤ lab ∧ lab ≤ (d : Int)) ∧ ∃ A m C, e = .returned (.tuple #[.slice A m C, .int .i64 1])) ∨
     ((1 ≤ lab ∧ lab ≤ (d : Int)) ∧ (Me.rows (ts.drop d) = none ∨ Me.there_ ts d p no < d) ∧ ∃ A m C, e = .returned (.tuple #[.slice A m C, .int .i64 10])) ∨
     ((1 ≤ lab ∧ lab ≤ (d : Int)) ∧ Me.rows (ts.drop d) = some (St.len (Ld.data z d)) ∧ d ≤ Me.there_ ts d p no ∧ ∃ A C, e = .returned (.tuple #[.slice A 79 C, .int .i64 0]) ∧ RdL w' A (lst (St.mat (St.row (Ld.data z d) (no : Int)) (lab - 1).toNat) 79) (fun _ => True)))
theorem ldBlockG (hd1 : 1 ≤ d) (hd : d ≤ 6) (hp1 : 1 ≤ p) (hp : p ≤ 4) (hs : Me.Subs ts (Ld.all z d p)) (hsh : ∀ t ∈ ts, Ld.Short t) {y : World} {g cap n m : Nat} {x : Sx} {G G2 : Nat → Prop} (hrd0 : RdT y (some ⟨g, 0, none⟩) ts G) (hsx : x.Ok y G2) (hx : x.s = Gr.sealOf (Ld.data z d) (Ld.bl p) 3 d) (lab : Int) {no : Nat} (hno : no < St.len (Ld.data z d)) (hn : n = d + p) (hm : m = d + p) :
    Calls Tryz.prog 10 #[.slice (some ⟨g, 0, none⟩) n cap, .agg #[.int .i64 3, .int .i64 (d : Int), .int .i64 (d : Int), .int .i64 (p : Int), .slice x.A m x.C], .int .i64 lab, .int .i64 (no : Int)] y (LdBlock z d p ts lab no y) := by
  have hlen : ts.length = d + p := by rw [hs.1, Ld.all_len]
  have hmem : Me.members ts (Ld.labsOf z d p) = ts := Me.subs_members (data := Ld.data z d) (bl := Ld.bl p) (number := 3) hs (Ld.nodup hd hp)
  have hlb : x.s.labels = Ld.labsOf z d p := by rw [hx]; rfl
  have hln := Ld.len_le (z := z) (d := d)
  have hcode : ∀ j, j < d + p → 0 < (Me.have_ ts d no j).length → ∀ c, c < 79 → rowL (Me.have_ ts d no j) c = encD d p (St.mat (St.row (Ld.data z d) (no : Int))) j c := fun j hj h0 c hc => by
    have e := Me.subs_code (data := Ld.data z d) (bl := Ld.bl p) (number := 3) (ts := ts) (Ld.data_fine hd) (Ld.seal0 hd1 hd hp1 hp) (by omega) hs hno (j := j) (by rw [Ld.data_len, Ld.bl_len]; exact hj)
    rw [Ld.data_len, Ld.bl_len] at e
    exact e h0 hc
  have hrows : ∀ R, Me.rows (ts.drop d) = some R → R = St.len (Ld.data z d) := fun R hR => by
    by_cases hex : ∃ t ∈ ts.drop d, (Gr.sealed t).isSome = true
    · have h := Me.subs_rows (data := Ld.data z d) (bl := Ld.bl p) (number := 3) (ts := ts) hs
      rw [Ld.data_len] at h
      rw [h hex] at hR
      exact (Option.some.inj hR).symm
    · rw [Me.rows_not fun t ht => by
        cases e : Gr.sealed t with
        | none => rfl
        | some q => exact absurd ⟨t, ht, by rw [e]; rfl⟩ hex] at hR
      cases hR
  have h := block_any (some ⟨g, 0, none⟩) ts n cap 3 (d : Int) d p (Ld.labsOf z d p) x.A m x.C lab no (St.mat (St.row (Ld.data z d) (no : Int))) _ _ y (by rw [hlen, hn]) (by omega) hrd0 hsh (Ld.seal_d hd1 hd hp1 hp) (by rw [Ld.labsOf_len, hm])
    (by have := hsx.le; rw [hlb, Ld.labsOf_len] at this; omega) hsx.max (by rw [← hlb]; exact hsx.rd) (by omega) (by
      rw [hmem]
      intro R _ _
      exact hcode)
  refine h.mono ?_
  intro e w' hh
  unfold BlockQ at hh
  rw [hmem] at hh
  rcases hh with ⟨hl, he, hb⟩ | ⟨hl, hr, he, hb⟩ | ⟨R, k, hR, hkd, hkl, hh⟩
  · exact ⟨hb, .inl ⟨fun h => hl (Ld.labs_in.2 h), _, _, _, he⟩⟩
  · exact ⟨hb, .inr (.inl ⟨Ld.labs_in.1 hl, .inl hr, _, _, _, he⟩)⟩
  · have hRl := hrows R hR
    have hlab := Ld.labs_at hkd hkl
    have hin : 1 ≤ lab ∧ lab ≤ (d : Int) := by omega
    rcases hh with ⟨hn, -⟩ | ⟨-, hb, hh⟩
    · omega
    · rcases hh with ⟨ht, he⟩ | ⟨ht, A, C, he, hrd⟩
      · exact ⟨hb, .inr (.inl ⟨hin, .inr ht, _, _, _, he⟩)⟩
      · refine ⟨hb, .inr (.inr ⟨hin, by rw [hR, hRl], ht, A, C, he, ?_⟩)⟩
        rw [show (lab - 1).toNat = k by omega]
        exact hrd
theorem ldBlock (hd1 : 1 ≤ d) (hd : d ≤ 6) (hp1 : 1 ≤ p) (hp : p ≤ 4) (hs : Me.Subs ts (Ld.all z d p)) (hsh : ∀ t ∈ ts, Ld.Short t) {w1 y : World} {g cap M M2 n m : Nat} {x : Sx} (hk : LdK w1 g cap M M2 x ts y) (hx : x.s = Gr.sealOf (Ld.data z d) (Ld.bl p) 3 d) (lab : Int) {no : Nat} (hno : no < St.len (Ld.data z d)) (hn : n = d + p) (hm : m = d + p) :
    Calls Tryz.prog 10 #[.slice (some ⟨g, 0, none⟩) n cap, .agg #[.int .i64 3, .int .i64 (d : Int), .int .i64 (d : Int), .int .i64 (p : Int), .slice x.A m x.C], .int .i64 lab, .int .i64 (no : Int)] y (LdBlock z d p ts lab no y) :=
  ldBlockG hd1 hd hp1 hp hs hsh hk.rd hk.sx hx lab hno hn hm
/-- the answer of Tape -/
def LdTape (z : Nat → Int) (d p : Nat) (ts : List St.T) (lab : Int) (w : World) (e : Ending) (w' : World) : Prop :=
  Below w.heap.size w w' ∧
    ((Me.rows (ts.drop d) = none ∨ Me.there_ ts d p 0 < d) ∧ (∃ a b A m C l, e = .returned (.tuple #[.agg #[.int .i64 a, .int .i64 b, .slice A m C, .bool l], .int .i64 10])) ∨
     (Me.rows (ts.drop d) = some (St.len (Ld.data z d)) ∧ (∀ n, n < St.len (Ld.data z d) → d ≤ Me.there_ ts d p n) ∧ ∃ g cap, (ts.any (fun t => decide (t.label = lab)) = true → cap = (Me.first ts lab).cap) ∧ e = .returned (.tuple #[.agg #[.int .i64 lab, .int .i64 cap, .slice (some ⟨g, 0, none⟩) (Me.end_ (fun (n : Nat) => lst (St.mat (St.row (Ld.data z d) (n : Int)) (lab - 1).toNat) 79) (St.len (Ld.data z d))) (St.len (Ld.data z d)), .bool false], .int .i64 0]) ∧
       RdW w' (some ⟨g, 0, none⟩) ((List.range (Me.end_ (fun (n : Nat) => lst (St.mat (St.row (Ld.data z d) (n : Int)) (lab - 1).toNat) 79) (St.len (Ld.data z d)))).map fun (n : Nat) => lst (St.mat (St.row (Ld.data z d) (n : Int)) (lab - 1).toNat) 79) (fun _ => True)))
theorem ldTapeG (hd1 : 1 ≤ d) (hd : d ≤ 6) (hp1 : 1 ≤ p) (hp : p ≤ 4) (hs : Me.Subs ts (Ld.all z d p)) (hsh : ∀ t ∈ ts, Ld.Short t) {y : World} {g cap n m : Nat} {x : Sx} {G G2 : Nat → Prop} (hrd0 : RdT y (some ⟨g, 0, none⟩) ts G) (hsx : x.Ok y G2) (hx : x.s = Gr.sealOf (Ld.data z d) (Ld.bl p) 3 d) (lab : Int) (hlab : 1 ≤ lab ∧ lab ≤ (d : Int)) (hn : n = d + p) (hm : m = d + p)
    (hmix : Me.rows (ts.drop d) = none ∨ (∀ n, n < St.len (Ld.data z d) → d ≤ Me.there_ ts d p n) ∨ Me.there_ ts d p 0 < d) :
    Calls Tryz.prog 7 #[.slice (some ⟨g, 0, none⟩) n cap, .agg #[.int .i64 3, .int .i64 (d : Int), .int .i64 (d : Int), .int .i64 (p : Int), .slice x.A m x.C], .int .i64 lab] y (LdTape z d p ts lab y) := by
  have hlen : ts.length = d + p := by rw [hs.1, Ld.all_len]
  have hmem : Me.members ts (Ld.labsOf z d p) = ts := Me.subs_members (data := Ld.data z d) (bl := Ld.bl p) (number := 3) hs (Ld.nodup hd hp)
  have hlb : x.s.labels = Ld.labsOf z d p := by rw [hx]; rfl
  have hln := Ld.len_le (z := z) (d := d)
  have hpos := Ld.len_pos (z := z) hd1
  have hrows : ∀ R, Me.rows (ts.drop d) = some R → R = St.len (Ld.data z d) := fun R hR => by
    by_cases hex : ∃ t ∈ ts.drop d, (Gr.sealed t).isSome = true
    · have h := Me.subs_rows (data := Ld.data z d) (bl := Ld.bl p) (number := 3) (ts := ts) hs
      rw [Ld.data_len] at h
      rw [h hex] at hR
      exact (Option.some.inj hR).symm
    · rw [Me.rows_not fun t ht => by
        cases e : Gr.sealed t with
        | none => rfl
        | some q => exact absurd ⟨t, ht, by rw [e]; rfl⟩ hex] at hR
      cases hR
  have h := tape_any (some ⟨g, 0, none⟩) ts n cap 3 (d : Int) d p (Ld.labsOf z d p) x.A m x.C lab (fun (n : Nat) => St.mat (St.row (Ld.data z d) (n : Int))) _ _ y (by rw [hlen, hn]) (by omega) hrd0 hsh (Ld.seal_d hd1 hd hp1 hp) (by rw [Ld.labsOf_len, hm])
    (by have := hsx.le; rw [hlb, Ld.labsOf_len] at this; omega) hsx.max (by rw [← hlb]; exact hsx.rd) (by
      rw [hmem]
      intro R hR no hno j hj h0 c hc
      have e := Me.subs_code (data := Ld.data z d) (bl := Ld.bl p) (number := 3) (ts := ts) (n := no) (Ld.data_fine hd) (Ld.seal0 hd1 hd hp1 hp) (by omega) hs (by rw [← hrows R hR]; exact hno) (j := j) (by rw [Ld.data_len, Ld.bl_len]; exact hj)
      rw [Ld.data_len, Ld.bl_len] at e
      exact e h0 hc) (by
      rw [hmem]
      intro R hR
      rcases hmix with h1 | h1 | h1
      · rw [h1] at hR; cases hR
      · exact .inl fun no hno => h1 no (by rw [← hrows R hR]; exact hno)
      · exact .inr ⟨by rw [hrows R hR]; exact hpos, h1⟩)
  refine h.mono ?_
  intro e w' hh
  unfold TapeQ NoTape at hh
  rw [hmem] at hh
  rcases hh with ⟨hl, -⟩ | ⟨hl, hr, he, hb⟩ | ⟨R, k, hR, hkd, hkl, hh⟩
  · exact absurd (Ld.labs_in.2 hlab) hl
  · exact ⟨hb, .inl ⟨.inl hr, _, _, _, _, _, _, he⟩⟩
  · have hRl := hrows R hR
    have hlb2 := Ld.labs_at hkd hkl
    rcases hh with ⟨-, ht, he, hb⟩ | ⟨hall, g2, cap2, hcap, he, hrd, hb⟩
    · exact ⟨hb, .inl ⟨.inr ht, _, _, _, _, _, _, he⟩⟩
    · subst hRl
      refine ⟨hb, .inr ⟨hR, hall, g2, cap2, hcap, ?_, ?_⟩⟩
      · rw [show (lab - 1).toNat = k by omega]; exact he
      · rw [show (lab - 1).toNat = k by omega]; exact hrd
theorem ldTape (hd1 : 1 ≤ d) (hd : d ≤ 6) (hp1 : 1 ≤ p) (hp : p ≤ 4) (hs : Me.Subs ts (Ld.all z d p)) (hsh : ∀ t ∈ ts, Ld.Short t) {w1 y : World} {g cap M M2 n m : Nat} {x : Sx} (hk : LdK w1 g cap M M2 x ts y) (hx : x.s = Gr.sealOf (Ld.data z d) (Ld.bl p) 3 d) (lab : Int) (hlab : 1 ≤ lab ∧ lab ≤ (d : Int)) (hn : n = d + p) (hm : m = d + p)
    (hmix : Me.rows (ts.drop d) = none ∨ (∀ n, n < St.len (Ld.data z d) → d ≤ Me.there_ ts d p n) ∨ Me.there_ ts d p 0 < d) :
    Calls Tryz.prog 7 #[.slice (some ⟨g, 0, none⟩) n cap, .agg #[.int .i64 3, .int .i64 (d : Int), .int .i64 (d : Int), .int .i64 (p : Int), .slice x.A m x.C], .int .i64 lab] y (LdTape z d p ts lab y) :=
  ldTapeG hd1 hd hp1 hp hs hsh hk.rd hk.sx hx lab hlab hn hm hmix
end
end Go.Proofs.YtcokmmanajdioaaGreat
