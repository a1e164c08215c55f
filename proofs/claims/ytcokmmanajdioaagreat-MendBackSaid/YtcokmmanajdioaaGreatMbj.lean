/- The example of chapter 15 comes out true. -/
import Derived.Test.YtcokmmanajdioaaGreatMbi
import Derived.Test.YtcokmmanajdioaaGreatMbb
import Derived.BigQuiet
import Derived.Deep.QuietTactic
namespace Go.Proofs.YtcokmmanajdioaaGreat
open Go.RowKit Mx
open Pt (Tx)

theorem ex15_ok : Rc.SOk ⟨1, 1, 1, 1, [1, 2]⟩ := Gr.sealOk_index ex15_seal (by decide)
theorem block15 (A : Option Addr) (C : Nat) (sA : Option Addr) (sC : Nat) (G G2 : Nat → Prop) (w : World) (hr : RdT w A (Gr.made exD15 exB15 1) G) (hC : 2 ≤ sC) (hCm : sC ≤ maxLen) (hz : RdZ w sA [1, 2] G2) (hsz : ∀ t ∈ Gr.made exD15 exB15 1, t.blocks.length ≤ 1000000 ∧ ∀ s ∈ t.blocks, s.length ≤ 1000000) :
    Calls Tryz.prog 10 #[.slice A 1 C, .agg #[.int .i64 1, .int .i64 1, .int .i64 1, .int .i64 1, .slice sA 2 sC], .int .i64 1, .int .i64 0] w fun e w' => ∃ A9 C9, e = .returned (.tuple #[.slice A9 79 C9, .int .i64 0]) ∧ RdL w' A9 (Ex.b 1) (fun _ => True) ∧ Below w.heap.size w w' := by
  have h := block_any A (Gr.made exD15 exB15 1) 1 C 1 1 1 1 [1, 2] sA 2 sC 1 0 (St.mat (St.row exD15 ((0 : Nat) : Int))) G G2 w rfl (by decide) hr hsz ex15_ok rfl hC hCm hz (by decide) (by
    rw [ex15_members]
    intro R hR hRn j hj h0 c hc
    exact Me.subs_code (data := exD15) (bl := exB15) (number := 1) (n := 0) ex15_fine ex15_seal (by decide) ex15_subs (by decide) hj h0 hc)
  refine h.mono ?_
  intro e w' hh
  unfold BlockQ at hh
  rw [ex15_members] at hh
  rcases hh with ⟨hno, -⟩ | ⟨-, hrn, -⟩ | ⟨R, k, hR, hk, hlab, hh⟩
  · exact absurd (by decide) hno
  · have h1 := ex15_rows
    rw [h1] at hrn; cases hrn
  · have h1 := ex15_rows
    rw [h1] at hR
    have h2 := Option.some.inj hR
    subst h2
    have hk0 : k = 0 := by omega
    subst hk0
    rcases hh with ⟨hn, -⟩ | ⟨-, hb, hh⟩
    · exact absurd hn (by decide)
    · rcases hh with ⟨ht, -⟩ | ⟨-, A9, C9, he, hrd⟩
      · have h3 := ex15_there
        rw [h3] at ht; exact absurd ht (by decide)
      · have e15 := ex15_row
        rw [e15] at hrd
        exact ⟨A9, C9, he, hrd, hb⟩
set_option maxRecDepth 100000 in
set_option maxHeartbeats 8000000 in
theorem alive15_true (w : World) : Calls Tryz.prog 4 #[] w fun e w' => e = .returned (.bool true) ∧ Below w.heap.size w w' := by
  go_enter Tryz.func4, Tryz.ntmps4
  go_wp2_with fail
  refine (block_zero 1 0 w).mono ?_
  rintro e w0 ⟨rfl, hb0⟩
  obtain ⟨w1, hw1⟩ : ∃ w1, w1 = w0.alloc (.cells #[.int .u8 68] 5 (1, 2)) := ⟨_, rfl⟩
  have kc := Go.Joins.run_convert_bytes_const_at (P := Tryz.prog) w0 34 5 #[.int .u8 68] 1 1 w0.heap.size rfl Tryz.underlying34 Tryz.underlying5
  simp only [List.size_toArray, List.length_cons, List.length_nil, Nat.zero_add, Nat.reduceAdd] at kc
  have hb1 : Below w0.heap.size w0 w1 := by rw [hw1]; exact (Below.refl _ _).alloc (Nat.le_refl _) _
  have hD1 : w1.heap[w0.heap.size]? = some (.cells #[.int .u8 68] 5 (1, 2)) := by rw [hw1]; exact Go.Deep.blk_alloc_new _ _
  have hrd : RdL w1 (some ⟨w0.heap.size, 0, none⟩) [68] (fun _ => True) := fun _ => ⟨_, _, rfl, trivial, fun j hj => by
    have : j = 0 := by simp at hj; omega
    subst this
    rw [heap_cell hD1]; rfl⟩
  have hput := refPut_own 1 1 0 (some ⟨w0.heap.size, 0, none⟩) [68] 1 1 _ w1 rfl (fun h => by cases h) hrd
  unfold PutO at hput
  rw [show Fm.err ⟨1, 1, 0, [68]⟩ = 0 from Fm.err_ok (Ex.ok (by decide)), show Fm.put ⟨1, 1, 0, [68]⟩ = Ex.b 1 from Fm.put_ok (Ex.ok (by decide))] at hput
  have HP := Lib.hid hput
  have HB1 := Lib.hid (hb0.trans (hb1.mono hb0.size))
  have HW1 := Lib.hid hw1
  clear hput hb1 hw1 hD1 hrd hb0
  go_wp2_with fail
  clear kc
  rw [← HW1.out]
  refine HP.out.mono ?_
  rintro e w3 ⟨A3, n3, C3, rfl, hO3, hb3⟩
  obtain ⟨A3', C3', e3, hc3, hcm3, hn3, hr3⟩ := hO3.rd
  injection e3 with x1 x2 x3
  subst x1 x3
  obtain ⟨w4, hw4⟩ : ∃ w4, w4 = w3.alloc (.cells #[.slice A3 n3 C3] 34) := ⟨_, rfl⟩
  obtain ⟨w5, hw5⟩ : ∃ w5, w5 = w4.alloc (tapeObj 1 4 (some ⟨w3.heap.size, 0, none⟩) 1 1 false) := ⟨_, rfl⟩
  obtain ⟨w6, hw6⟩ : ∃ w6, w6 = w5.alloc (tapeObj 2 4 none 0 0 false) := ⟨_, rfl⟩
  have s4 : w4.heap.size = w3.heap.size + 1 := by rw [hw4]; simp
  have s5 : w5.heap.size = w3.heap.size + 1 + 1 := by rw [hw5]; simp [s4]
  have b34 : Below w3.heap.size w3 w4 := by rw [hw4]; exact (Below.refl _ _).alloc (Nat.le_refl _) _
  have b45 : Below w4.heap.size w4 w5 := by rw [hw5]; exact (Below.refl _ _).alloc (Nat.le_refl _) _
  have b56 : Below w5.heap.size w5 w6 := by rw [hw6]; exact (Below.refl _ _).alloc (Nat.le_refl _) _
  have b46 : Below w4.heap.size w4 w6 := b45.trans (b56.mono b45.size)
  have b36 : Below w3.heap.size w3 w6 := b34.trans (b46.mono b34.size)
  have k4 : w4.heap[w3.heap.size]? = some (.cells #[.slice A3 n3 C3] 34 (0, 0)) := by rw [hw4]; exact Go.Deep.blk_alloc_new _ _
  have k5 : w5.heap[w4.heap.size]? = some (tapeObj 1 4 (some ⟨w3.heap.size, 0, none⟩) 1 1 false) := by rw [hw5]; exact Go.Deep.blk_alloc_new _ _
  have k6 : w6.heap[w5.heap.size]? = some (tapeObj 2 4 none 0 0 false) := by rw [hw6]; exact Go.Deep.blk_alloc_new _ _
  have hrow := one_row (below_obj b46 k4) x2 (by rw [x2]; exact hc3) (by rw [x2]; exact hn3) ((hr3.old b36).mono fun _ _ => trivial)
  have hd := one_tape (below_obj b56 k5) rfl hrow
  have hb := one_tape (bs := []) k6 rfl (RdB.empty _ _ _)
  rw [s4] at hd
  rw [s5] at hb
  have hmk := refMake_walk (some ⟨w3.heap.size + 1, 0, none⟩) exD15 1 (some ⟨w3.heap.size + 1 + 1, 0, none⟩) exB15 1 (fun _ => True) 1 1 1 w6 rfl rfl (by decide) (by decide) (fun t ht => by
    rw [List.mem_singleton.1 ht]
    refine ⟨by show 1 ≤ 1000; omega, fun s hs => ?_⟩
    have hs' : s ∈ [Ex.b 1] := hs
    rw [List.mem_singleton.1 hs', Ex.b_len (by decide)]; omega) hd hb
  unfold MakeS at hmk
  simp only [if_pos ex15_mk] at hmk
  have HMK := Lib.hid hmk
  have HR3 := Lib.hid (hr3.mono (fun _ _ => trivial) : RdL w3 A3 (Ex.b 1) (fun _ => True))
  have HB36 := Lib.hid b36
  have HB6 := Lib.hid ((HB1.out.trans (hb3.mono HB1.out.size)).trans (b36.mono (HB1.out.trans (hb3.mono HB1.out.size)).size))
  have HW6 : Hid (w6 = ((w3.alloc (.cells #[.slice A3 n3 C3] 34)).alloc (.cells #[.int .i64 1, .int .i64 4, .slice (some ⟨w3.heap.size, 0, none⟩) 1 1, .bool false] 31)).alloc (.cells #[.int .i64 2, .int .i64 4, .slice none 0 0, .bool false] 31)) := Lib.hid (by rw [hw6, hw5, hw4]; rfl)
  have hn79 : n3 = 79 := x2.trans (Ex.b_len (by decide))
  clear hw4 hw5 hw6 s4 s5 b34 b45 b56 b46 b36 k4 k5 k6 hrow hd hb hmk hO3 hb3 hc3 hcm3 hn3 hr3 x2
  subst hn79
  go_wp2_with fail
  rw [← HW6.out]
  refine HMK.out.mono ?_
  rintro e w7 ⟨v7, tvs7, L7, rfl, ho7, hr7, hb7⟩
  obtain ⟨A7, C7, hv7, -, -, -, hrd7⟩ := ho7.rd
  have hrt7 := hr7.rdT (G := fun _ => True) (hrd7.mono fun _ _ => trivial) fun _ _ => trivial
  have hml : (Gr.made exD15 exB15 1).length = 1 := rfl
  rw [hr7.len, hml] at hv7
  subst hv7
  have hsz := Ld.made_short (data := exD15) (blank := exB15) (number := 1) (by decide)
  obtain ⟨b8, o8, A8, C8, hA7, -, c0, c1, c2, c3, hbb⟩ := hrt7.at_ (i := 0) (by decide)
  rw [Nat.zero_mul, Nat.add_zero] at c0 c1 c2 c3
  have hm0 : (Gr.made exD15 exB15 1)[0]'(by decide) = Gr.madeT exD15 exB15 1 0 exB15[0] := rfl
  rw [hm0] at c0 c1 c2 c3 hbb
  have hs0 := hsz (Gr.madeT exD15 exB15 1 0 exB15[0]) (by rw [← hm0]; exact List.getElem_mem _)
  have hsl := ex15_sealed
  obtain ⟨⟨lab, cap, bs, lost⟩, ht⟩ : ∃ t, t = Gr.madeT exD15 exB15 1 0 exB15[0] := ⟨_, rfl⟩
  rw [← ht] at c0 c1 c2 c3 hbb hs0 hsl
  dsimp only at c0 c1 c2 c3 hbb hs0
  obtain ⟨K, hK⟩ : ∃ K, K = bs.length := ⟨_, rfl⟩
  rw [← hK] at c2
  have hseal := refSealed_any lab cap bs A8 K C8 (fun _ => True) lost w7 hK (by rw [hK]; exact hs0.1) hbb (fun s hs => Nat.le_trans (hs0.2 s hs) (by omega))
  rw [hsl] at hseal
  have HSEAL := Lib.hid hseal
  have HRT7 := Lib.hid hrt7
  have HB67 := Lib.hid hb7
  have HB7 := Lib.hid (HB6.out.trans (hb7.mono HB6.out.size))
  have HSZ := Lib.hid hsz
  subst hA7
  clear hrd7 hr7 ho7 hml hbb hs0 hsl hm0 ht hK hseal hrt7 hb7 hsz
  go_wp2_with fail
  refine HSEAL.out.mono ?_
  rintro e w8 ⟨sx, rfl, hsx, hxo, hb8⟩
  have hsx' : sx.s = ⟨1, 1, 1, 1, [1, 2]⟩ := hsx
  obtain ⟨⟨sn, si, sd, sp, sl⟩, sA, sC⟩ := sx
  injection hsx' with g1 g2 g3 g4 g5
  subst g1 g2 g3 g4 g5
  have HXO := Lib.hid hxo
  have HB8 := Lib.hid (HB7.out.trans (hb8.mono HB7.out.size))
  have HRT8 := Lib.hid (HRT7.out.old hb8)
  have HB78 := Lib.hid hb8
  clear hxo hb8 hsx c0 c1 c2 c3
  dsimp only
  obtain ⟨w9, hw9⟩ : ∃ x, x = w8.alloc (sealObj 1 1 1 1 sA 2 sC) := ⟨_, rfl⟩
  have hb9 : Below w8.heap.size w8 w9 := by rw [hw9]; exact (Below.refl _ _).alloc (Nat.le_refl _) _
  have HBLK := Lib.hid (block15 (some ⟨b8, o8, none⟩) C7 sA sC _ _ w9 (HRT8.out.old hb9) HXO.out.le HXO.out.max (HXO.out.rd.old hb9) (fun t ht => ⟨(HSZ.out t ht).1, fun s hs => Nat.le_trans ((HSZ.out t ht).2 s hs) (by omega)⟩))
  have HB9 := Lib.hid (HB8.out.trans (hb9.mono HB8.out.size))
  have HB89 := Lib.hid hb9
  have HW9 := Lib.hid hw9
  unfold sealObj at HW9
  clear hw9 hb9
  simp only [List.length_cons, List.length_nil, Nat.zero_add, Nat.reduceAdd]
  go_wp2_with fail
  rw [← HW9.out]
  refine HBLK.out.mono ?_
  rintro e w10 ⟨A10, C10, rfl, hrd10, hb10⟩
  have HB10 := Lib.hid (HB9.out.trans (hb10.mono HB9.out.size))
  have hrb : RdL w10 A3 (Ex.b 1) (fun _ => True) := ((((HR3.out.old HB36.out).old HB67.out).old HB78.out).old HB89.out).old hb10
  have e1 := hrd10.str C10
  have e2 := hrb.str C3
  rw [Ex.b_len (by decide)] at e1 e2
  have e3 := tx_toList (Ex.b 1)
  clear hrd10 hrb hb10
  go_wp2_with (first
    | (go_at_call 8; refine (num15 _ _).mono ?_; rintro e w' ⟨rfl, hw'⟩; subst hw'))
  go_ret
  exact ⟨rfl, HB10.out⟩
end Go.Proofs.YtcokmmanajdioaaGreat
