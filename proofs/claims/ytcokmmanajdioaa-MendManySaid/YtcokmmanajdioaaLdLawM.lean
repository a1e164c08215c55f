/- MendMany: with more members lost than there is parity it is told. -/
import Derived.Test.YtcokmmanajdioaaLdLaid
import Derived.Test.YtcokmmanajdioaaMbh
import Derived.Test.YtcokmmanajdioaaMbi
namespace Go.Proofs.Ytcokmmanajdioaa
open Go.RowKit Mx
open Pt (Tx)

theorem infoIntM : (Try.prog.info? 3).map (fun i => (i.zero, i.size, i.bytes)) = some (some (.int .i64 0), 1, 8) := by kernel_rfl
namespace Ld
/-- the first so many are lost -/
noncomputable def many (d p i : Nat) : List St.T := Me.hurtN Me.gone 0 i (all (fun _ => 0) d p)
theorem many_subs (d p i : Nat) : Me.Subs (many d p i) (all (fun _ => 0) d p) := Me.hurtN_subs fun _ _ _ => Me.Sub.of_lost rfl rfl
theorem many_len (d p i : Nat) : (many d p i).length = d + p := by unfold many; rw [Me.hurtN_len, all_len]
theorem many_short {d p i : Nat} (hd : d ≤ 6) : ∀ t ∈ many d p i, Short t := hurtN_short (fun _ h => gone_short h) (all_short hd)
theorem many_rows {d p i : Nat} (hd1 : 1 ≤ d) (hd : d ≤ 6) (hp1 : 1 ≤ p) (hp : p ≤ 4) (hi : i ≤ d) : Me.rows ((many d p i).drop d) = some (St.len (data (fun _ => 0) d)) := by
  have h := Me.subs_rows (data := data (fun _ => 0) d) (bl := bl p) (number := 3) (many_subs d p i)
  rw [data_len] at h
  have hlt : d < (many d p i).length := by rw [many_len]; omega
  refine h ⟨(many d p i)[d], ?_, ?_⟩
  · rw [List.mem_iff_getElem]
    exact ⟨0, by rw [List.length_drop]; omega, by rw [List.getElem_drop]; simp⟩
  · have e := Me.hurtN_at Me.gone 0 i (all (fun _ => 0) d p) (j := d) (by rw [all_len]; omega)
    have e2 : (many d p i)[d]? = some (many d p i)[d] := List.getElem?_eq_getElem hlt
    unfold many at e2
    rw [e, if_neg (by omega)] at e2
    have e3 := Option.some.inj e2
    have e4 : (all (fun _ => 0) d p)[d]'(by rw [all_len]; omega) = (Gr.made (data (fun _ => 0) d) (bl p) 3)[0]'(by rw [Gr.made_len, bl_len]; omega) := by
      unfold all Me.whole
      rw [List.getElem_append_right (by rw [data_len]; omega)]
      simp [data_len]
    show (Gr.sealed (Me.hurtN Me.gone 0 i (all (fun _ => 0) d p))[d]).isSome = true
    rw [← e3, e4, sealed_made hd1 hd hp1 hp]
    rfl
theorem many_there {d p i n : Nat} (hd1 : 1 ≤ d) (hd : d ≤ 6) (hp1 : 1 ≤ p) (hp : p ≤ 4) (hn : n < St.len (data (fun _ => 0) d)) : Me.there_ (many d p i) d p n = d + p - i := by
  unfold Me.there_
  refine Me.there_from (q := i) (d + p) fun x hx => ?_
  have hxl : x < (many d p i).length := by rw [many_len]; exact hx
  have hxa : x < (all (fun _ => 0) d p).length := by rw [all_len]; exact hx
  have e := Me.hurtN_at Me.gone 0 i (all (fun _ => 0) d p) hxa
  by_cases h : x < i
  · have e2 : (many d p i)[x]? = some (many d p i)[x] := List.getElem?_eq_getElem hxl
    unfold many at e2
    rw [e, if_pos ⟨Nat.zero_le _, h⟩] at e2
    have e3 := Option.some.inj e2
    rw [Me.have_lost hxl (by show (Me.hurtN Me.gone 0 i (all (fun _ => 0) d p))[x].lost = true; rw [← e3]; rfl)]
    exact ⟨fun h0 => absurd h0 (by simp), fun h0 => by omega⟩
  · have hs := Me.have_same (data := data (fun _ => 0) d) (bl := bl p) (number := 3) (many_subs d p i) (n := n) (j := x) (by rw [data_len, bl_len]; exact hx) (by
      unfold many
      rw [e, if_neg (by omega)]
      exact (List.getElem?_eq_getElem hxa).symm)
    have hr := (Me.whole_row (data := data (fun _ => 0) d) (bl := bl p) (number := 3) (data_fine hd) (seal0 hd1 hd hp1 hp) (by have := len_le (z := fun _ => 0) (d := d); omega) hn (j := x) (by rw [data_len, bl_len]; exact hx)).1
    rw [data_len] at hs hr
    rw [hs, hr]
    exact ⟨fun _ => by omega, fun _ => by decide⟩
end Ld
set_option maxRecDepth 100000 in
set_option maxHeartbeats 2000000 in
theorem mendMany_no (n p l : Int) (w : World) (h : n < 1 ∨ 6 < n ∨ p < 1 ∨ 4 < p ∨ l < 0 ∨ n < l) :
    Calls Try.prog 3 #[.int .i64 n, .int .i64 p, .int .i64 l] w fun e w' => e = .returned (.bool true) ∧ Below w.heap.size w w' := by
  by_cases h0 : n < 1
  · have q0 : decide (n < 1) = true := decide_eq_true h0
    clear h h0
    go_enter Try.func3, Try.ntmps3
    go_wp2_with fail
    refine (alive15_true w).mono ?_
    rintro e w1 ⟨rfl, hb1⟩
    go_wp2
    go_ret
    exact ⟨rfl, hb1⟩
  have q0 : decide (n < 1) = false := decide_eq_false h0
  by_cases h1 : 6 < n
  · have q1 : decide (6 < n) = true := decide_eq_true h1
    clear h h0 h1
    go_enter Try.func3, Try.ntmps3
    go_wp2_with fail
    refine (alive15_true w).mono ?_
    rintro e w1 ⟨rfl, hb1⟩
    go_wp2
    go_ret
    exact ⟨rfl, hb1⟩
  have q1 : decide (6 < n) = false := decide_eq_false h1
  by_cases h2 : p < 1
  · have q2 : decide (p < 1) = true := decide_eq_true h2
    clear h h0 h1 h2
    go_enter Try.func3, Try.ntmps3
    go_wp2_with fail
    refine (alive15_true w).mono ?_
    rintro e w1 ⟨rfl, hb1⟩
    go_wp2
    go_ret
    exact ⟨rfl, hb1⟩
  have q2 : decide (p < 1) = false := decide_eq_false h2
  by_cases h3 : 4 < p
  · have q3 : decide (4 < p) = true := decide_eq_true h3
    clear h h0 h1 h2 h3
    go_enter Try.func3, Try.ntmps3
    go_wp2_with fail
    refine (alive15_true w).mono ?_
    rintro e w1 ⟨rfl, hb1⟩
    go_wp2
    go_ret
    exact ⟨rfl, hb1⟩
  have q3 : decide (4 < p) = false := decide_eq_false h3
  by_cases h4 : l < 0
  · have q4 : decide (l < 0) = true := decide_eq_true h4
    clear h h0 h1 h2 h3 h4
    go_enter Try.func3, Try.ntmps3
    go_wp2_with fail
    refine (alive15_true w).mono ?_
    rintro e w1 ⟨rfl, hb1⟩
    go_wp2
    go_ret
    exact ⟨rfl, hb1⟩
  have q4 : decide (l < 0) = false := decide_eq_false h4
  have q5 : decide (n < l) = true := decide_eq_true (by omega)
  clear h h0 h1 h2 h3 h4
  go_enter Try.func3, Try.ntmps3
  go_wp2_with fail
  refine (alive15_true w).mono ?_
  rintro e w1 ⟨rfl, hb1⟩
  go_wp2
  go_ret
  exact ⟨rfl, hb1⟩
set_option maxRecDepth 100000 in
set_option maxHeartbeats 8000000 in
theorem mendMany_main (d p l : Nat) (w : World) (hd1 : 1 ≤ d) (hd : d ≤ 6) (hp1 : 1 ≤ p) (hp : p ≤ 4) (hl : l ≤ d) :
    Calls Try.prog 3 #[.int .i64 (d : Int), .int .i64 (p : Int), .int .i64 (l : Int)] w fun e w' => e = .returned (.bool true) ∧ Below w.heap.size w w' := by
  have q0 : decide ((d : Int) < 1) = false := decide_eq_false (by omega)
  have q1 : decide (6 < (d : Int)) = false := decide_eq_false (by omega)
  have q1' : decide (6 < d) = false := decide_eq_false (by omega)
  have q2 : decide ((p : Int) < 1) = false := decide_eq_false (by omega)
  have q3 : decide (4 < (p : Int)) = false := decide_eq_false (by omega)
  have q3' : decide (4 < p) = false := decide_eq_false (by omega)
  have q4 : decide ((l : Int) < 0) = false := decide_eq_false (by omega)
  have q5 : decide ((d : Int) < (l : Int)) = false := decide_eq_false (by omega)
  have q5' : decide (d < l) = false := decide_eq_false (by omega)
  have hmk := run_make_row' (P := Try.prog) 24 3 (.int .i64 0) 8 Try.underlying24 infoIntM rfl .i64 .i64 d (by omega) (by omega)
  go_enter Try.func3, Try.ntmps3
  go_wp2_with fail
  refine (alive15_true w).mono ?_
  rintro e w1 ⟨rfl, hb1⟩
  obtain ⟨w2, hw2⟩ : ∃ x, x = w1.alloc (.cells (madeCells #[.int .i64 0] d) 3) := ⟨_, rfl⟩
  have hb2 : Below w1.heap.size w1 w2 := by rw [hw2]; exact (Below.refl _ _).alloc (Nat.le_refl _) _
  have hrv : RowV w2 3 w1.heap.size d (fun _ => .int .i64 0) := by rw [hw2]; exact RowV.made w1 (.int .i64 0) 3 d
  have HLAID := Lib.hid (laid_walk (some ⟨w1.heap.size, 0, none⟩) d d (fun _ => 0) p w2 hd hd1 hp hp1 (fun _ => ⟨_, 0, rfl, fun j hj => by rw [Nat.zero_add]; exact hrv.cell hj⟩))
  have HB2 := Lib.hid (hb1.trans (hb2.mono hb1.size))
  have HW2 := Lib.hid hw2
  clear hw2 hb1 hb2 hrv
  go_wp2_with fail
  rw [← HW2.out]
  refine HLAID.out.mono ?_
  rintro e w3 ⟨g, cap, M, M2, x, rfl, hx, hk3⟩
  obtain ⟨⟨xn, xi, xd, xp, xl⟩, xA, xC⟩ := x
  have hx2 : xn = 3 ∧ xi = (d : Int) ∧ xd = (d : Int) ∧ xp = (p : Int) ∧ xl.length = d + p := by
    have hx' : (⟨xn, xi, xd, xp, xl⟩ : Rc.S) = Gr.sealOf (Ld.data (fun _ => 0) d) (Ld.bl p) 3 d := hx
    unfold Gr.sealOf at hx'
    injection hx' with g1 g2 g3 g4 g5
    rw [Ld.data_len] at g3
    rw [Ld.bl_len] at g4
    refine ⟨g1, g2, g3, g4, ?_⟩
    rw [g5, List.length_map, List.length_append, Ld.data_len, Ld.bl_len]
  obtain ⟨rfl, rfl, rfl, rfl, hxl⟩ := hx2
  dsimp only
  rw [hxl]
  obtain ⟨m, hm⟩ : ∃ m, m = d + p := ⟨_, rfl⟩
  rw [← hm]
  obtain ⟨w4, hw4⟩ : ∃ y, y = w3.alloc (sealObj 3 (d : Int) (d : Int) (p : Int) xA m xC) := ⟨_, rfl⟩
  have hb4 : Below w3.heap.size w3 w4 := by rw [hw4]; exact (Below.refl _ _).alloc (Nat.le_refl _) _
  have hS4 : w4.heap[w3.heap.size]? = some (sealObj 3 (d : Int) (d : Int) (p : Int) xA m xC) := by rw [hw4]; exact Go.Deep.blk_alloc_new _ _
  have HK4 : Hid (LdK w2 g cap M M2 ⟨⟨3, (d : Int), (d : Int), (p : Int), xl⟩, xA, xC⟩ (Ld.many d p 0) w4) := Lib.hid (by
    unfold Ld.many
    rw [Me.hurtN_start]
    exact hk3.old hb4)
  have HX := Lib.hid hx
  have HM := Lib.hid hm
  have HS4 := Lib.hid hS4
  have HW4 := Lib.hid hw4
  unfold sealObj at HW4
  have hm10 : m ≤ 10 := by omega
  have hlm : l ≤ m := by omega
  clear hw4 hb4 hS4 hk3 hx hxl hmk hm
  go_wp2
  rw [← HW4.out]
  obtain ⟨B, hB⟩ : ∃ B, B = w3.heap.size := ⟨_, rfl⟩
  rw [← hB] at HS4 ⊢
  clear hB
  go_loopw [11] (fun vi wr => ∃ i : Nat, i ≤ l ∧ vi = .int .i64 (i : Int) ∧ Hid (LdK w2 g cap M M2 ⟨⟨3, (d : Int), (d : Int), (p : Int), xl⟩, xA, xC⟩ (Ld.many d p i) wr) ∧ Hid (wr.heap[B]? = some (sealObj 3 (d : Int) (d : Int) (p : Int) xA m xC))) (fun vi _ => l - (intOf vi).toNat)
  case atStart => exact ⟨0, Nat.zero_le _, rfl, HK4, HS4⟩
  case round =>
    obtain ⟨i, hi, rfl, HK, HS⟩ := hrel
    by_cases hlt : i < l
    · have e0 : decide (i < l) = true := decide_eq_true hlt
      have e0' : decide ((i : Int) < (l : Int)) = true := decide_eq_true (by omega)
      have hil : i < (Ld.many d p i).length := by rw [Ld.many_len]; omega
      obtain ⟨c, hc⟩ := HK.out.blk
      have hlost := HK.out.lost hil
      have hset : (Ld.many d p i).set i ⟨(Ld.many d p i)[i].label, (Ld.many d p i)[i].cap, (Ld.many d p i)[i].blocks, true⟩ = Ld.many d p (i + 1) := by
        have hia : i < (Ld.all (fun _ => 0) d p).length := by rw [Ld.all_len]; omega
        have e := Me.hurtN_set Me.gone (a := 0) (i := i) (ts := Ld.all (fun _ => 0) d p) (Nat.zero_le _) hia
        have e2 : (Ld.many d p i)[i] = (Ld.all (fun _ => 0) d p)[i] := Me.hurtN_same Me.gone hia hil
        rw [e2]
        exact e
      rw [hset] at hlost
      have hff : wr.frozen? ⟨g, i * 4 + 3, none⟩ = false := heap_frozen hc
      obtain ⟨b', off', A', C', eA, -, -, -, -, c3, -⟩ := HK.out.rd.at_ hil
      injection eA with eA
      injection eA with eA1 eA2 _
      subst eA1 eA2
      rw [Nat.zero_add] at c3
      obtain ⟨lo, hlo⟩ : ∃ lo, lo = (Ld.many d p i)[i].lost := ⟨_, rfl⟩
      rw [← hlo] at c3
      have hne : ¬ B = g := fun e => by
        have h9 := HS.out
        rw [e, hc] at h9
        injection h9 with h9
        injection h9 with _ e2
        exact absurd e2 (by decide)
      have HL := Lib.hid hlost
      have HSN : Hid ((wr.setCell ⟨g, i * 4 + 3, none⟩ (.bool true)).heap[B]? = some (sealObj 3 (d : Int) (d : Int) (p : Int) xA m xC)) := Lib.hid (((Kp.store wr g (i * 4 + 3) (.bool true)).block B (heap_lt HS.out) hne).trans HS.out)
      have i0 : (0 : Int) ≤ (i : Int) := by omega
      have i1 : (i : Int) < (m : Int) := by omega
      have i2 : i < m := by omega
      clear hlost hset hc hne hlo hil
      go_wp2
      go_roundw
      case rel => exact ⟨i + 1, by omega, by go_num, HL, HSN⟩
      case measure => simp [intOf]; omega
    · have e0 : decide (i < l) = false := decide_eq_false hlt
      have e0' : decide ((i : Int) < (l : Int)) = false := decide_eq_false (by omega)
      have hil : i = l := by omega
      subst hil
      obtain ⟨w5, rfl⟩ : ∃ y, y = wr := ⟨wr, rfl⟩
      have hpos := Ld.len_pos (z := fun _ => 0) hd1
      have hblk := fun (y : World) (hy : Below w5.heap.size w5 y) => ldBlock (z := fun _ => 0) (ts := Ld.many d p i) hd1 hd hp1 hp (Ld.many_subs d p i) (Ld.many_short hd) (HK.out.old hy) HX.out 1 (no := 0) hpos HM.out HM.out
      have hmix : Me.rows ((Ld.many d p i).drop d) = none ∨ (∀ n, n < St.len (Ld.data (fun _ => 0) d) → d ≤ Me.there_ (Ld.many d p i) d p n) ∨ Me.there_ (Ld.many d p i) d p 0 < d := by
        by_cases hip : i ≤ p
        · exact .inr (.inl fun n hn => by rw [Ld.many_there hd1 hd hp1 hp hn]; omega)
        · exact .inr (.inr (by rw [Ld.many_there hd1 hd hp1 hp hpos]; omega))
      have htap := fun (y : World) (hy : Below w5.heap.size w5 y) => ldTape (z := fun _ => 0) (ts := Ld.many d p i) hd1 hd hp1 hp (Ld.many_subs d p i) (Ld.many_short hd) (HK.out.old hy) HX.out (d : Int) ⟨by omega, Int.le_refl _⟩ HM.out HM.out hmix
      have HBLK := Lib.hid hblk
      have HTAP := Lib.hid htap
      have HTH : Hid (∀ n, n < St.len (Ld.data (fun _ => 0) d) → Me.there_ (Ld.many d p i) d p n = d + p - i) := Lib.hid fun n hn => Ld.many_there hd1 hd hp1 hp hn
      have HPOS := Lib.hid hpos
      have HROW := Lib.hid (Ld.many_rows (p := p) hd1 hd hp1 hp hl)
      have HB5 : Hid (Below w.heap.size w w5) := Lib.hid (HB2.out.trans (HK.out.bel.mono HB2.out.size))
      obtain ⟨x0, x1, x2, x3, x4⟩ := seal5 HS.out
      clear hblk htap hmix hpos
      go_wp2_with fail
      refine (HBLK.out w5 (Below.refl _ _)).mono ?_
      intro e w6 hb
      obtain ⟨hbel6, hb⟩ := hb
      have hcase : ∃ A9 m9 C9, e = .returned (.tuple #[.slice A9 m9 C9, .int .i64 (if i ≤ p then 0 else 10)]) := by
        rcases hb with ⟨hno, -⟩ | ⟨-, hr, A9, m9, C9, he⟩ | ⟨-, -, ht, A9, C9, he, -⟩
        · exact absurd ⟨Int.le_refl _, by omega⟩ hno
        · rcases hr with hr | hr
          · rw [HROW.out] at hr; cases hr
          · rw [HTH.out 0 HPOS.out] at hr
            exact ⟨A9, m9, C9, by rw [if_neg (by omega)]; exact he⟩
        · rw [HTH.out 0 HPOS.out] at ht
          exact ⟨A9, 79, C9, by rw [if_pos (by omega)]; exact he⟩
      obtain ⟨A9, m9, C9, rfl⟩ := hcase
      have HB6 := Lib.hid hbel6
      have HS6 := Lib.hid (below_obj hbel6 HS.out)
      clear hb hbel6 x0 x1 x2 x3 x4
      obtain ⟨x0, x1, x2, x3, x4⟩ := seal5 HS6.out
      obtain ⟨er, her⟩ : ∃ er : Int, er = if i ≤ p then 0 else 10 := ⟨_, rfl⟩
      rw [← her]
      have HER := Lib.hid her
      clear her
      go_wp2_with fail
      refine (HTAP.out w6 HB6.out).mono ?_
      intro e w7 hb
      obtain ⟨hbel7, hb⟩ : Below w6.heap.size w6 w7 ∧ _ := by
        rcases hb with ⟨h1, h2⟩
        exact ⟨h1, h2⟩
      have hcase : ∃ a b A9 m9 C9 l9, e = .returned (.tuple #[.agg #[.int .i64 a, .int .i64 b, .slice A9 m9 C9, .bool l9], .int .i64 er]) := by
        rcases hb with ⟨hr, a, b, A9, m9, C9, l9, he⟩ | ⟨-, ht, g2, cap2, -, he, -⟩
        · rcases hr with hr | hr
          · rw [HROW.out] at hr; cases hr
          · rw [HTH.out 0 HPOS.out] at hr
            exact ⟨a, b, A9, m9, C9, l9, by rw [HER.out, if_neg (by omega)]; exact he⟩
        · have h0 := ht 0 HPOS.out
          rw [HTH.out 0 HPOS.out] at h0
          exact ⟨_, _, _, _, _, _, by rw [HER.out, if_pos (by omega)]; exact he⟩
      obtain ⟨a8, b8, A8, m8, C8, l8, rfl⟩ := hcase
      have HB7 := Lib.hid (HB5.out.trans ((HB6.out.trans (hbel7.mono HB6.out.size)).mono HB5.out.size))
      have HB8 := Lib.hid (HB7.out.alloc HB7.out.size (.cells #[.int .i64 a8, .int .i64 b8, .slice A8 m8 C8, .bool l8] 31))
      clear hb hbel7 x0 x1 x2 x3 x4
      by_cases hip : i ≤ p
      · have e1 : decide (i ≤ p) = true := decide_eq_true hip
        have e1' : decide ((i : Int) ≤ (p : Int)) = true := decide_eq_true (by omega)
        have her := HER.out
        rw [if_pos hip] at her
        subst her
        go_wp2_with (first
          | (go_at_call 9; refine (num15 _ _).mono ?_; rintro e w' ⟨rfl, hw'⟩; subst hw'))
        go_ret
        exact ⟨rfl, HB8.out⟩
      · have e1 : decide (i ≤ p) = false := decide_eq_false hip
        have e1' : decide ((i : Int) ≤ (p : Int)) = false := decide_eq_false (by omega)
        have her := HER.out
        rw [if_neg hip] at her
        subst her
        go_wp2_with (first
          | (go_at_call 9; refine (num15 _ _).mono ?_; rintro e w' ⟨rfl, hw'⟩; subst hw'))
        go_ret
        exact ⟨rfl, HB8.out⟩
theorem mendMany_walk (n p l : Int) (w : World) :
    Calls Try.prog 3 #[.int .i64 n, .int .i64 p, .int .i64 l] w fun e w' => e = .returned (.bool true) ∧ Below w.heap.size w w' := by
  by_cases h : n < 1 ∨ 6 < n ∨ p < 1 ∨ 4 < p ∨ l < 0 ∨ n < l
  · exact mendMany_no n p l w h
  · obtain ⟨k, rfl⟩ : ∃ k : Nat, n = (k : Int) := ⟨n.toNat, by omega⟩
    obtain ⟨x, rfl⟩ : ∃ k : Nat, p = (k : Int) := ⟨p.toNat, by omega⟩
    obtain ⟨y, rfl⟩ : ∃ k : Nat, l = (k : Int) := ⟨l.toNat, by omega⟩
    exact mendMany_main k x y w (by omega) (by omega) (by omega) (by omega) (by omega)
end Go.Proofs.Ytcokmmanajdioaa
