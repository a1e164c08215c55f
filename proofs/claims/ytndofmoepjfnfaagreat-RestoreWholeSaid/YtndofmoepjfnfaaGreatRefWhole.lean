/- What the document's own Whole answers of parts that are all of one file. -/
import Derived.Test.YtndofmoepjfnfaaGreatMak
import Derived.Test.YtndofmoepjfnfaaGreatMax
import Derived.Test.YtndofmoepjfnfaaGreatMbd
import Derived.Test.YtndofmoepjfnfaaGreatMaj
import Derived.Deep.DeepCutAuto
import Derived.Deep.RegionLaw
import Derived.BigQuiet
import Derived.Deep.QuietTactic
namespace Go.Proofs.YtndofmoepjfnfaaGreat
open Go.RowKit
open Pt (Tx)

theorem Ten.grown2 {x y : World} {g o : Nat} {p : Ct.P} {row : Option Nat} (h : Ten x g o p) (hg : x.grownBy y row) (hne : some g ≠ row) : Ten y g o p := by
  obtain ⟨h0, h1, h2, h3, h4, h5, h6, h7, h8, h9⟩ := h
  have hl := World.block_lt_of_cell? _ _ h0
  have hb := hg.block g hl hne
  have hk : ∀ (q : Addr) u, q.block = g → x.cell? q = some u → y.cell? q = some u := fun q u hq hu => (World.cell?_of_block (by rw [hq]; exact hb)).trans hu
  exact ⟨hk _ _ rfl h0, hk _ _ rfl h1, hk _ _ rfl h2, hk _ _ rfl h3, hk _ _ rfl h4, hk _ _ rfl h5, hk _ _ rfl h6, hk _ _ rfl h7, hk _ _ rfl h8, hk _ _ rfl h9⟩
theorem file_set6 {w : World} {B : Nat} {P : Tx} {v z s r : Int} {b : Bool} {A : Option Addr} {m C : Nat} (h : w.heap[B]? = some (fileO P v z s r b A m C)) (A' : Option Addr) (m' C' : Nat) : (w.setCell ⟨B, 6, none⟩ (.slice A' m' C')).heap[B]? = some (fileO P v z s r b A' m' C') := by
  rw [heap_set h]; rfl
set_option maxRecDepth 100000 in
set_option maxHeartbeats 16000000 in
theorem refWhole_any (A : Option Addr) (ps : List Ct.P) (n C : Nat) (G : Nat → Prop) (w : World) (hn : n = ps.length) (hm : n ≤ 1000000) (hr : encQ.Rd w A ps G) (p : Ct.P) (hp0 : ps[0]? = some p) (hal : ∀ i (hi : i < ps.length), Ct.common ps[i].h = Ct.common p.h) (hlen : ∀ p ∈ ps, 0 ≤ p.h.len) (hsz : ∀ p ∈ ps, p.h.size ≤ 1000000000) :
    Calls Tryz.prog 21 #[.slice A n C] w (WholeA (Cf.whole ps) w) := by
  have h0p : 0 < ps.length := (List.getElem?_eq_some_iff.1 hp0).1
  have h0 : 0 < n := by omega
  obtain ⟨wa, hwa⟩ : ∃ x, x = w.alloc (fileO [] 0 0 0 0 false none 0 0) := ⟨_, rfl⟩
  have hba : Below w.heap.size w wa := by rw [hwa]; exact (Below.refl _ _).alloc (Nat.le_refl _) _
  have hka : wa.heap[w.heap.size]? = some (fileO [] 0 0 0 0 false none 0 0) := by rw [hwa]; exact Go.Deep.blk_alloc_new _ _
  have HW : Hid (wa = w.alloc (.cells #[.string ⟨#[]⟩, .int .i64 0, .int .i64 0, .int .i64 0, .int .i64 0, .bool false, .slice none 0 0] 45)) := Lib.hid hwa
  obtain ⟨b0, off, rfl, -, t1⟩ := ten_of (hr.old hba) h0p
  rw [Nat.zero_mul, Nat.add_zero] at t1
  have hp : p = ps[0] := (List.getElem?_eq_some_iff.1 hp0).2.symm
  have hWI := Cf.whole_is hp0
  have hzs := hsz ps[0] (List.getElem_mem h0p)
  rw [← hp] at t1 hzs
  obtain ⟨⟨P, v, z, f, l, s, m, g⟩, lab, at_⟩ := p
  dsimp only at hWI hzs
  obtain ⟨w2, hw2⟩ : ∃ x, x = wa.alloc (headObj P v z f l s m g) := ⟨_, rfl⟩
  have hb2 : Below wa.heap.size wa w2 := by rw [hw2]; exact (Below.refl _ _).alloc (Nat.le_refl _) _
  have hk2 : w2.heap[wa.heap.size]? = some (headObj P v z f l s m g) := by rw [hw2]; exact Go.Deep.blk_alloc_new _ _
  obtain ⟨w3, hw3⟩ : ∃ x, x = w2.alloc (fileO P v z m s g none 0 0) := ⟨_, rfl⟩
  have hb3 : Below w2.heap.size w2 w3 := by rw [hw3]; exact (Below.refl _ _).alloc (Nat.le_refl _) _
  have hk3 : w3.heap[w2.heap.size]? = some (fileO P v z m s g none 0 0) := by rw [hw3]; exact Go.Deep.blk_alloc_new _ _
  have has : wa.heap.size = w.heap.size + 1 := by rw [hwa]; simp
  have h2s : w2.heap.size = w.heap.size + 2 := by rw [hw2]; simp; omega
  have h3s : w3.heap.size = w.heap.size + 3 := by rw [hw3]; simp; omega
  rw [has] at hk2
  rw [h2s] at hk3
  have HW2 : Hid (w2 = wa.alloc (.cells #[.string (tx P), .int .i64 v, .int .i64 z, .int .i64 f, .int .i64 l, .int .i64 s, .int .i64 m, .bool g] 30)) := Lib.hid hw2
  have HW3 : Hid (w3 = w2.alloc (.cells #[.string (tx P), .int .i64 v, .int .i64 z, .int .i64 m, .int .i64 s, .bool g, .slice none 0 0] 45)) := Lib.hid hw3
  have HB3 := Lib.hid (hba.trans ((hb2.trans (hb3.mono hb2.size)).mono hba.size))
  have HKA := Lib.hid (below_obj' (hb2.trans (hb3.mono hb2.size)) hka)
  have HK2 := Lib.hid hk2
  have HH3 := Lib.hid (below_obj' hb3 hk2)
  have HF3 := Lib.hid hk3
  have HAS := Lib.hid has
  have H2S := Lib.hid h2s
  have H3S := Lib.hid h3s
  have HN := Lib.hid hn
  have HR := Lib.hid (hr.old hba |>.old hb2 |>.old hb3)
  have HRI : Hid (encQ.Rd w (some ⟨b0, off, none⟩) ps (· < w.heap.size)) := Lib.hid (fun hq => by
    obtain ⟨b, o, e, -, hc⟩ := hr hq
    exact ⟨b, o, e, World.block_lt_of_cell? _ _ (hc 0 hq 0 _ rfl), hc⟩)
  have HAL := Lib.hid hal
  have HLEN := Lib.hid hlen
  have HWI := Lib.hid hWI
  obtain ⟨c0, c1, c2, c3, c4, c5, c6, c7, c8, c9⟩ := t1
  dsimp only at c0 c1 c2 c3 c4 c5 c6 c7 c8 c9
  obtain ⟨a0, a1, a2, a3, a4, a5, a6, a7⟩ := head8 hk2
  have e0 : ((n : Int) == 0) = false := by rw [beq_eq_false_iff_ne]; omega
  have e0' : decide (0 < n) = true := decide_eq_true h0
  have h0i : (0 : Int) < (n : Int) := by omega
  have eP := tx_toList P
  clear hwa hba hka hn hr hal hlen hsz hWI hw2 hw3 hb2 hb3 hk2 hk3 has h2s h3s hp0 hp h0p
  go_enter Tryz.func21, Tryz.ntmps21
  go_upto_region 3 with fail
  rw [← HW.out]
  go_upto_region 4 with fail
  rw [← HW2.out, HAS.out]
  clear c0 c1 c2 c3 c4 c5 c6 c7 c8 c9
  go_upto_region 5 with fail
  rw [← HW3.out, H2S.out]
  clear a0 a1 a2 a3 a4 a5 a6 a7
  go_wp2
  go_loopw [6] (fun vi wr => ∃ i : Nat, i ≤ n ∧ vi = .int .i64 (i : Int) ∧ Hid (Below w3.heap.size w3 wr)) (fun vi _ => n - (intOf vi).toNat)
  case atStart => exact ⟨1, by omega, rfl, Lib.hid (Below.refl _ _)⟩
  case round =>
    obtain ⟨i, hi, rfl, HB⟩ := hrel
    obtain ⟨y0, y1, y2, y3, y4, y5, y6, y7⟩ := head8 (below_head HB.out HH3.out)
    by_cases hlt : i < n
    · have hlp : i < ps.length := by rw [← HN.out]; exact hlt
      obtain ⟨b0', off', hba, -, t1⟩ := ten_of (HR.out.old HB.out) hlp
      have hcm := HAL.out i hlp
      obtain ⟨q, hq⟩ : ∃ q, q = ps[i] := ⟨_, rfl⟩
      rw [← hq] at t1 hcm
      obtain ⟨⟨P1, v1, z1, f1, l1, s1, m1, g1⟩, lab1, at1⟩ := q
      obtain ⟨e1, e2, e3, e4, e5, e6⟩ : P1 = P ∧ v1 = v ∧ z1 = z ∧ s1 = s ∧ m1 = m ∧ g1 = g := by
        unfold Ct.common at hcm
        injection hcm with k1 k2 k3 k4 k5 k6 k7 k8
        exact ⟨k1, k2, k3, k6, k7, k8⟩
      subst e1 e2 e3 e4 e5 e6
      cases hba
      obtain ⟨c0, c1, c2, c3, c4, c5, c6, c7, c8, c9⟩ := t1
      dsimp only at c0 c1 c2 c3 c4 c5 c6 c7 c8 c9
      obtain ⟨w4, hw4⟩ : ∃ x, x = wr.alloc (headObj P1 v1 z1 f1 l1 s1 m1 g1) := ⟨_, rfl⟩
      have hb4 : Below wr.heap.size wr w4 := by rw [hw4]; exact (Below.refl _ _).alloc (Nat.le_refl _) _
      have hk4 : w4.heap[wr.heap.size]? = some (headObj P1 v1 z1 f1 l1 s1 m1 g1) := by rw [hw4]; exact Go.Deep.blk_alloc_new _ _
      have HW4 : Hid (w4 = wr.alloc (.cells #[.string (tx P1), .int .i64 v1, .int .i64 z1, .int .i64 f1, .int .i64 l1, .int .i64 s1, .int .i64 m1, .bool g1] 30)) := Lib.hid hw4
      have HB4 := Lib.hid (HB.out.trans (hb4.mono HB.out.size))
      obtain ⟨x0, x1, x2, x3, x4, x5, x6, x7⟩ := head8 hk4
      obtain ⟨u0, u1, u2, u3, u4, u5, u6, u7⟩ := head8 (below_head HB4.out HH3.out)
      clear hw4 hb4 hk4 hcm hq hlp y0 y1 y2 y3 y4 y5 y6 y7
      go_upto_region 9 with fail
      rw [← HW4.out]
      clear c0 c1 c2 c3 c4 c5 c6 c7 c8 c9
      go_wp2
      go_roundw
      case rel => exact ⟨i + 1, by omega, by go_num, HB4⟩
      case measure => simp [intOf]; omega
    · by_cases hz : z < 0
      · have dz : decide (z < 0) = true := decide_eq_true hz
        have HX : Hid (Cf.whole ps = none) := Lib.hid (by rw [HWI.out]; unfold Cf.row; rw [if_pos hz]; rfl)
        have HKR := Lib.hid (below_obj' HB.out HKA.out)
        have HBR := Lib.hid (HB3.out.trans (HB.out.mono HB3.out.size))
        obtain ⟨k0, k1, k2, k3, k4, k5, k6⟩ := file7 HKR.out
        obtain ⟨g0, g1', g2, g3, g4, g5, g6⟩ := file_free HKR.out
        go_wp2
        obtain ⟨z0, z1, z2, z3, z4, z5, z6⟩ := zero7 (seven_zero HKR.out)
        exact bodyPost_ret (v := .tuple #[.agg #[.string ⟨#[]⟩, .int .i64 0, .int .i64 0, .int .i64 0, .int .i64 0, .bool false, .slice none 0 0], .bool false]) (by simp [results, Tryz.results21, go_sem, z0, z1, z2, z3, z4, z5, z6]) rfl (WholeA.no HX.out (HBR.out.trans ((seven_kp _ w.heap.size _ _ _ _ _ _ _).below HBR.out.size fun k hk => by omega)))
      · have dz : decide (z < 0) = false := decide_eq_false hz
        have hrow : Cf.row ps z = Ct.walk ps z (z.toNat + 1 + n) 0 [] := by unfold Cf.row; rw [if_neg hz, HN.out]
        have HROW := Lib.hid hrow
        have HKR := Lib.hid (below_obj' HB.out HKA.out)
        have HHR := Lib.hid (below_head HB.out HH3.out)
        have HFR := Lib.hid (below_obj' HB.out HF3.out)
        have HBR := Lib.hid (HB3.out.trans (HB.out.mono HB3.out.size))
        have h3l : w.heap.size + 3 ≤ wr.heap.size := by have := HB.out.size; have := H3S.out; omega
        obtain ⟨wo, rfl⟩ : ∃ x, x = wr := ⟨wr, rfl⟩
        clear hrow HB HR
        go_wp2
        clear hlt hi
        go_loopw [8] (fun vc wr => ∃ (fu : Nat) (c : Int) (row : List Ct.P) (A' : Option Addr) (C' : Nat), vc = .int .i64 c ∧ 0 ≤ c ∧ c ≤ z ∧ z - c < (fu : Int) ∧ row.length + fu ≤ z.toNat + 1 + n ∧ Hid (Cf.row ps z = Ct.walk ps z fu c row) ∧ Hid (wr.heap[w.heap.size + 2]? = some (fileO P v z m s g A' row.length C')) ∧ Hid (encQ.Own wr (w.heap.size + 3) 74 (.slice A' row.length C') row) ∧ Hid (wr.heap[w.heap.size + 1]? = some (headObj P v z f l s m g)) ∧ Hid (wr.heap[w.heap.size]? = some (fileO [] 0 0 0 0 false none 0 0)) ∧ Hid (Below w.heap.size w wr) ∧ w.heap.size + 3 ≤ wr.heap.size) (fun vc _ => z.toNat - (intOf vc).toNat)
        case atStart => exact ⟨z.toNat + 1 + n, 0, [], none, 0, rfl, by omega, by omega, by omega, by simp, HROW, HFR, Lib.hid (Enc.Own.nil _ _ _), HHR, HKR, HBR, h3l⟩
        case round =>
          clear HROW HFR HHR HKR HBR h3l
          obtain ⟨fu, c, row, A', C', rfl, hc0, hcz, hfu, hrl, HROW, HF, HO, HH, HK, HB, h3l⟩ := hrel
          have HNUM : Hid (0 ≤ c ∧ c ≤ z ∧ z - c < (fu : Int) ∧ row.length + fu ≤ z.toNat + 1 + n ∧ w.heap.size + 3 ≤ wr.heap.size) := Lib.hid ⟨hc0, hcz, hfu, hrl, h3l⟩
          clear hc0 hcz hfu hrl h3l
          obtain ⟨wq, rfl⟩ : ∃ x, x = wr := ⟨wr, rfl⟩
          go_wp2
          go_loopw [9] (fun vk wx => ∃ (k : Nat), k ≤ n ∧ vk = .int .i64 (k : Int) ∧ Hid (∀ j (h : j < ps.length), j < k → Ct.goes z c ps[j] = false) ∧ Hid (wx = wq)) (fun vk _ => n - (intOf vk).toNat)
          case atStart => exact ⟨0, Nat.zero_le _, rfl, Lib.hid (fun j h hj => by omega), Lib.hid rfl⟩
          case round =>
            obtain ⟨k, hk, rfl, HNO, HWE⟩ := hrel
            obtain rfl := HWE.out
            have y2 := (head8 HH.out).2.2.1
            by_cases hlt : k < n
            · have hlp : k < ps.length := by rw [← HN.out]; exact hlt
              have hrd := HRI.out.keep (w' := wr) fun p u hp hc => (HB.out.cell hp).trans hc
              obtain ⟨b1, o1, hba, hb1, t1⟩ := ten_of hrd hlp
              have hll := HLEN.out ps[k] (List.getElem_mem hlp)
              have hgn : (ps[k].h.from_ ≠ c ∨ (0 < z ∧ ps[k].h.len ≤ 0)) → ∀ j (h : j < ps.length), j < k + 1 → Ct.goes z c ps[j] = false := fun h j hj hjk => by
                by_cases e : j = k
                · subst e; exact Cf.goes_not h
                · exact HNO.out j hj (by omega)
              have hgy : ps[k].h.from_ = c → ¬ (0 < z ∧ ps[k].h.len ≤ 0) → Ct.first ps z c = some k := fun h h2 => Cf.first_some hlp HNO.out (Cf.goes_yes h h2)
              have hkg : ps[k]? = some ps[k] := List.getElem?_eq_getElem hlp
              obtain ⟨q, hq⟩ : ∃ q, q = ps[k] := ⟨_, rfl⟩
              rw [← hq] at t1 hll hgn hgy hkg
              obtain ⟨⟨P1, v1, z1, f1, l1, s1, m1, g1⟩, lab1, at1⟩ := q
              dsimp only at hll hgn hgy
              cases hba
              have HT1 := Lib.hid t1
              have c3 : wr.cell? ⟨b0, off + k * 10 + 3, none⟩ = some (.int .i64 f1) := t1.2.2.2.1
              have c4 : wr.cell? ⟨b0, off + k * 10 + 4, none⟩ = some (.int .i64 l1) := t1.2.2.2.2.1
              clear t1
              have HGN := Lib.hid hgn
              have HGY := Lib.hid hgy
              have HKG := Lib.hid hkg
              have HB1 := Lib.hid hb1
              clear hgn hgy hkg hq hlp hrd hb1
              by_cases h1 : f1 = c
              · have b1 : (f1 == c) = true := beq_iff_eq.2 h1
                have H1 := Lib.hid h1
                have hex : ((z == 0) = true ∧ Ct.first ps z c = some k) ∨ ((z == 0) = false ∧ decide (0 < l1) = true ∧ Ct.first ps z c = some k) ∨ ((z == 0) = false ∧ decide (0 < l1) = false ∧ (0 < z ∧ l1 ≤ 0)) := by
                  by_cases h2 : z = 0
                  · exact .inl ⟨beq_iff_eq.2 h2, HGY.out h1 (by omega)⟩
                  · by_cases h3 : 0 < l1
                    · exact .inr (.inl ⟨beq_eq_false_iff_ne.2 h2, decide_eq_true h3, HGY.out h1 (by omega)⟩)
                    · exact .inr (.inr ⟨beq_eq_false_iff_ne.2 h2, decide_eq_false h3, by omega⟩)
                clear h1 HGY
                rcases hex with ⟨bz, hfi⟩ | ⟨bz, bl, hfi⟩ | ⟨bz, bl, hcon⟩
                · have e1 : ((k : Int) == (n : Int)) = false := by rw [beq_eq_false_iff_ne]; omega
                  have e2 : decide (l1 < 0) = false := decide_eq_false (by omega)
                  have hw1 : IntKind.i64.wrap (z - c) = z - c := by have hq := HNUM.out; rw [IntKind.wrap_i64]; omega
                  obtain ⟨fv, rfl⟩ : ∃ fv, fu = fv + 1 := ⟨fu - 1, by have hq := HNUM.out; omega⟩
                  have hws := Ct.walk_some (f := fv) (r := row) hfi HKG.out
                  dsimp only at hws
                  have HWS := Lib.hid hws
                  have hlpos : z = 0 := by simpa using bz
                  have HLP := Lib.hid hlpos
                  clear hws hfi hlpos
                  by_cases h3 : z - c < l1
                  · have e3 : decide (z - c < l1) = true := decide_eq_true h3
                    have HX : Hid (Cf.whole ps = none) := Lib.hid (by
                      rw [HWI.out, HROW.out, HWS.out, if_pos (by have := H1.out; omega)]; rfl)
                    go_upto_region 17 with fail
                    go_cut [143] (fun vt wx => vt = .bool true ∧ Hid (Below wr.heap.size wr wx))
                    case first =>
                      go_quiet (fail)
                      go_wp2
                      go_meet
                      exact ⟨rfl, Lib.hid ⟨rfl, rfl, rfl, Nat.le_refl _, fun _ _ => rfl⟩⟩
                    case rest =>
                    obtain ⟨rfl, HBC⟩ := hcut
                    obtain ⟨w5, rfl⟩ : ∃ x, x = wc := ⟨wc, rfl⟩
                    have hbq := HBC.out
                    have HKQ := Lib.hid (below_obj' hbq HK.out)
                    have HBQ := Lib.hid (HB.out.trans (hbq.mono HB.out.size))
                    clear hbq y2 c3 c4
                    obtain ⟨k0, k1, k2, k3, k4, k5, k6⟩ := file7 HKQ.out
                    obtain ⟨g0, g1', g2, g3, g4, g5, g6⟩ := file_free HKQ.out
                    repeat (first | go_values | go_skip | go_guarded | go_step | go_upon)
                    obtain ⟨z0, z1, z2, z3, z4, z5, z6⟩ := zero7 (seven_zero HKQ.out)
                    exact bodyPost_ret (v := .tuple #[.agg #[.string ⟨#[]⟩, .int .i64 0, .int .i64 0, .int .i64 0, .int .i64 0, .bool false, .slice none 0 0], .bool false]) (by simp [results, Tryz.results21, go_sem, z0, z1, z2, z3, z4, z5, z6]) rfl (WholeA.no HX.out (HBQ.out.trans ((seven_kp _ w.heap.size _ _ _ _ _ _ _).below HBQ.out.size fun k hk => by omega)))
                  · have e3 : decide (z - c < l1) = false := decide_eq_false h3
                    go_upto_region 17 with fail
                    go_cut [143] (fun vt wx => vt = .bool false ∧ Hid (Below wr.heap.size wr wx))
                    case first =>
                      go_quiet (fail)
                      go_wp2
                      go_meet
                      exact ⟨rfl, Lib.hid ⟨rfl, rfl, rfl, Nat.le_refl _, fun _ _ => rfl⟩⟩
                    case rest =>
                    obtain ⟨rfl, HBC⟩ := hcut
                    obtain ⟨w5, rfl⟩ : ∃ x, x = wc := ⟨wc, rfl⟩
                    have hbq := HBC.out
                    have HKQ := Lib.hid (below_obj' hbq HK.out)
                    have HFQ := Lib.hid (below_obj' hbq HF.out)
                    have HHQ := Lib.hid (below_head hbq HH.out)
                    have HOQ := Lib.hid (HO.out.old hbq)
                    have HTQ := Lib.hid (HT1.out.old hbq)
                    have HBQ := Lib.hid (HB.out.trans (hbq.mono HB.out.size))
                    have h5l : w.heap.size + 3 ≤ w5.heap.size := Nat.le_trans HNUM.out.2.2.2.2 hbq.size
                    clear hbq y2 c3 c4
                    have hbS : Below w5.heap.size w5 ((w5.alloc (.cells (cells10 ⟨P1, v1, z1, f1, l1, s1, m1, g1⟩ lab1 at1).toArray 74)).drew) := ((Below.refl _ _).alloc (Nat.le_refl _) _).drew
                    have hOS := HOQ.out.old hbS
                    obtain ⟨v', x, hrun, hO, hg⟩ := apE_run (P := Tryz.prog) encQ ((w5.alloc (.cells (cells10 ⟨P1, v1, z1, f1, l1, s1, m1, g1⟩ lab1 at1).toArray 74)).drew) 43 (w.heap.size + 3) 74 _ 88 Tryz.underlying43 infoPart rfl (.slice A' row.length C') row hOS ⟨w5.heap.size, 0, none⟩ 1 1 [⟨⟨P1, v1, z1, f1, l1, s1, m1, g1⟩, lab1, at1⟩] rfl (newCells w5 (cells10 ⟨P1, v1, z1, f1, l1, s1, m1, g1⟩ lab1 at1) _) (by have hq := HNUM.out; unfold maxLen; omega) (by have hq := HNUM.out; omega) (by have := hbS.size; omega)
                    obtain ⟨A2, C2, hv2, -⟩ := hO.rd
                    rw [List.length_append, List.length_singleton] at hv2
                    subst hv2
                    have hkx : Kp (fun q => (Value.slice A' row.length C').ownBlock = some q) w5 x := (Kp.of_below hbS).grown hg fun q e => e
                    have hno : ∀ {q : Nat}, q < w.heap.size + 3 → ¬ (Value.slice A' row.length C').ownBlock = some q := fun {q} hq e => by
                      have := (hOS.lt q e).1
                      omega
                    have HFX := Lib.hid ((hkx.block _ (heap_lt HFQ.out) (hno (by omega))).trans HFQ.out)
                    have HHX := Lib.hid ((hkx.block _ (heap_lt HHQ.out) (hno (by omega))).trans HHQ.out)
                    have HKX := Lib.hid ((hkx.block _ (heap_lt HKQ.out) (hno (by omega))).trans HKQ.out)
                    have hx6 : x.cell? ⟨w.heap.size + 2, 6, none⟩ = some (.slice A' row.length C') := (file7 HFX.out).2.2.2.2.2.2
                    have hxf : x.frozen? ⟨w.heap.size + 2, 6, none⟩ = false := heap_frozen HFX.out
                    obtain ⟨w6, hw6⟩ : ∃ y, y = x.setCell ⟨w.heap.size + 2, 6, none⟩ (.slice A2 (row.length + 1) C2) := ⟨_, rfl⟩
                    have hk6 : Kp (· = w.heap.size + 2) x w6 := by rw [hw6]; exact Kp.store _ _ _ _
                    have HF6 : Hid (w6.heap[w.heap.size + 2]? = some (fileO P v z m s g A2 (row.length + 1) C2)) := Lib.hid (by rw [hw6]; exact file_set6 HFX.out _ _ _)
                    have HH6 := Lib.hid ((hk6.block _ (heap_lt HHX.out) (by omega)).trans HHX.out)
                    have HK6 := Lib.hid ((hk6.block _ (heap_lt HKX.out) (by omega)).trans HKX.out)
                    have HO6 : Hid (encQ.Own w6 (w.heap.size + 3) 74 (.slice A2 (row.length + 1) C2) (row ++ [⟨⟨P1, v1, z1, f1, l1, s1, m1, g1⟩, lab1, at1⟩])) := Lib.hid (hO.of_block fun q e => hk6.block q (hO.lt q e).2 (by have := (hO.lt q e).1; omega))
                    have HB6 := Lib.hid ((HBQ.out.trans (hkx.below HBQ.out.size fun q e => by have := (hOS.lt q e).1; omega)).trans (hk6.below (Nat.le_trans HBQ.out.size hkx.size) fun q e => by omega))
                    have h6l : w.heap.size + 3 ≤ w6.heap.size := Nat.le_trans h5l (Nat.le_trans hkx.size hk6.size)
                    have H6L := Lib.hid h6l
                    clear h6l
                    have HT6 : Hid (w6.cell? ⟨b0, off + k * 10 + 4, none⟩ = some (.int .i64 l1)) := Lib.hid (hk6.cell (hkx.cell HTQ.out.2.2.2.2.1 (hno (q := b0) (by have : b0 < w.heap.size := HB1.out; omega))) (by have : b0 < w.heap.size := HB1.out; show ¬ b0 = w.heap.size + 2; omega))
                    have q6 : w5.cell? ⟨w.heap.size + 2, 6, none⟩ = some (.slice A' row.length C') := (file7 HFQ.out).2.2.2.2.2.2
                    have q6s : ((w5.alloc (.cells #[.string (tx P1), .int .i64 v1, .int .i64 z1, .int .i64 f1, .int .i64 l1, .int .i64 s1, .int .i64 m1, .bool g1, .int .i64 lab1, .int .i64 at1] 74)).drew).cell? ⟨w.heap.size + 2, 6, none⟩ = some (.slice A' row.length C') := (file7 (below_obj' hbS HFQ.out)).2.2.2.2.2.2
                    obtain ⟨c0, c1, c2, c3, c4, c5, c6, c7, c8, c9⟩ := HTQ.out
                    dsimp only at c0 c1 c2 c3 c4 c5 c6 c7 c8 c9
                    have hrun' : ∀ ty, (Builtin.append_ #[43, 43] ty #[.slice A' row.length C', .slice (some ⟨w5.heap.size, 0, none⟩) 1 1]).run Tryz.prog ((w5.alloc (.cells #[.string (tx P1), .int .i64 v1, .int .i64 z1, .int .i64 f1, .int .i64 l1, .int .i64 s1, .int .i64 m1, .bool g1, .int .i64 lab1, .int .i64 at1] 74)).drew) = .ok (.slice A2 (row.length + 1) C2) x := hrun
                    have HRUN := Lib.hid hrun'
                    have HW6 := Lib.hid hw6
                    have H5L := Lib.hid h5l
                    clear h5l
                    clear hbS hrun hrun' hO hg hkx hk6 hw6 hno hOS
                    have hend : (c + l1 == z) = true ∧ c + l1 = z ∨ (c + l1 == z) = false ∧ c + l1 ≠ z := by
                      by_cases e : c + l1 = z
                      · exact .inl ⟨beq_iff_eq.2 e, e⟩
                      · exact .inr ⟨beq_eq_false_iff_ne.2 e, e⟩
                    have HEND := Lib.hid hend
                    have hwl : IntKind.i64.wrap (c + l1) = c + l1 := by have hq := HNUM.out; rw [IntKind.wrap_i64]; omega
                    clear hend
                    go_upto_region 19 with fail
                    go_region_law (refine step_append_eq (by rfl) _ _ _ _ (by rfl) _ _ _ _ HRUN.out (by rfl) (by rfl) ?_)
                    all_goals
                      go_upto_region 20 with fail
                      rw [← HW6.out]
                      clear c0 c1 c2 c3 c4 c5 c6 c7 c8 c9 q6 q6s hx6 hxf
                      have t6 := HT6.out
                      have y2 := (head8 HH6.out).2.2.1
                      rcases HEND.out with ⟨p1, hp⟩ | ⟨p1, hp⟩
                      · have HX : Hid (Cf.whole ps = some ⟨P, v, z, m, s, g, row ++ [⟨⟨P1, v1, z1, f1, l1, s1, m1, g1⟩, lab1, at1⟩]⟩) := Lib.hid (by
                          rw [HWI.out, HROW.out, HWS.out, H1.out, if_neg (by omega), if_pos hp]; rfl)
                        go_upto_region 22 with fail
                        obtain ⟨x0, x1, x2, x3, x4, x5, x6⟩ := file7 HF6.out
                        obtain ⟨k0, k1, k2, k3, k4, k5, k6⟩ := file7 HK6.out
                        obtain ⟨g0, g1', g2, g3, g4, g5, g6⟩ := file_free HK6.out
                        clear hp t6 y2
                        repeat (first | go_values | go_skip | go_guarded | go_step | go_upon)
                        obtain ⟨z0, z1, z2, z3, z4, z5, z6⟩ := file7 (seven_set HK6.out P v z m s g A2 (row.length + 1) C2)
                        refine bodyPost_ret (v := .tuple #[.agg #[.string (tx P), .int .i64 v, .int .i64 z, .int .i64 m, .int .i64 s, .bool g, .slice A2 (row.length + 1) C2], .bool true]) (by simp [results, Tryz.results21, go_sem, z0, z1, z2, z3, z4, z5, z6]) rfl (WholeA.yes HX.out (by simp) ?_ (HB6.out.trans ((seven_kp w6 w.heap.size _ _ _ _ _ _ _).below HB6.out.size fun q hq => by omega)))
                        refine own_lower (HO6.out.of_block fun q hq => (seven_kp w6 w.heap.size _ _ _ _ _ _ _).block q (HO6.out.lt q hq).2 fun e => ?_) (by omega)
                        have h1 := (HO6.out.lt q hq).1
                        omega
                      · have HROW2 : Hid (Cf.row ps z = Ct.walk ps z fv (c + l1) (row ++ [⟨⟨P1, v1, z1, f1, l1, s1, m1, g1⟩, lab1, at1⟩])) := Lib.hid (by
                          rw [HROW.out, HWS.out, H1.out, if_neg (by omega), if_neg hp])
                        have hl9 : 0 < l1 := by have := HLP.out; have hq := HNUM.out; omega
                        have HF9 : Hid (w6.heap[w.heap.size + 2]? = some (fileO P v z m s g A2 (row ++ [(⟨⟨P1, v1, z1, f1, l1, s1, m1, g1⟩, lab1, at1⟩ : Ct.P)]).length C2)) := Lib.hid (by rw [List.length_append, List.length_singleton]; exact HF6.out)
                        have HO9 : Hid (encQ.Own w6 (w.heap.size + 3) 74 (.slice A2 (row ++ [(⟨⟨P1, v1, z1, f1, l1, s1, m1, g1⟩, lab1, at1⟩ : Ct.P)]).length C2) (row ++ [⟨⟨P1, v1, z1, f1, l1, s1, m1, g1⟩, lab1, at1⟩])) := Lib.hid (by rw [List.length_append, List.length_singleton]; exact HO6.out)
                        clear hp
                        go_wp2
                        go_roundw
                        case rel => exact ⟨fv, c + l1, _, A2, C2, rfl, by have hq := HNUM.out; omega, by have hq := HNUM.out; omega, by have hq := HNUM.out; omega, by have hq := HNUM.out; rw [List.length_append, List.length_singleton]; omega, HROW2, HF9, HO9, HH6, HK6, HB6, H6L.out⟩
                        case measure => have hq := HNUM.out; simp [intOf]; omega
                · have e1 : ((k : Int) == (n : Int)) = false := by rw [beq_eq_false_iff_ne]; omega
                  have e2 : decide (l1 < 0) = false := decide_eq_false (by omega)
                  have hw1 : IntKind.i64.wrap (z - c) = z - c := by have hq := HNUM.out; rw [IntKind.wrap_i64]; omega
                  obtain ⟨fv, rfl⟩ : ∃ fv, fu = fv + 1 := ⟨fu - 1, by have hq := HNUM.out; omega⟩
                  have hws := Ct.walk_some (f := fv) (r := row) hfi HKG.out
                  dsimp only at hws
                  have HWS := Lib.hid hws
                  have hlpos : 0 < l1 := of_decide_eq_true bl
                  have HLP := Lib.hid hlpos
                  clear hws hfi hlpos
                  by_cases h3 : z - c < l1
                  · have e3 : decide (z - c < l1) = true := decide_eq_true h3
                    have HX : Hid (Cf.whole ps = none) := Lib.hid (by
                      rw [HWI.out, HROW.out, HWS.out, if_pos (by have := H1.out; omega)]; rfl)
                    go_upto_region 17 with fail
                    go_cut [143] (fun vt wx => vt = .bool true ∧ Hid (Below wr.heap.size wr wx))
                    case first =>
                      go_quiet (fail)
                      go_wp2
                      go_meet
                      exact ⟨rfl, Lib.hid ⟨rfl, rfl, rfl, Nat.le_refl _, fun _ _ => rfl⟩⟩
                    case rest =>
                    obtain ⟨rfl, HBC⟩ := hcut
                    obtain ⟨w5, rfl⟩ : ∃ x, x = wc := ⟨wc, rfl⟩
                    have hbq := HBC.out
                    have HKQ := Lib.hid (below_obj' hbq HK.out)
                    have HBQ := Lib.hid (HB.out.trans (hbq.mono HB.out.size))
                    clear hbq y2 c3 c4
                    obtain ⟨k0, k1, k2, k3, k4, k5, k6⟩ := file7 HKQ.out
                    obtain ⟨g0, g1', g2, g3, g4, g5, g6⟩ := file_free HKQ.out
                    repeat (first | go_values | go_skip | go_guarded | go_step | go_upon)
                    obtain ⟨z0, z1, z2, z3, z4, z5, z6⟩ := zero7 (seven_zero HKQ.out)
                    exact bodyPost_ret (v := .tuple #[.agg #[.string ⟨#[]⟩, .int .i64 0, .int .i64 0, .int .i64 0, .int .i64 0, .bool false, .slice none 0 0], .bool false]) (by simp [results, Tryz.results21, go_sem, z0, z1, z2, z3, z4, z5, z6]) rfl (WholeA.no HX.out (HBQ.out.trans ((seven_kp _ w.heap.size _ _ _ _ _ _ _).below HBQ.out.size fun k hk => by omega)))
                  · have e3 : decide (z - c < l1) = false := decide_eq_false h3
                    go_upto_region 17 with fail
                    go_cut [143] (fun vt wx => vt = .bool false ∧ Hid (Below wr.heap.size wr wx))
                    case first =>
                      go_quiet (fail)
                      go_wp2
                      go_meet
                      exact ⟨rfl, Lib.hid ⟨rfl, rfl, rfl, Nat.le_refl _, fun _ _ => rfl⟩⟩
                    case rest =>
                    obtain ⟨rfl, HBC⟩ := hcut
                    obtain ⟨w5, rfl⟩ : ∃ x, x = wc := ⟨wc, rfl⟩
                    have hbq := HBC.out
                    have HKQ := Lib.hid (below_obj' hbq HK.out)
                    have HFQ := Lib.hid (below_obj' hbq HF.out)
                    have HHQ := Lib.hid (below_head hbq HH.out)
                    have HOQ := Lib.hid (HO.out.old hbq)
                    have HTQ := Lib.hid (HT1.out.old hbq)
                    have HBQ := Lib.hid (HB.out.trans (hbq.mono HB.out.size))
                    have h5l : w.heap.size + 3 ≤ w5.heap.size := Nat.le_trans HNUM.out.2.2.2.2 hbq.size
                    clear hbq y2 c3 c4
                    have hbS : Below w5.heap.size w5 ((w5.alloc (.cells (cells10 ⟨P1, v1, z1, f1, l1, s1, m1, g1⟩ lab1 at1).toArray 74)).drew) := ((Below.refl _ _).alloc (Nat.le_refl _) _).drew
                    have hOS := HOQ.out.old hbS
                    obtain ⟨v', x, hrun, hO, hg⟩ := apE_run (P := Tryz.prog) encQ ((w5.alloc (.cells (cells10 ⟨P1, v1, z1, f1, l1, s1, m1, g1⟩ lab1 at1).toArray 74)).drew) 43 (w.heap.size + 3) 74 _ 88 Tryz.underlying43 infoPart rfl (.slice A' row.length C') row hOS ⟨w5.heap.size, 0, none⟩ 1 1 [⟨⟨P1, v1, z1, f1, l1, s1, m1, g1⟩, lab1, at1⟩] rfl (newCells w5 (cells10 ⟨P1, v1, z1, f1, l1, s1, m1, g1⟩ lab1 at1) _) (by have hq := HNUM.out; unfold maxLen; omega) (by have hq := HNUM.out; omega) (by have := hbS.size; omega)
                    obtain ⟨A2, C2, hv2, -⟩ := hO.rd
                    rw [List.length_append, List.length_singleton] at hv2
                    subst hv2
                    have hkx : Kp (fun q => (Value.slice A' row.length C').ownBlock = some q) w5 x := (Kp.of_below hbS).grown hg fun q e => e
                    have hno : ∀ {q : Nat}, q < w.heap.size + 3 → ¬ (Value.slice A' row.length C').ownBlock = some q := fun {q} hq e => by
                      have := (hOS.lt q e).1
                      omega
                    have HFX := Lib.hid ((hkx.block _ (heap_lt HFQ.out) (hno (by omega))).trans HFQ.out)
                    have HHX := Lib.hid ((hkx.block _ (heap_lt HHQ.out) (hno (by omega))).trans HHQ.out)
                    have HKX := Lib.hid ((hkx.block _ (heap_lt HKQ.out) (hno (by omega))).trans HKQ.out)
                    have hx6 : x.cell? ⟨w.heap.size + 2, 6, none⟩ = some (.slice A' row.length C') := (file7 HFX.out).2.2.2.2.2.2
                    have hxf : x.frozen? ⟨w.heap.size + 2, 6, none⟩ = false := heap_frozen HFX.out
                    obtain ⟨w6, hw6⟩ : ∃ y, y = x.setCell ⟨w.heap.size + 2, 6, none⟩ (.slice A2 (row.length + 1) C2) := ⟨_, rfl⟩
                    have hk6 : Kp (· = w.heap.size + 2) x w6 := by rw [hw6]; exact Kp.store _ _ _ _
                    have HF6 : Hid (w6.heap[w.heap.size + 2]? = some (fileO P v z m s g A2 (row.length + 1) C2)) := Lib.hid (by rw [hw6]; exact file_set6 HFX.out _ _ _)
                    have HH6 := Lib.hid ((hk6.block _ (heap_lt HHX.out) (by omega)).trans HHX.out)
                    have HK6 := Lib.hid ((hk6.block _ (heap_lt HKX.out) (by omega)).trans HKX.out)
                    have HO6 : Hid (encQ.Own w6 (w.heap.size + 3) 74 (.slice A2 (row.length + 1) C2) (row ++ [⟨⟨P1, v1, z1, f1, l1, s1, m1, g1⟩, lab1, at1⟩])) := Lib.hid (hO.of_block fun q e => hk6.block q (hO.lt q e).2 (by have := (hO.lt q e).1; omega))
                    have HB6 := Lib.hid ((HBQ.out.trans (hkx.below HBQ.out.size fun q e => by have := (hOS.lt q e).1; omega)).trans (hk6.below (Nat.le_trans HBQ.out.size hkx.size) fun q e => by omega))
                    have h6l : w.heap.size + 3 ≤ w6.heap.size := Nat.le_trans h5l (Nat.le_trans hkx.size hk6.size)
                    have H6L := Lib.hid h6l
                    clear h6l
                    have HT6 : Hid (w6.cell? ⟨b0, off + k * 10 + 4, none⟩ = some (.int .i64 l1)) := Lib.hid (hk6.cell (hkx.cell HTQ.out.2.2.2.2.1 (hno (q := b0) (by have : b0 < w.heap.size := HB1.out; omega))) (by have : b0 < w.heap.size := HB1.out; show ¬ b0 = w.heap.size + 2; omega))
                    have q6 : w5.cell? ⟨w.heap.size + 2, 6, none⟩ = some (.slice A' row.length C') := (file7 HFQ.out).2.2.2.2.2.2
                    have q6s : ((w5.alloc (.cells #[.string (tx P1), .int .i64 v1, .int .i64 z1, .int .i64 f1, .int .i64 l1, .int .i64 s1, .int .i64 m1, .bool g1, .int .i64 lab1, .int .i64 at1] 74)).drew).cell? ⟨w.heap.size + 2, 6, none⟩ = some (.slice A' row.length C') := (file7 (below_obj' hbS HFQ.out)).2.2.2.2.2.2
                    obtain ⟨c0, c1, c2, c3, c4, c5, c6, c7, c8, c9⟩ := HTQ.out
                    dsimp only at c0 c1 c2 c3 c4 c5 c6 c7 c8 c9
                    have hrun' : ∀ ty, (Builtin.append_ #[43, 43] ty #[.slice A' row.length C', .slice (some ⟨w5.heap.size, 0, none⟩) 1 1]).run Tryz.prog ((w5.alloc (.cells #[.string (tx P1), .int .i64 v1, .int .i64 z1, .int .i64 f1, .int .i64 l1, .int .i64 s1, .int .i64 m1, .bool g1, .int .i64 lab1, .int .i64 at1] 74)).drew) = .ok (.slice A2 (row.length + 1) C2) x := hrun
                    have HRUN := Lib.hid hrun'
                    have HW6 := Lib.hid hw6
                    have H5L := Lib.hid h5l
                    clear h5l
                    clear hbS hrun hrun' hO hg hkx hk6 hw6 hno hOS
                    have hend : (c + l1 == z) = true ∧ c + l1 = z ∨ (c + l1 == z) = false ∧ c + l1 ≠ z := by
                      by_cases e : c + l1 = z
                      · exact .inl ⟨beq_iff_eq.2 e, e⟩
                      · exact .inr ⟨beq_eq_false_iff_ne.2 e, e⟩
                    have HEND := Lib.hid hend
                    have hwl : IntKind.i64.wrap (c + l1) = c + l1 := by have hq := HNUM.out; rw [IntKind.wrap_i64]; omega
                    clear hend
                    go_upto_region 19 with fail
                    go_region_law (refine step_append_eq (by rfl) _ _ _ _ (by rfl) _ _ _ _ HRUN.out (by rfl) (by rfl) ?_)
                    all_goals
                      go_upto_region 20 with fail
                      rw [← HW6.out]
                      clear c0 c1 c2 c3 c4 c5 c6 c7 c8 c9 q6 q6s hx6 hxf
                      have t6 := HT6.out
                      have y2 := (head8 HH6.out).2.2.1
                      rcases HEND.out with ⟨p1, hp⟩ | ⟨p1, hp⟩
                      · have HX : Hid (Cf.whole ps = some ⟨P, v, z, m, s, g, row ++ [⟨⟨P1, v1, z1, f1, l1, s1, m1, g1⟩, lab1, at1⟩]⟩) := Lib.hid (by
                          rw [HWI.out, HROW.out, HWS.out, H1.out, if_neg (by omega), if_pos hp]; rfl)
                        go_upto_region 22 with fail
                        obtain ⟨x0, x1, x2, x3, x4, x5, x6⟩ := file7 HF6.out
                        obtain ⟨k0, k1, k2, k3, k4, k5, k6⟩ := file7 HK6.out
                        obtain ⟨g0, g1', g2, g3, g4, g5, g6⟩ := file_free HK6.out
                        clear hp t6 y2
                        repeat (first | go_values | go_skip | go_guarded | go_step | go_upon)
                        obtain ⟨z0, z1, z2, z3, z4, z5, z6⟩ := file7 (seven_set HK6.out P v z m s g A2 (row.length + 1) C2)
                        refine bodyPost_ret (v := .tuple #[.agg #[.string (tx P), .int .i64 v, .int .i64 z, .int .i64 m, .int .i64 s, .bool g, .slice A2 (row.length + 1) C2], .bool true]) (by simp [results, Tryz.results21, go_sem, z0, z1, z2, z3, z4, z5, z6]) rfl (WholeA.yes HX.out (by simp) ?_ (HB6.out.trans ((seven_kp w6 w.heap.size _ _ _ _ _ _ _).below HB6.out.size fun q hq => by omega)))
                        refine own_lower (HO6.out.of_block fun q hq => (seven_kp w6 w.heap.size _ _ _ _ _ _ _).block q (HO6.out.lt q hq).2 fun e => ?_) (by omega)
                        have h1 := (HO6.out.lt q hq).1
                        omega
                      · have HROW2 : Hid (Cf.row ps z = Ct.walk ps z fv (c + l1) (row ++ [⟨⟨P1, v1, z1, f1, l1, s1, m1, g1⟩, lab1, at1⟩])) := Lib.hid (by
                          rw [HROW.out, HWS.out, H1.out, if_neg (by omega), if_neg hp])
                        have hl9 : 0 < l1 := by exact HLP.out
                        have HF9 : Hid (w6.heap[w.heap.size + 2]? = some (fileO P v z m s g A2 (row ++ [(⟨⟨P1, v1, z1, f1, l1, s1, m1, g1⟩, lab1, at1⟩ : Ct.P)]).length C2)) := Lib.hid (by rw [List.length_append, List.length_singleton]; exact HF6.out)
                        have HO9 : Hid (encQ.Own w6 (w.heap.size + 3) 74 (.slice A2 (row ++ [(⟨⟨P1, v1, z1, f1, l1, s1, m1, g1⟩, lab1, at1⟩ : Ct.P)]).length C2) (row ++ [⟨⟨P1, v1, z1, f1, l1, s1, m1, g1⟩, lab1, at1⟩])) := Lib.hid (by rw [List.length_append, List.length_singleton]; exact HO6.out)
                        clear hp
                        go_wp2
                        go_roundw
                        case rel => exact ⟨fv, c + l1, _, A2, C2, rfl, by have hq := HNUM.out; omega, by have hq := HNUM.out; omega, by have hq := HNUM.out; omega, by have hq := HNUM.out; rw [List.length_append, List.length_singleton]; omega, HROW2, HF9, HO9, HH6, HK6, HB6, H6L.out⟩
                        case measure => have hq := HNUM.out; simp [intOf]; omega
                · have HN2 := Lib.hid (HGN.out (.inr hcon))
                  clear hcon
                  go_wp2
                  go_roundw
                  case rel => exact ⟨k + 1, by omega, by go_num, HN2, trivial⟩
                  case measure => simp [intOf]; omega
              · have b1 : (f1 == c) = false := beq_eq_false_iff_ne.2 h1
                have HN2 := Lib.hid (HGN.out (.inl h1))
                clear h1
                go_wp2
                go_roundw
                case rel => exact ⟨k + 1, by omega, by go_num, HN2, trivial⟩
                case measure => simp [intOf]; omega
            · have hkn : k = n := by omega
              have dk : decide (k < n) = false := decide_eq_false hlt
              have e1 : ((k : Int) == (n : Int)) = true := by rw [beq_iff_eq]; omega
              have HX : Hid (Cf.whole ps = none) := Lib.hid (by
                rw [HWI.out, HROW.out, Cf.walk_none (Cf.first_none fun j hj => HNO.out j hj (by rw [hkn, HN.out]; exact hj))]; rfl)
              clear hkn
              go_upto_region 17 with fail
              go_cut [143] (fun vt wx => vt = .bool true ∧ Hid (Below wr.heap.size wr wx))
              case first =>
                go_quiet (fail)
                go_wp2
                go_meet
                exact ⟨rfl, Lib.hid ⟨rfl, rfl, rfl, Nat.le_refl _, fun _ _ => rfl⟩⟩
              case rest =>
              obtain ⟨rfl, HBC⟩ := hcut
              obtain ⟨w5, rfl⟩ : ∃ x, x = wc := ⟨wc, rfl⟩
              have hbq := HBC.out
              have HKQ := Lib.hid (below_obj' hbq HK.out)
              have HBQ := Lib.hid (HB.out.trans (hbq.mono HB.out.size))
              clear hbq y2
              obtain ⟨k0, k1, k2, k3, k4, k5, k6⟩ := file7 HKQ.out
              obtain ⟨g0, g1', g2, g3, g4, g5, g6⟩ := file_free HKQ.out
              repeat (first | go_values | go_skip | go_guarded | go_step | go_upon)
              obtain ⟨z0, z1, z2, z3, z4, z5, z6⟩ := zero7 (seven_zero HKQ.out)
              exact bodyPost_ret (v := .tuple #[.agg #[.string ⟨#[]⟩, .int .i64 0, .int .i64 0, .int .i64 0, .int .i64 0, .bool false, .slice none 0 0], .bool false]) (by simp [results, Tryz.results21, go_sem, z0, z1, z2, z3, z4, z5, z6]) rfl (WholeA.no HX.out (HBQ.out.trans ((seven_kp _ w.heap.size _ _ _ _ _ _ _).below HBQ.out.size fun k hk => by omega)))
end Go.Proofs.YtndofmoepjfnfaaGreat
