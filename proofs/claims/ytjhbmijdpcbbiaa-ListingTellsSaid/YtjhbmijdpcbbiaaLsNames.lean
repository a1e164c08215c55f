/- What Names of package listing answers: the paths that have a newest, in order. -/
import Derived.Test.YtjhbmijdpcbbiaaLsMap
import Derived.Test.YtjhbmijdpcbbiaaLsSort
import Derived.Test.YtjhbmijdpcbbiaaLsNew
import Derived.Laws.AppendOwn
import Derived.Maps.AppendAt
namespace Go.Proofs.Ytjhbmijdpcbbiaa
open Go.RowKit Go.Maps
open Pt (Tx)

theorem infoText18 : (Try.prog.info? 9).map (fun i => (i.zero, i.size, i.bytes)) = some (some (.string ByteArray.empty), 1, 16) := by kernel_rfl
theorem oneText18 (x : ByteArray) : ∀ u ∈ [Value.string x], u.oneCell' = true := by
  intro u hu; simp at hu; subst hu; rfl
theorem cellsT_snoc18 (ps : List Tx) (p : Tx) : cellsT ps ++ [.string (tx p)] = cellsT (ps ++ [p]) := by simp [cellsT]
/-- names are answered, in new memory -/
def NamesA (ps : List Tx) (w : World) (e : Ending) (w' : World) : Prop := ∃ A c, e = .returned (.slice A ps.length c) ∧ TxR w' A ps ∧ Below w.heap.size w w'
/-- what the second loop holds: the map is gone through, what has come and has a newest lies in the row -/
structure NmI (w wr : World) (r n : Nat) (l : List Ct.F) (D : DataW Unit) (left : Lit → Bool) (cnt : Nat) (ss : List Tx) (v : Value) : Prop where
  rng : wr.ranges Try.prog 9 (plainElem Try.prog 3) w.heap.size r n D left cnt
  col : Collected D left ss
  few : ss.length + cnt ≤ n
  own : wr.ownsRow (w.heap.size + 1) 9 1 v (keepN l ss).length (cellsT (keepN l ss))
  bel : Below w.heap.size w wr
theorem grown_below {w w' : World} (hb : Below w.heap.size w w') : w.grownBy w' none := ⟨hb.os, hb.tape, hb.output, hb.size, fun k hk _ => hb.block k hk⟩
theorem ownT_old {w w' : World} {base : Nat} {v : Value} {n : Nat} {xs : List Value} (h : w.ownsRow base 9 1 v n xs) (hb : Below w.heap.size w w') : w'.ownsRow base 9 1 v n xs := by
  refine h.kept (grown_below hb) ?_
  cases hv : v.ownBlock with
  | none => exact .inl rfl
  | some k => exact .inr (by simp)
set_option maxRecDepth 100000 in
set_option maxHeartbeats 8000000 in
theorem names_any (xs : List Fx) (n C : Nat) (A : Option Addr) (G : Nat → Prop) (w : World) (hn : n = xs.length) (hm : n ≤ 1000000) (hr : encF.Rd w A xs G) (hp : ∀ x ∈ xs, x.f.path.length ≤ 281474976710656) :
    Calls Try.prog 17 #[.slice A n C] w (NamesA (Ls.names (filesOf xs)) w) := by
  have hmm := @run_makeMap Try.prog
  have HN := Lib.hid hn
  have HR := Lib.hid hr
  have HP := Lib.hid hp
  have HL : Hid ((filesOf xs).length = n) := Lib.hid (by rw [filesOf_len, hn])
  have HPM : Hid (∀ f ∈ filesOf xs, f.path.length ≤ maxLen) := Lib.hid fun f hf => by
    obtain ⟨x, hx, rfl⟩ := List.mem_map.1 hf
    have := hp x hx
    unfold maxLen; omega
  obtain ⟨w1, hw1⟩ : ∃ x, x = w.alloc (.map #[] 0) := ⟨_, rfl⟩
  have HB1 : Hid (Below w.heap.size w w1) := Lib.hid (by rw [hw1]; exact (Below.refl _ _).alloc (Nat.le_refl _) _)
  have HM0 : Hid (MpO ksS w1 w.heap.size 0 (toldZ (filesOf xs) 0)) := Lib.hid (by rw [hw1]; exact (MpO.made w).congr fun k _ => rfl)
  have HW1 := Lib.hid hw1
  obtain ⟨i0, hi0, hz0, hz1, hz2⟩ := info_parts infoText18
  clear hn hr hw1 hp
  go_enter Try.func17, Try.ntmps17
  go_wp2_with fail
  rw [← HW1.out]
  go_loopw [14] (fun vi wr => ∃ i : Nat, i ≤ n ∧ vi = .int .i64 (i : Int) ∧ Hid (MpO ksS wr w.heap.size i (toldZ (filesOf xs) i)) ∧ Hid (Below w.heap.size w wr)) (fun vi _ => n - (intOf vi).toNat)
  case atStart => exact ⟨0, Nat.zero_le _, rfl, HM0, HB1⟩
  case round =>
    obtain ⟨i, hi, rfl, HMP, HB⟩ := hrel
    by_cases hlt : i < n
    · have e0 : decide (i < n) = true := decide_eq_true hlt
      have hix : i < xs.length := by rw [← HN.out]; exact hlt
      have hif : i < (filesOf xs).length := by rw [HL.out]; exact hlt
      obtain ⟨⟨⟨P, v, z, s, r, b, pl⟩, A1, C1⟩, hx⟩ : ∃ x, x = xs[i] := ⟨_, rfl⟩
      have HF : Hid ((filesOf xs)[i] = ⟨P, v, z, s, r, b, pl⟩) := Lib.hid (by rw [filesOf_get hix hif, ← hx])
      have HPO : Hid (ksS.ok P) := Lib.hid (by
        have := HPM.out (filesOf xs)[i] (List.getElem_mem hif)
        rw [HF.out] at this; exact this)
      obtain ⟨g, o, rfl, c⟩ := seven_at (HR.out.old HB.out) hix hx
      obtain ⟨M, hM⟩ : ∃ M, M = pl.length := ⟨_, rfl⟩
      rw [← hM] at c
      obtain ⟨wp, hwp⟩ : ∃ y, y = wr.alloc (fileO P v z s r b A1 M C1) := ⟨_, rfl⟩
      have hbp : Below wr.heap.size wr wp := by rw [hwp]; exact (Below.refl _ _).alloc (Nat.le_refl _) _
      have hkp : wp.heap[wr.heap.size]? = some (fileO P v z s r b A1 M C1) := by rw [hwp]; exact Go.Deep.blk_alloc_new _ _
      have HBP := Lib.hid (HB.out.trans (hbp.mono HB.out.size))
      have HDN : Hid (∀ m, Below w.heap.size w (wp.drewN m)) := Lib.hid fun m => HBP.out.trans ((drewN_below wp m).mono HBP.out.size)
      have KP := Lib.hid hkp
      have HRP := Lib.hid (HR.out.old HBP.out)
      have HMP2 := Lib.hid (HMP.out.old hbp)
      have HW : Hid (wp = wr.alloc (.cells #[.string (tx P), .int .i64 v, .int .i64 z, .int .i64 s, .int .i64 r, .bool b, .slice A1 M C1] 26)) := Lib.hid hwp
      have HPP : Hid ((filesOf xs)[i].path = P) := Lib.hid (by rw [HF.out])
      have HV : Hid ((filesOf xs)[i].version = v) := Lib.hid (by rw [HF.out])
      obtain ⟨c0, c1, c2, c3, c4, c5, c6⟩ := c
      clear hx hM hwp hbp hkp
      obtain ⟨q, hq⟩ : ∃ q, q = Ls.told (filesOf xs) i P := ⟨_, rfl⟩
      have hlk : (Instr.lookup 46 (.map (some w.heap.size)) (.string (tx P)) true).run Try.prog wp = .ok (.tuple #[.int .i64 ((q.map fun k => (k : Int)).getD 0), .bool (q.map fun k => (k : Int)).isSome]) wp := by rw [hq]; exact HMP2.out.look HPO.out
      have HQ := Lib.hid hq
      clear hq
      go_upto_region 5 with fail
      rw [← HW.out]
      clear c0 c1 c2 c3 c4 c5 c6
      obtain ⟨d0, d1, -, -, -, -, -⟩ := file7 KP.out
      cases q with
      | none =>
        have hlk' : (Instr.lookup 46 (.map (some w.heap.size)) (.string (tx P)) true).run Try.prog wp = .ok (.tuple #[.int .i64 0, .bool false]) wp := hlk
        have HT : Hid (∀ p, p ≠ P → toldZ (filesOf xs) i p = toldZ (filesOf xs) (i + 1) p) := Lib.hid fun p hp => by
          unfold toldZ; rw [Ls.told_other hif (by rw [HPP.out]; exact hp)]
        have HT2 : Hid (toldZ (filesOf xs) (i + 1) P = some (i : Int)) := Lib.hid (by
          have := Ls.told_new hif (by rw [HPP.out]; exact HQ.out.symm)
          rw [HPP.out] at this
          unfold toldZ; rw [this]; rfl)
        clear hlk
        go_upto_region 6 with fail
        clear hlk'
        go_quiet (fail)
        clear d0 d1
        have HBD : Hid (Below wp.heap.size wp (wp.drewN nq)) := Lib.hid (drewN_below _ _)
        generalize wp.drewN nq = wd at HBD ⊢
        have HBW := Lib.hid (HBP.out.trans (HBD.out.mono HBP.out.size))
        obtain ⟨w4, hup, hm4, hg4⟩ := (HMP2.out.old HBD.out).put (u := (i : Int)) (show i < maxLen by unfold maxLen; omega) HPO.out (wfI_of (by omega))
        have hup' : (Instr.mapUpdate 46 (.map (some w.heap.size)) (.string (tx P)) (.int .i64 (i : Int))).run Try.prog wd = .ok () w4 := hup
        have HM4 : Hid (MpO ksS w4 w.heap.size (i + 1) (toldZ (filesOf xs) (i + 1))) := Lib.hid (hm4.congr fun p _ => by
          by_cases e : p = P
          · subst e; rw [if_pos rfl]; exact HT2.out.symm
          · rw [if_neg e]; exact HT.out p e)
        have HB4 := Lib.hid (HBW.out.grown hg4 HBW.out.size (fun k hk => by injection hk with hk; omega))
        obtain ⟨d0, -, -, -, -, -, -⟩ := file7 (below_obj' HBD.out KP.out)
        clear hm4 hg4 hup
        go_wp2
        go_roundw
        case rel => exact ⟨i + 1, by omega, by go_num, HM4, HB4⟩
        case measure => simp [intOf]; omega
      | some k =>
        have hlk' : (Instr.lookup 46 (.map (some w.heap.size)) (.string (tx P)) true).run Try.prog wp = .ok (.tuple #[.int .i64 (k : Int), .bool true]) wp := hlk
        have hkf : k < (filesOf xs).length := (Ls.pl_lt HQ.out.symm).2
        have hkn : k < n := by rw [← HL.out]; exact hkf
        have hkx : k < xs.length := by rw [← HN.out]; exact hkn
        obtain ⟨⟨⟨P2, v2, z2, s2, r2, b2, pl2⟩, A2, C2⟩, hx2⟩ : ∃ x, x = xs[k] := ⟨_, rfl⟩
        have HV2 : Hid ((filesOf xs)[k].version = v2) := Lib.hid (by rw [filesOf_get hkx hkf, ← hx2])
        obtain ⟨g', o', hA, c'⟩ := seven_at HRP.out hkx hx2
        cases hA
        obtain ⟨-, k1, -, -, -, -, -⟩ := c'
        have f1 : decide (k < n) = true := decide_eq_true hkn
        have HT : Hid (∀ p, p ≠ P → toldZ (filesOf xs) i p = toldZ (filesOf xs) (i + 1) p) := Lib.hid fun p hp => by
          unfold toldZ; rw [Ls.told_other hif (by rw [HPP.out]; exact hp)]
        clear hx2 hlk
        by_cases hv : v2 < v
        · have f2 : decide (v2 < v) = true := decide_eq_true hv
          have HT2 : Hid (toldZ (filesOf xs) (i + 1) P = some (i : Int)) := Lib.hid (by
            have := Ls.told_more hif (by rw [HPP.out]; exact HQ.out.symm) hkf (by rw [HV.out, HV2.out]; exact hv)
            rw [HPP.out] at this
            unfold toldZ; rw [this]; rfl)
          clear hv
          go_upto_region 6 with fail
          clear hlk'
          go_quiet (fail)
          clear d0 d1 k1 f2
          have HBD : Hid (Below wp.heap.size wp (wp.drewN nq)) := Lib.hid (drewN_below _ _)
          generalize wp.drewN nq = wd at HBD ⊢
          have HBW := Lib.hid (HBP.out.trans (HBD.out.mono HBP.out.size))
          obtain ⟨w4, hup, hm4, hg4⟩ := (HMP2.out.old HBD.out).put (u := (i : Int)) (show i < maxLen by unfold maxLen; omega) HPO.out (wfI_of (by omega))
          have hup' : (Instr.mapUpdate 46 (.map (some w.heap.size)) (.string (tx P)) (.int .i64 (i : Int))).run Try.prog wd = .ok () w4 := hup
          have HM4 : Hid (MpO ksS w4 w.heap.size (i + 1) (toldZ (filesOf xs) (i + 1))) := Lib.hid (hm4.congr fun p _ => by
            by_cases e : p = P
            · subst e; rw [if_pos rfl]; exact HT2.out.symm
            · rw [if_neg e]; exact HT.out p e)
          have HB4 := Lib.hid (HBW.out.grown hg4 HBW.out.size (fun k hk => by injection hk with hk; omega))
          obtain ⟨d0, -, -, -, -, -, -⟩ := file7 (below_obj' HBD.out KP.out)
          clear hm4 hg4 hup
          go_wp2
          go_roundw
          case rel => exact ⟨i + 1, by omega, by go_num, HM4, HB4⟩
          case measure => simp [intOf]; omega
        · have f2 : decide (v2 < v) = false := decide_eq_false hv
          have HT2 : Hid (toldZ (filesOf xs) (i + 1) P = toldZ (filesOf xs) i P) := Lib.hid (by
            have := Ls.told_less hif (by rw [HPP.out]; exact HQ.out.symm) hkf (by rw [HV.out, HV2.out]; exact hv)
            rw [HPP.out] at this
            unfold toldZ; rw [this, ← HQ.out])
          clear hv
          go_upto_region 6 with fail
          clear hlk'
          go_quiet (fail)
          clear d0 d1 k1 f2
          have HBD : Hid (Below wp.heap.size wp (wp.drewN nq)) := Lib.hid (drewN_below _ _)
          generalize wp.drewN nq = wd at HBD ⊢
          have HBW := Lib.hid (HBP.out.trans (HBD.out.mono HBP.out.size))
          have HM4 : Hid (MpO ksS wd w.heap.size (i + 1) (toldZ (filesOf xs) (i + 1))) := Lib.hid (by
            obtain ⟨D, ho, hd⟩ := (HMP2.out.old HBD.out).congr (g := toldZ (filesOf xs) (i + 1)) fun p _ => by
              by_cases e : p = P
              · subst e; exact HT2.out.symm
              · exact HT.out p e
            exact ⟨D, ho.mono (Nat.le_succ _), hd⟩)
          go_wp2
          go_roundw
          case rel => exact ⟨i + 1, by omega, by go_num, HM4, HBW⟩
          case measure => simp [intOf]; omega
    · have e0 : decide (i < n) = false := decide_eq_false hlt
      have hin : i = n := by omega
      subst hin
      obtain ⟨D, hown, hd⟩ := HMP.out
      rw [← HL.out] at hd
      have HD := Lib.hid hd
      have hown' : wr.ownsMap Try.prog 9 (plainElem Try.prog 3) w.heap.size i D := hown
      have HOW := Lib.hid hown'
      have hsz : Maps.size D ≤ i := hown'.size_le
      have hlo := hown'.lt
      clear hd hown hown' HMP
      go_wp2_with (first | (at_range; refine wpList_range_own _ rfl _ 46 rfl 9 3 ksS.keyed Try.underlying46 _ w.heap.size i D rfl HOW.out ?_; intro w0 hrg0 hg0 hs0) | fail)
      go_frame
      obtain ⟨r, hr0⟩ : ∃ r, r = wr.heap.size := ⟨_, rfl⟩
      rw [← hr0] at hrg0 ⊢
      have HI0 : Hid (NmI w w0 r i (filesOf xs) D (Maps.has D) (Maps.size D) [] (.slice none 0 0)) := Lib.hid ⟨hrg0, Collected.start D, by simpa using hsz, World.ownsRow_nil _ _ _ _, HB.out.grown hg0 HB.out.size (fun j hj => by cases hj)⟩
      have HRL : Hid (w.heap.size < r) := Lib.hid (by rw [hr0]; exact hlo)
      clear hrg0 hg0 hs0 hr0 hlo
      go_loopw [8] (fun vl wr => ∃ left cnt ss, Hid (NmI w wr r i (filesOf xs) D left cnt ss vl)) (fun _ wr => wr.rangeLeft w.heap.size r)
      case atStart => exact ⟨_, _, _, HI0⟩
      case round =>
        obtain ⟨left, cnt, ss, HI⟩ := hrel
        go_wp2_with (first | (at_next; refine wpList_next_ranges _ rfl _ rfl 9 ksS.keyed (plainElem Try.prog 3) encStr (Value.int .i64) (fun key kl hk => by obtain ⟨x, hx, _⟩ := Maps.keyOf_str Try.underlying9 hk; exact ⟨x, hx⟩) (fun v y hv => by obtain ⟨c, rfl, _⟩ := plainElem_int_inv Try.underlying3 hv; exact ⟨c, rfl⟩) w.heap.size r i D left cnt rfl HI.out.rng ?_ ?_) | fail)
        · intro hc0 hl0
          have HNM : Hid ((keepN (filesOf xs) ss).mergeSort (fun x y => decide (x ≤ y)) = Ls.names (filesOf xs)) := Lib.hid (names_collected HPM.out HD.out HI.out.col hl0)
          have HSO := Lib.hid (sortT_any (w.heap.size + 1) (keepN (filesOf xs) ss) u8 wr (by have := keepN_len (filesOf xs) ss; have := HI.out.few; omega) HI.out.own)
          clear hc0 hl0
          go_wp2_with fail
          refine HSO.out.mono ?_
          rintro e w5 ⟨rfl, hown5, hg5⟩
          rw [HNM.out] at hown5
          obtain ⟨A5, C5, hv5, hr5⟩ := TxR.of_owns hown5
          have HB5 := Lib.hid (HI.out.bel.grown hg5 HI.out.bel.size (fun j hj => by have := (HI.out.own.lt j hj).1; omega))
          have HR5 := Lib.hid hr5
          clear hown5 hg5 hr5 HSO
          subst hv5
          go_wp2
          go_ret
          exact ⟨A5, C5, rfl, HR5.out, HB5.out⟩
        · intro x c kl yd yp w2 cnt2 hkey hlk hv hat hrg2 hlt2 hg2 hs2 hen
          obtain ⟨k, hk, rfl, rfl, hxl⟩ := entry_told HD.out hkey hv hat
          have hkf : k < (filesOf xs).length := (Ls.pl_lt hk).2
          have hkn : k < i := by rw [← HL.out]; exact hkf
          have hkx : k < xs.length := by rw [← HN.out]; exact hkn
          have f1 : decide (k < i) = true := decide_eq_true hkn
          obtain ⟨⟨⟨P, v, z, s, rr, b, pl⟩, A1, C1⟩, hx⟩ : ∃ x, x = xs[k] := ⟨_, rfl⟩
          have HFK : Hid ((filesOf xs)[k] = ⟨P, v, z, s, rr, b, pl⟩) := Lib.hid (by rw [filesOf_get hkx hkf, ← hx])
          have HPX : Hid (x.length ≤ 281474976710656) := Lib.hid (by
            have h1 := HP.out xs[k] (List.getElem_mem hkx)
            rw [← hx] at h1
            have h2 := Ls.told_path hk hkf
            rw [HFK.out] at h2
            rw [← h2]; exact h1)
          have hkeep := keepB_iff hk hkf
          rw [HFK.out] at hkeep
          dsimp only at hkeep
          have HKEEP := Lib.hid hkeep
          have HB2 := Lib.hid (HI.out.bel.grown hg2 HI.out.bel.size (fun j hj => by injection hj with hj; have := HRL.out; omega))
          have hown2 := HI.out.own.kept hg2 (Or.inr (row_ne_iter HI.out.own HI.out.rng).symm)
          have hcol2 := HI.out.col.step hlk hat
          have HRG2 := Lib.hid hrg2
          have HOWN2 := Lib.hid hown2
          have HCOL2 := Lib.hid hcol2
          have HLT2 := Lib.hid hlt2
          obtain ⟨g, o, rfl, c⟩ := seven_at (HR.out.old HB2.out) hkx hx
          obtain ⟨-, -, -, -, -, c5, -⟩ := c
          have hen' : (Instr.entry (.pointer (some ⟨r, 0, none⟩))).run Try.prog w2 = .ok (.tuple #[.string (tx x), .int .i64 (k : Int)]) w2 := hen
          clear hkey hlk hv hat hrg2 hlt2 hg2 hs2 hen hx HFK hkf hkx hk hkeep hown2 hcol2
          cases b with
          | true =>
            have HI2 : Hid (NmI w w2 r i (filesOf xs) D (fun z => left z && !z.sameKey (.string x)) cnt2 (ss ++ [x]) u8) := Lib.hid ⟨HRG2.out, HCOL2.out, by have := HI.out.few; have := HLT2.out; rw [List.length_append, List.length_singleton]; omega, by rw [keepN_no HKEEP.out]; exact HOWN2.out, HB2.out⟩
            go_wp2
            go_roundw
            case rel => exact ⟨_, _, _, HI2⟩
            case measure => rw [HI2.out.rng.left_eq, HI.out.rng.left_eq]; exact HLT2.out
          | false =>
            have HC := Lib.hid (cloned17 x w2 HPX.out)
            go_wp2_with fail
            refine HC.out.mono ?_
            rintro e w3 ⟨rfl, hb3⟩
            have HB3 := Lib.hid (HB2.out.trans (hb3.mono HB2.out.size))
            have hown3 := ownT_old HOWN2.out hb3
            have HRG3 := Lib.hid (HRG2.out.kept (grown_below hb3) (by simp) (by simp))
            have hlen : (keepN (filesOf xs) ss).length + 1 ≤ 1000000 := by have := keepN_len (filesOf xs) ss; have := HI.out.few; have := HLT2.out; omega
            have hlow : w.heap.size + 1 ≤ w3.heap.size := by have := HB3.out.size; have := HRG3.out.lt; have := HRL.out; omega
            clear hb3 c5 hen' HC
            go_wp2_with (at_builtin; refine wpList_append_own _ rfl _ _ 34 rfl (w.heap.size + 1) 9 i0 (.string ByteArray.empty) 1 16 Try.underlying34 hi0 hz0 hz1 hz2 rfl (by decide) _ _ _ rfl (hown3.alloc _) ⟨w3.heap.size, 0, none⟩ 1 1 [.string (tx x)] rfl rfl (cell_one_new _ _ _) (oneText18 _) (by unfold maxLen; omega) (by omega) (by simp; omega) ?_; intro v4 w4 hown4 hg4 _; go_frame)
            have hne := row_ne_low hown3 (b := w.heap.size) (by omega)
            have hni := row_ne_iter hown3 HRG3.out
            have HI2 : Hid (NmI w w4 r i (filesOf xs) D (fun z => left z && !z.sameKey (.string x)) cnt2 (ss ++ [x]) v4) := Lib.hid ⟨(HRG3.out.alloc _).kept hg4 hne hni, HCOL2.out, by have := HI.out.few; have := HLT2.out; rw [List.length_append, List.length_singleton]; omega, by rw [keepN_yes HKEEP.out, ← cellsT_snoc18, List.length_append]; exact hown4, (HB3.out.alloc HB3.out.size _).grown hg4 (by simp; omega) (fun j hj => by have := (hown3.lt j hj).1; omega)⟩
            clear hown4 hg4 hne hni hown3
            go_wp2
            go_roundw
            case rel => exact ⟨_, _, _, HI2⟩
            case measure => rw [HI2.out.rng.left_eq, HI.out.rng.left_eq]; exact HLT2.out
end Go.Proofs.Ytjhbmijdpcbbiaa
