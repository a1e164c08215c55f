/- What the document's own Names answer. -/
import Derived.Test.YtjhbmijdpcbbiaaRefLs
import Derived.Test.YtjhbmijdpcbbiaaLsNext
import Derived.Test.YtjhbmijdpcbbiaaLsNames
import Derived.Test.YtjhbmijdpcbbiaaLsIns
import Derived.Test.YtjhbmijdpcbbiaaEnIns
import Derived.Test.YtjhbmijdpcbbiaaFmStep
namespace Go.Proofs.Ytjhbmijdpcbbiaa
open Go.RowKit
open Pt (Tx)

/-- a text as the one cell of an element -/
def encT1 : Enc Tx where
  k := 1
  pos := by decide
  enc p := [.string (tx p)]
  len _ := rfl
  one p u hu := by
    simp only [List.mem_cons, List.not_mem_nil, or_false] at hu
    subst hu; rfl
theorem txR_of {w : World} {A : Option Addr} {ps : List Tx} {G : Nat → Prop} (h : encT1.Rd w A ps G) : TxR w A ps := fun hn => by
  obtain ⟨b, off, e, -, hc⟩ := h hn
  refine ⟨b, off, e, fun j p hp => ?_⟩
  obtain ⟨hj, rfl⟩ := List.getElem?_eq_some_iff.1 hp
  have := hc j hj 0 (.string (tx ps[j])) rfl
  rwa [show off + j * encT1.k + 0 = off + j by show off + j * 1 + 0 = off + j; omega] at this
set_option maxRecDepth 100000 in
set_option maxHeartbeats 16000000 in
theorem refNames_any (xs : List Fx) (n C : Nat) (A : Option Addr) (G : Nat → Prop) (w : World) (hn : n = xs.length) (hm : n ≤ 100000) (hr : encF.Rd w A xs G) (ho : ∀ x ∈ xs, x.Fit w) :
    Calls Try.prog 18 #[.slice A n C] w (NamesA (Ls.names (filesOf xs)) w) := by
  have HN := Lib.hid hn
  have HR := Lib.hid hr
  have HO := Lib.hid ho
  have HL : Hid ((filesOf xs).length = n) := Lib.hid (by rw [filesOf_len, hn])
  have hm2 : n ≤ 1000000 := by omega
  clear hn hr ho
  go_enter Try.func18, Try.ntmps18
  go_wp2
  go_loopw [4, 3, 7] (fun vi vl vk wr => ∃ (i : Nat) (os : List Tx), i ≤ n ∧ vi = .int .i64 (i : Int) ∧ Hid (encT1.Own wr w.heap.size 9 vl os) ∧ Hid (Ls.NmU (filesOf xs) i os) ∧ os.length ≤ i ∧ Hid (Below w.heap.size w wr)) (fun vi _ _ _ => n - (intOf vi).toNat)
  case atStart => exact ⟨0, [], Nat.zero_le _, rfl, Lib.hid (Enc.Own.nil _ _ _), Lib.hid (Ls.NmU.start _), Nat.le_refl _, Lib.hid (Below.refl _ _)⟩
  case round =>
    obtain ⟨i, os, hi, rfl, HOW, HNM, hoi, HB⟩ := hrel
    by_cases hlt : i < n
    · have e0 : decide (i < n) = true := decide_eq_true hlt
      have hix : i < xs.length := by rw [← HN.out]; exact hlt
      have hif : i < (filesOf xs).length := by rw [HL.out]; exact hlt
      obtain ⟨⟨⟨P, v, z, s, r, b, pl⟩, A1, C1⟩, hx⟩ : ∃ x, x = xs[i] := ⟨_, rfl⟩
      have HPP : Hid ((filesOf xs)[i].path = P) := Lib.hid (by rw [filesOf_get hix hif, ← hx])
      have HC := Lib.hid (refNewest_any xs n C A G P wr HN.out hm2 (HR.out.old HB.out) (fun x hx => (HO.out x hx).old HB.out))
      obtain ⟨g, o, rfl, c⟩ := seven_at (HR.out.old HB.out) hix hx
      obtain ⟨c0, -, -, -, -, -, -⟩ := c
      have eP := tx_toList P
      clear hx
      go_wp2_with fail
      refine HC.out.mono ?_
      intro e w2 ha
      rcases ha.cases with ⟨h0, rfl, hb2⟩ | ⟨P', v', z', s', r', b', pl', A', m', C', h0, hm', rfl, hrd, hb2⟩
      · have HOK : Hid ((Ls.newest (filesOf xs) P).isSome = false) := Lib.hid (by rw [h0]; rfl)
        obtain ⟨wq, hwq⟩ : ∃ x, x = w2.alloc (fileO [] 0 0 0 0 false none 0 0) := ⟨_, rfl⟩
        have hbq : Below wr.heap.size wr wq := by rw [hwq]; exact hb2.alloc hb2.size _
        have HWQ : Hid (wq = w2.alloc (.cells #[.string ⟨#[]⟩, .int .i64 0, .int .i64 0, .int .i64 0, .int .i64 0, .bool false, .slice none 0 0] 26)) := Lib.hid hwq
        have HOQ := Lib.hid (HOW.out.old hbq)
        have HBQ := Lib.hid (HB.out.trans (hbq.mono HB.out.size))
        have p0 := (hbq.cell (World.block_lt_of_cell? _ _ c0)).trans c0
        clear h0 hb2 ha hwq hbq c0 HC
        go_upto_region 6 with fail
        rw [← HWQ.out]
        obtain ⟨A0, C0, hv, hnC, hCm, hA0, hrd0⟩ := HOQ.out.rd
        have hA0' : A0 = none ∨ ∃ g', A0 = some ⟨g', 0, none⟩ := by
          rcases HOQ.out.2 with ⟨h1, -⟩ | ⟨gg, cap, cur, h1, -⟩
          · rw [hv] at h1; injection h1 with h1; exact .inl h1
          · rw [hv] at h1; injection h1 with h1; exact .inr ⟨gg, h1⟩
        obtain ⟨no, hno⟩ : ∃ m, m = os.length := ⟨_, rfl⟩
        rw [← hno] at hv hnC hA0
        have hni : no ≤ i := by omega
        have HRD : Hid (encT1.Rd wq A0 os (fun _ => True)) := Lib.hid (hrd0.mono fun _ _ => trivial)
        have HON := Lib.hid hno
        have HP0 := Lib.hid p0
        have HA0 := Lib.hid hA0
        have HA0' := Lib.hid hA0'
        subst hv
        clear hrd0 hno p0 hA0 hA0' hCm
        go_wp2
        go_loopw [7] (fun vk wr => ∃ k : Nat, k ≤ no ∧ vk = .int .i64 (k : Int) ∧ Hid (∀ a (ha : a < os.length), a < k → os[a] < P) ∧ Hid (Below wq.heap.size wq wr)) (fun vk _ => no - (intOf vk).toNat)
        case atStart => exact ⟨0, Nat.zero_le _, rfl, Lib.hid (fun a ha h => absurd h (by omega)), Lib.hid (Below.refl _ _)⟩
        case round =>
          obtain ⟨k, hk, rfl, HLE, HBK⟩ := hrel
          have p0 := (HBK.out.cell (World.block_lt_of_cell? _ _ HP0.out)).trans HP0.out
          by_cases hltk : k < no
          · have e1 : decide ((k : Int) < (no : Int)) = true := decide_eq_true (by omega)
            have e2 : decide (k < no) = true := decide_eq_true hltk
            have hko : k < os.length := by rw [← HON.out]; exact hltk
            obtain ⟨y, hy⟩ : ∃ y, y = os[k] := ⟨_, rfl⟩
            have HY := Lib.hid hy
            obtain ⟨g', og, hA, -, hc⟩ := (HRD.out.old HBK.out).at_ hko
            rcases HA0'.out with hA0' | ⟨gg, hA0'⟩
            · rw [hA0'] at hA; cases hA
            rw [hA0'] at hA
            cases hA
            subst hA0'
            have q0 : wr.cell? ⟨g', k, none⟩ = some (.string (tx y)) := by
              have h := hc 0 (.string (tx os[k])) rfl
              rw [show 0 + k * encT1.k + 0 = k by show 0 + k * 1 + 0 = k; omega, ← hy] at h
              exact h
            have ey := tx_toList y
            clear hc hy
            by_cases hl : y < P
            · have e3 : Op.bytesLess y P = true := by rw [lessB_is]; exact decide_eq_true hl
              have e4 : Op.bytesLess (tx y).toList (tx P).toList = true := by rw [tx_toList, tx_toList]; exact e3
              have HLE2 : Hid (∀ a (ha : a < os.length), a < k + 1 → os[a] < P) := Lib.hid fun a ha h => by
                by_cases e : a = k
                · subst e; rw [← HY.out]; exact hl
                · exact HLE.out a ha (by omega)
              clear hl
              go_wp2
              go_quiet (fail)
              obtain ⟨wy, hwwy⟩ : ∃ y, y = wr.drewN nq := ⟨_, rfl⟩
              have hbwy : Below wr.heap.size wr wy := by rw [hwwy]; exact drewN_below _ _
              rw [← hwwy]
              clear hwwy
              have HBY := Lib.hid (HBK.out.trans (hbwy.mono HBK.out.size))
              clear hbwy p0 q0 e3 e4
              go_wp2
              go_roundw
              case rel => exact ⟨k + 1, by omega, by go_num, HLE2, HBY⟩
              case measure => simp [intOf]; omega
            · have e3 : Op.bytesLess y P = false := by rw [lessB_is]; exact decide_eq_false hl
              have e4 : Op.bytesLess (tx y).toList (tx P).toList = false := by rw [tx_toList, tx_toList]; exact e3
              have HNM2 : Hid (Ls.NmU (filesOf xs) (i + 1) os) := Lib.hid (HNM.out.skip hif (by rw [HPP.out]; exact HOK.out))
              clear hl
              go_wp2
              go_quiet (fail)
              obtain ⟨wy, hwwy⟩ : ∃ y, y = wr.drewN nq := ⟨_, rfl⟩
              have hbwy : Below wr.heap.size wr wy := by rw [hwwy]; exact drewN_below _ _
              rw [← hwwy]
              clear hwwy
              have p1 := (hbwy.cell (World.block_lt_of_cell? _ _ p0)).trans p0
              have q1 := (hbwy.cell (World.block_lt_of_cell? _ _ q0)).trans q0
              have HBY := Lib.hid (HBK.out.trans (hbwy.mono HBK.out.size))
              clear hbwy p0 q0 e3 e4
              go_wp2
              go_quiet (fail)
              obtain ⟨wz, hwwz⟩ : ∃ y, y = wy.drewN nq := ⟨_, rfl⟩
              have hbwz : Below wy.heap.size wy wz := by rw [hwwz]; exact drewN_below _ _
              rw [← hwwz]
              clear hwwz
              have hbz : Below wq.heap.size wq wz := HBY.out.trans (hbwz.mono HBY.out.size)
              have pz := (hbwz.cell (World.block_lt_of_cell? _ _ p1)).trans p1
              clear hbwz p1 q1
              clear pz
              go_wp2
              go_roundw
              case rel => exact ⟨i + 1, os, by omega, by go_num, Lib.hid (HOQ.out.old hbz), HNM2, by omega, Lib.hid (HBQ.out.trans (hbz.mono HBQ.out.size))⟩
              case measure => simp [intOf]; omega
          · have e1 : decide ((k : Int) < (no : Int)) = false := decide_eq_false (by omega)
            have e2 : decide (k < no) = false := decide_eq_false hltk
            have HNM2 : Hid (Ls.NmU (filesOf xs) (i + 1) os) := Lib.hid (HNM.out.skip hif (by rw [HPP.out]; exact HOK.out))
            go_wp2
            go_quiet (fail)
            obtain ⟨wy, hwwy⟩ : ∃ y, y = wr.drewN nq := ⟨_, rfl⟩
            have hbwy : Below wr.heap.size wr wy := by rw [hwwy]; exact drewN_below _ _
            rw [← hwwy]
            clear hwwy
            have p1 := (hbwy.cell (World.block_lt_of_cell? _ _ p0)).trans p0
            have HBY := Lib.hid (HBK.out.trans (hbwy.mono HBK.out.size))
            clear hbwy p0
            go_wp2
            go_quiet (fail)
            obtain ⟨wz, hwwz⟩ : ∃ y, y = wy.drewN nq := ⟨_, rfl⟩
            have hbwz : Below wy.heap.size wy wz := by rw [hwwz]; exact drewN_below _ _
            rw [← hwwz]
            clear hwwz
            have hbz : Below wq.heap.size wq wz := HBY.out.trans (hbwz.mono HBY.out.size)
            have pz := (hbwz.cell (World.block_lt_of_cell? _ _ p1)).trans p1
            clear hbwz p1
            clear pz
            go_wp2
            go_roundw
            case rel => exact ⟨i + 1, os, by omega, by go_num, Lib.hid (HOQ.out.old hbz), HNM2, by omega, Lib.hid (HBQ.out.trans (hbz.mono HBQ.out.size))⟩
            case measure => simp [intOf]; omega
      · have HOK : Hid ((Ls.newest (filesOf xs) P).isSome = true) := Lib.hid (by rw [h0]; rfl)
        obtain ⟨wq, hwq⟩ : ∃ x, x = w2.alloc (fileO P' v' z' s' r' b' A' m' C') := ⟨_, rfl⟩
        have hbq : Below wr.heap.size wr wq := by rw [hwq]; exact hb2.alloc hb2.size _
        have HWQ : Hid (wq = w2.alloc (.cells #[.string (tx P'), .int .i64 v', .int .i64 z', .int .i64 s', .int .i64 r', .bool b', .slice A' m' C'] 26)) := Lib.hid hwq
        have HOQ := Lib.hid (HOW.out.old hbq)
        have HBQ := Lib.hid (HB.out.trans (hbq.mono HB.out.size))
        have p0 := (hbq.cell (World.block_lt_of_cell? _ _ c0)).trans c0
        clear h0 hb2 ha hwq hbq c0 HC hm' hrd
        go_upto_region 6 with fail
        rw [← HWQ.out]
        obtain ⟨A0, C0, hv, hnC, hCm, hA0, hrd0⟩ := HOQ.out.rd
        have hA0' : A0 = none ∨ ∃ g', A0 = some ⟨g', 0, none⟩ := by
          rcases HOQ.out.2 with ⟨h1, -⟩ | ⟨gg, cap, cur, h1, -⟩
          · rw [hv] at h1; injection h1 with h1; exact .inl h1
          · rw [hv] at h1; injection h1 with h1; exact .inr ⟨gg, h1⟩
        obtain ⟨no, hno⟩ : ∃ m, m = os.length := ⟨_, rfl⟩
        rw [← hno] at hv hnC hA0
        have hni : no ≤ i := by omega
        have HRD : Hid (encT1.Rd wq A0 os (fun _ => True)) := Lib.hid (hrd0.mono fun _ _ => trivial)
        have HON := Lib.hid hno
        have HP0 := Lib.hid p0
        have HA0 := Lib.hid hA0
        have HA0' := Lib.hid hA0'
        subst hv
        clear hrd0 hno p0 hA0 hA0' hCm
        go_wp2
        go_loopw [7] (fun vk wr => ∃ k : Nat, k ≤ no ∧ vk = .int .i64 (k : Int) ∧ Hid (∀ a (ha : a < os.length), a < k → os[a] < P) ∧ Hid (Below wq.heap.size wq wr)) (fun vk _ => no - (intOf vk).toNat)
        case atStart => exact ⟨0, Nat.zero_le _, rfl, Lib.hid (fun a ha h => absurd h (by omega)), Lib.hid (Below.refl _ _)⟩
        case round =>
          obtain ⟨k, hk, rfl, HLE, HBK⟩ := hrel
          have p0 := (HBK.out.cell (World.block_lt_of_cell? _ _ HP0.out)).trans HP0.out
          by_cases hltk : k < no
          · have e1 : decide ((k : Int) < (no : Int)) = true := decide_eq_true (by omega)
            have e2 : decide (k < no) = true := decide_eq_true hltk
            have hko : k < os.length := by rw [← HON.out]; exact hltk
            obtain ⟨y, hy⟩ : ∃ y, y = os[k] := ⟨_, rfl⟩
            have HY := Lib.hid hy
            obtain ⟨g', og, hA, -, hc⟩ := (HRD.out.old HBK.out).at_ hko
            rcases HA0'.out with hA0' | ⟨gg, hA0'⟩
            · rw [hA0'] at hA; cases hA
            rw [hA0'] at hA
            cases hA
            subst hA0'
            have q0 : wr.cell? ⟨g', k, none⟩ = some (.string (tx y)) := by
              have h := hc 0 (.string (tx os[k])) rfl
              rw [show 0 + k * encT1.k + 0 = k by show 0 + k * 1 + 0 = k; omega, ← hy] at h
              exact h
            have ey := tx_toList y
            clear hc hy
            by_cases hl : y < P
            · have e3 : Op.bytesLess y P = true := by rw [lessB_is]; exact decide_eq_true hl
              have e4 : Op.bytesLess (tx y).toList (tx P).toList = true := by rw [tx_toList, tx_toList]; exact e3
              have HLE2 : Hid (∀ a (ha : a < os.length), a < k + 1 → os[a] < P) := Lib.hid fun a ha h => by
                by_cases e : a = k
                · subst e; rw [← HY.out]; exact hl
                · exact HLE.out a ha (by omega)
              clear hl
              go_wp2
              go_quiet (fail)
              obtain ⟨wy, hwwy⟩ : ∃ y, y = wr.drewN nq := ⟨_, rfl⟩
              have hbwy : Below wr.heap.size wr wy := by rw [hwwy]; exact drewN_below _ _
              rw [← hwwy]
              clear hwwy
              have HBY := Lib.hid (HBK.out.trans (hbwy.mono HBK.out.size))
              clear hbwy p0 q0 e3 e4
              go_wp2
              go_roundw
              case rel => exact ⟨k + 1, by omega, by go_num, HLE2, HBY⟩
              case measure => simp [intOf]; omega
            · have e3 : Op.bytesLess y P = false := by rw [lessB_is]; exact decide_eq_false hl
              have e4 : Op.bytesLess (tx y).toList (tx P).toList = false := by rw [tx_toList, tx_toList]; exact e3
              have HINS0 := Lib.hid (Ls.ins_at (p := P) (l := os) (k := k) (by omega) (fun a ha => HLE.out a (by omega) ha) (fun h => by rw [← HY.out]; exact hl))
              clear hl
              cases q2 : (y == P) with
              | true =>
                have HNM2 : Hid (Ls.NmU (filesOf xs) (i + 1) os) := Lib.hid (by
                  have h := HNM.out.ins hif (by rw [HPP.out]; exact HOK.out)
                  rw [HPP.out, HINS0.out, dif_pos hko, if_pos (by rw [← HY.out]; exact beq_iff_eq.1 q2)] at h
                  exact h)
                go_wp2
                go_quiet (fail)
                obtain ⟨wy, hwwy⟩ : ∃ y, y = wr.drewN nq := ⟨_, rfl⟩
                have hbwy : Below wr.heap.size wr wy := by rw [hwwy]; exact drewN_below _ _
                rw [← hwwy]
                clear hwwy
                have p1 := (hbwy.cell (World.block_lt_of_cell? _ _ p0)).trans p0
                have q1 := (hbwy.cell (World.block_lt_of_cell? _ _ q0)).trans q0
                have HBY := Lib.hid (HBK.out.trans (hbwy.mono HBK.out.size))
                clear hbwy p0 q0 e3 e4
                go_wp2
                go_quiet (fail)
                obtain ⟨wz, hwwz⟩ : ∃ y, y = wy.drewN nq := ⟨_, rfl⟩
                have hbwz : Below wy.heap.size wy wz := by rw [hwwz]; exact drewN_below _ _
                rw [← hwwz]
                clear hwwz
                have hbz : Below wq.heap.size wq wz := HBY.out.trans (hbwz.mono HBY.out.size)
                have pz := (hbwz.cell (World.block_lt_of_cell? _ _ p1)).trans p1
                clear hbwz p1 q1
                clear pz
                go_wp2
                go_roundw
                case rel => exact ⟨i + 1, os, by omega, by go_num, Lib.hid (HOQ.out.old hbz), HNM2, by omega, Lib.hid (HBQ.out.trans (hbz.mono HBQ.out.size))⟩
                case measure => simp [intOf]; omega
              | false =>
                have HINS : Hid (Ls.ins P os = os.take k ++ P :: os.drop k) := Lib.hid (by
                  rw [HINS0.out, dif_pos hko, if_neg (by rw [← HY.out]; exact beq_eq_false_iff_ne.1 q2)])
                go_wp2
                go_quiet (fail)
                obtain ⟨wy, hwwy⟩ : ∃ y, y = wr.drewN nq := ⟨_, rfl⟩
                have hbwy : Below wr.heap.size wr wy := by rw [hwwy]; exact drewN_below _ _
                rw [← hwwy]
                clear hwwy
                have p1 := (hbwy.cell (World.block_lt_of_cell? _ _ p0)).trans p0
                have q1 := (hbwy.cell (World.block_lt_of_cell? _ _ q0)).trans q0
                have HBY := Lib.hid (HBK.out.trans (hbwy.mono HBK.out.size))
                clear hbwy p0 q0 e3 e4
                go_wp2
                go_quiet (fail)
                obtain ⟨wz, hwwz⟩ : ∃ y, y = wy.drewN nq := ⟨_, rfl⟩
                have hbwz : Below wy.heap.size wy wz := by rw [hwwz]; exact drewN_below _ _
                rw [← hwwz]
                clear hwwz
                have hbz : Below wq.heap.size wq wz := HBY.out.trans (hbwz.mono HBY.out.size)
                have pz := (hbwz.cell (World.block_lt_of_cell? _ _ p1)).trans p1
                clear hbwz p1 q1
                obtain ⟨v1, y1, v2, y2, v3, y3, u1, x1, u2, x2, u3, x3, H3⟩ := encT1.ins3 34 9 (.string ByteArray.empty) 16 Try.underlying34 infoText18 rfl (by decide) wz P (.cells #[.string (tx P)] 9) rfl (some ⟨g', 0, none⟩) k C0 (os.take k) (some ⟨g', k, none⟩) (no - k) (C0 - k) (os.drop k) (by have := HON.out; rw [List.length_take]; omega) (by have := HON.out; rw [List.length_drop]; omega) (fun h => by cases h) (fun h => by cases h) (Enc.rd_take (HRD.out.old hbz) k) (by have h := Enc.rd_drop (HRD.out.old hbz) k; rwa [show 0 + k * encT1.k = k by show 0 + k * 1 = k; omega] at h) (by omega)
                have hlen3 : (os.take k ++ [P] ++ os.drop k).length ≤ i + 1 := by
                  rw [List.length_append, List.length_append, List.length_take, List.length_drop, List.length_singleton]
                  have := HON.out
                  omega
                have HNM3 : Hid (Ls.NmU (filesOf xs) (i + 1) (os.take k ++ [P] ++ os.drop k)) := Lib.hid (by
                  have h := HNM.out.ins hif (by rw [HPP.out]; exact HOK.out)
                  rw [HPP.out, HINS.out] at h
                  rwa [List.append_assoc])
                have HF3 := Lib.hid (H3.own.lowerE (HBQ.out.trans (hbz.mono HBQ.out.size)).size)
                have HG3 := Lib.hid (H3.pwn.lowerE (HBQ.out.trans (hbz.mono HBQ.out.size)).size)
                have HBF := Lib.hid ((HBQ.out.trans (hbz.mono HBQ.out.size)).trans (H3.b3.mono (HBQ.out.trans (hbz.mono HBQ.out.size)).size))
                have HBG := Lib.hid ((HBQ.out.trans (hbz.mono HBQ.out.size)).trans (H3.c3.mono (HBQ.out.trans (hbz.mono HBQ.out.size)).size))
                have HS : Hid (∀ y, Below wz.heap.size wz y → y.cell? ⟨g, o + i * 7, none⟩ = some (.string (tx P)) ∧ Below wz.heap.size wz y) := Lib.hid fun y hy => ⟨(hy.cell (World.block_lt_of_cell? _ _ pz)).trans pz, hy⟩
                have hr1 := H3.r1
                have hr2 := H3.r2
                have hr3 := H3.r3
                have hs1 := H3.s1
                have hs2 := H3.s2
                have hs3 := H3.s3
                have s0 := HS.out _ H3.b0
                have s1' := HS.out _ H3.b1
                have s1a := HS.out _ H3.b1a
                have s2' := HS.out _ H3.b2
                have s3' := HS.out _ H3.b3
                have t0 := HS.out _ H3.c0
                have t1 := HS.out _ H3.c1
                have t2 := HS.out _ H3.c2
                have t3 := HS.out _ H3.c3
                clear hbz pz H3
                go_wp2
                have i0 : (0 : Int) ≤ (k : Int) := by omega
                have i1 : (k : Int) ≤ (no : Int) := by omega
                have i2 : (k : Int) ≤ (C0 : Int) := by omega
                have i3 : (no : Int) ≤ (C0 : Int) := by omega
                have i4 : ¬ C0 = k := by omega
                go_region_held3 (fun y => y.cell? ⟨g, o + i * 7, none⟩ = some (.string (tx P)) ∧ Below wz.heap.size wz y)
                  (first
                    | exact s0
                    | exact s1'
                    | exact s1a
                    | exact s2'
                    | exact s3'
                    | exact t0
                    | exact t1
                    | exact t2
                    | exact t3)
                  (first
                    | (refine step_append_eq (by rfl) _ _ _ _ (by rfl) _ _ _ _ hr1 (by rfl) (by rfl) ?_)
                    | (refine step_append_eq (by rfl) _ _ _ _ (by rfl) _ _ _ _ hs1 (by rfl) (by rfl) ?_)
                    | (refine step_append_eq (by rfl) _ _ _ _ (by rfl) _ _ _ _ hr2 (by rfl) (by rfl) ?_)
                    | (refine step_append_eq (by rfl) _ _ _ _ (by rfl) _ _ _ _ hs2 (by rfl) (by rfl) ?_)
                    | (refine step_append_eq (by rfl) _ _ _ _ (by rfl) _ _ _ _ hr3 (by rfl) (by rfl) ?_)
                    | (refine step_append_eq (by rfl) _ _ _ _ (by rfl) _ _ _ _ hs3 (by rfl) (by rfl) ?_))
                all_goals
                  clear s0 s1' s1a s2' s3' t0 t1 t2 t3 hr1 hr2 hr3 hs1 hs2 hs3
                  go_wp2
                  go_roundw
                  case rel => first
                    | exact ⟨i + 1, _, by omega, by go_num, HF3, HNM3, hlen3, HBF⟩
                    | exact ⟨i + 1, _, by omega, by go_num, HG3, HNM3, hlen3, HBG⟩
                  case measure => simp [intOf]; omega
          · have e1 : decide ((k : Int) < (no : Int)) = false := decide_eq_false (by omega)
            have e2 : decide (k < no) = false := decide_eq_false hltk
            have HINS : Hid (Ls.ins P os = os.take k ++ P :: os.drop k) := Lib.hid (by
              have hnk : ¬ k < os.length := by rw [← HON.out]; exact hltk
              rw [Ls.ins_at (p := P) (l := os) (k := k) (by rw [← HON.out]; exact hk) (fun a ha => HLE.out a (by have := HON.out; omega) ha) (fun h => absurd h hnk), dif_neg hnk])
            go_wp2
            go_quiet (fail)
            obtain ⟨wy, hwwy⟩ : ∃ y, y = wr.drewN nq := ⟨_, rfl⟩
            have hbwy : Below wr.heap.size wr wy := by rw [hwwy]; exact drewN_below _ _
            rw [← hwwy]
            clear hwwy
            have p1 := (hbwy.cell (World.block_lt_of_cell? _ _ p0)).trans p0
            have HBY := Lib.hid (HBK.out.trans (hbwy.mono HBK.out.size))
            clear hbwy p0
            go_wp2
            go_quiet (fail)
            obtain ⟨wz, hwwz⟩ : ∃ y, y = wy.drewN nq := ⟨_, rfl⟩
            have hbwz : Below wy.heap.size wy wz := by rw [hwwz]; exact drewN_below _ _
            rw [← hwwz]
            clear hwwz
            have hbz : Below wq.heap.size wq wz := HBY.out.trans (hbwz.mono HBY.out.size)
            have pz := (hbwz.cell (World.block_lt_of_cell? _ _ p1)).trans p1
            clear hbwz p1
            rcases HA0'.out with hA0' | ⟨gg, hA0'⟩
            · obtain ⟨hn0, hC0⟩ := HA0.out hA0'
              subst hA0' hn0 hC0
              have hk0 : k = 0 := by omega
              subst hk0
              have HOS : Hid (os = []) := Lib.hid (List.length_eq_zero_iff.1 HON.out.symm)
              obtain ⟨v1, y1, v2, y2, v3, y3, u1, x1, u2, x2, u3, x3, H3⟩ := encT1.ins3 34 9 (.string ByteArray.empty) 16 Try.underlying34 infoText18 rfl (by decide) wz P (.cells #[.string (tx P)] 9) rfl none 0 0 (os.take 0) none 0 0 (os.drop 0) (by have := HON.out; rw [List.length_take]; omega) (by have := HON.out; rw [List.length_drop]; omega) (fun _ => ⟨rfl, rfl⟩) (fun _ => ⟨rfl, rfl⟩) (fun h => absurd h (by rw [List.length_take]; omega)) (fun h => absurd h (by have := HON.out; rw [List.length_drop]; omega)) (by omega)
              have hlen3 : (os.take 0 ++ [P] ++ os.drop 0).length ≤ i + 1 := by
                rw [List.length_append, List.length_append, List.length_take, List.length_drop, List.length_singleton]
                have := HON.out
                omega
              have HNM3 : Hid (Ls.NmU (filesOf xs) (i + 1) (os.take 0 ++ [P] ++ os.drop 0)) := Lib.hid (by
                have h := HNM.out.ins hif (by rw [HPP.out]; exact HOK.out)
                rw [HPP.out, HINS.out] at h
                rwa [List.append_assoc])
              have HF3 := Lib.hid (H3.own.lowerE (HBQ.out.trans (hbz.mono HBQ.out.size)).size)
              have HG3 := Lib.hid (H3.pwn.lowerE (HBQ.out.trans (hbz.mono HBQ.out.size)).size)
              have HBF := Lib.hid ((HBQ.out.trans (hbz.mono HBQ.out.size)).trans (H3.b3.mono (HBQ.out.trans (hbz.mono HBQ.out.size)).size))
              have HBG := Lib.hid ((HBQ.out.trans (hbz.mono HBQ.out.size)).trans (H3.c3.mono (HBQ.out.trans (hbz.mono HBQ.out.size)).size))
              have HS : Hid (∀ y, Below wz.heap.size wz y → y.cell? ⟨g, o + i * 7, none⟩ = some (.string (tx P)) ∧ Below wz.heap.size wz y) := Lib.hid fun y hy => ⟨(hy.cell (World.block_lt_of_cell? _ _ pz)).trans pz, hy⟩
              have hr1 := H3.r1
              have hr2 := H3.r2
              have hr3 := H3.r3
              have hs1 := H3.s1
              have hs2 := H3.s2
              have hs3 := H3.s3
              have s0 := HS.out _ H3.b0
              have s1' := HS.out _ H3.b1
              have s1a := HS.out _ H3.b1a
              have s2' := HS.out _ H3.b2
              have s3' := HS.out _ H3.b3
              have t0 := HS.out _ H3.c0
              have t1 := HS.out _ H3.c1
              have t2 := HS.out _ H3.c2
              have t3 := HS.out _ H3.c3
              clear hbz pz H3
              go_wp2
              go_region_held3 (fun y => y.cell? ⟨g, o + i * 7, none⟩ = some (.string (tx P)) ∧ Below wz.heap.size wz y)
                (first
                  | exact s0
                  | exact s1'
                  | exact s1a
                  | exact s2'
                  | exact s3'
                  | exact t0
                  | exact t1
                  | exact t2
                  | exact t3)
                (first
                  | (refine step_append_eq (by rfl) _ _ _ _ (by rfl) _ _ _ _ hr1 (by rfl) (by rfl) ?_)
                  | (refine step_append_eq (by rfl) _ _ _ _ (by rfl) _ _ _ _ hs1 (by rfl) (by rfl) ?_)
                  | (refine step_append_eq (by rfl) _ _ _ _ (by rfl) _ _ _ _ hr2 (by rfl) (by rfl) ?_)
                  | (refine step_append_eq (by rfl) _ _ _ _ (by rfl) _ _ _ _ hs2 (by rfl) (by rfl) ?_)
                  | (refine step_append_eq (by rfl) _ _ _ _ (by rfl) _ _ _ _ hr3 (by rfl) (by rfl) ?_)
                  | (refine step_append_eq (by rfl) _ _ _ _ (by rfl) _ _ _ _ hs3 (by rfl) (by rfl) ?_))
              all_goals
                clear s0 s1' s1a s2' s3' t0 t1 t2 t3 hr1 hr2 hr3 hs1 hs2 hs3
                go_wp2
                go_roundw
                case rel => first
                  | exact ⟨i + 1, _, by omega, by go_num, HF3, HNM3, hlen3, HBF⟩
                  | exact ⟨i + 1, _, by omega, by go_num, HG3, HNM3, hlen3, HBG⟩
                case measure => simp [intOf]; omega
            · subst hA0'
              have hkn : k = no := by omega
              by_cases hC : C0 = k
              · have hC' : k = C0 := hC.symm
                subst hC'
                subst hkn
                obtain ⟨v1, y1, v2, y2, v3, y3, u1, x1, u2, x2, u3, x3, H3⟩ := encT1.ins3 34 9 (.string ByteArray.empty) 16 Try.underlying34 infoText18 rfl (by decide) wz P (.cells #[.string (tx P)] 9) rfl (some ⟨gg, 0, none⟩) k k (os.take k) (some ⟨gg, 0, none⟩) 0 0 (os.drop k) (by have := HON.out; rw [List.length_take]; omega) (by have := HON.out; rw [List.length_drop]; omega) (fun h => by cases h) (fun h => by cases h) (Enc.rd_take (HRD.out.old hbz) k) (fun h => absurd h (by have := HON.out; rw [List.length_drop]; omega)) (by omega)
                have hlen3 : (os.take k ++ [P] ++ os.drop k).length ≤ i + 1 := by
                  rw [List.length_append, List.length_append, List.length_take, List.length_drop, List.length_singleton]
                  have := HON.out
                  omega
                have HNM3 : Hid (Ls.NmU (filesOf xs) (i + 1) (os.take k ++ [P] ++ os.drop k)) := Lib.hid (by
                  have h := HNM.out.ins hif (by rw [HPP.out]; exact HOK.out)
                  rw [HPP.out, HINS.out] at h
                  rwa [List.append_assoc])
                have HF3 := Lib.hid (H3.own.lowerE (HBQ.out.trans (hbz.mono HBQ.out.size)).size)
                have HG3 := Lib.hid (H3.pwn.lowerE (HBQ.out.trans (hbz.mono HBQ.out.size)).size)
                have HBF := Lib.hid ((HBQ.out.trans (hbz.mono HBQ.out.size)).trans (H3.b3.mono (HBQ.out.trans (hbz.mono HBQ.out.size)).size))
                have HBG := Lib.hid ((HBQ.out.trans (hbz.mono HBQ.out.size)).trans (H3.c3.mono (HBQ.out.trans (hbz.mono HBQ.out.size)).size))
                have HS : Hid (∀ y, Below wz.heap.size wz y → y.cell? ⟨g, o + i * 7, none⟩ = some (.string (tx P)) ∧ Below wz.heap.size wz y) := Lib.hid fun y hy => ⟨(hy.cell (World.block_lt_of_cell? _ _ pz)).trans pz, hy⟩
                have hr1 := H3.r1
                have hr2 := H3.r2
                have hr3 := H3.r3
                have hs1 := H3.s1
                have hs2 := H3.s2
                have hs3 := H3.s3
                have s0 := HS.out _ H3.b0
                have s1' := HS.out _ H3.b1
                have s1a := HS.out _ H3.b1a
                have s2' := HS.out _ H3.b2
                have s3' := HS.out _ H3.b3
                have t0 := HS.out _ H3.c0
                have t1 := HS.out _ H3.c1
                have t2 := HS.out _ H3.c2
                have t3 := HS.out _ H3.c3
                clear hbz pz H3
                go_wp2
                have i0 : (0 : Int) ≤ (k : Int) := by omega
                have i1 : (k : Int) ≤ (k : Int) := by omega
                go_region_held3 (fun y => y.cell? ⟨g, o + i * 7, none⟩ = some (.string (tx P)) ∧ Below wz.heap.size wz y)
                  (first
                    | exact s0
                    | exact s1'
                    | exact s1a
                    | exact s2'
                    | exact s3'
                    | exact t0
                    | exact t1
                    | exact t2
                    | exact t3)
                  (first
                    | (refine step_append_eq (by rfl) _ _ _ _ (by rfl) _ _ _ _ hr1 (by rfl) (by rfl) ?_)
                    | (refine step_append_eq (by rfl) _ _ _ _ (by rfl) _ _ _ _ hs1 (by rfl) (by rfl) ?_)
                    | (refine step_append_eq (by rfl) _ _ _ _ (by rfl) _ _ _ _ hr2 (by rfl) (by rfl) ?_)
                    | (refine step_append_eq (by rfl) _ _ _ _ (by rfl) _ _ _ _ hs2 (by rfl) (by rfl) ?_)
                    | (refine step_append_eq (by rfl) _ _ _ _ (by rfl) _ _ _ _ hr3 (by rfl) (by rfl) ?_)
                    | (refine step_append_eq (by rfl) _ _ _ _ (by rfl) _ _ _ _ hs3 (by rfl) (by rfl) ?_))
                all_goals
                  clear s0 s1' s1a s2' s3' t0 t1 t2 t3 hr1 hr2 hr3 hs1 hs2 hs3
                  go_wp2
                  go_roundw
                  case rel => first
                    | exact ⟨i + 1, _, by omega, by go_num, HF3, HNM3, hlen3, HBF⟩
                    | exact ⟨i + 1, _, by omega, by go_num, HG3, HNM3, hlen3, HBG⟩
                  case measure => simp [intOf]; omega
              · have i4 : ¬ C0 = k := hC
                clear hkn
                obtain ⟨v1, y1, v2, y2, v3, y3, u1, x1, u2, x2, u3, x3, H3⟩ := encT1.ins3 34 9 (.string ByteArray.empty) 16 Try.underlying34 infoText18 rfl (by decide) wz P (.cells #[.string (tx P)] 9) rfl (some ⟨gg, 0, none⟩) k C0 (os.take k) (some ⟨gg, k, none⟩) (no - k) (C0 - k) (os.drop k) (by have := HON.out; rw [List.length_take]; omega) (by have := HON.out; rw [List.length_drop]; omega) (fun h => by cases h) (fun h => by cases h) (Enc.rd_take (HRD.out.old hbz) k) (by have h := Enc.rd_drop (HRD.out.old hbz) k; rwa [show 0 + k * encT1.k = k by show 0 + k * 1 = k; omega] at h) (by omega)
                have hlen3 : (os.take k ++ [P] ++ os.drop k).length ≤ i + 1 := by
                  rw [List.length_append, List.length_append, List.length_take, List.length_drop, List.length_singleton]
                  have := HON.out
                  omega
                have HNM3 : Hid (Ls.NmU (filesOf xs) (i + 1) (os.take k ++ [P] ++ os.drop k)) := Lib.hid (by
                  have h := HNM.out.ins hif (by rw [HPP.out]; exact HOK.out)
                  rw [HPP.out, HINS.out] at h
                  rwa [List.append_assoc])
                have HF3 := Lib.hid (H3.own.lowerE (HBQ.out.trans (hbz.mono HBQ.out.size)).size)
                have HG3 := Lib.hid (H3.pwn.lowerE (HBQ.out.trans (hbz.mono HBQ.out.size)).size)
                have HBF := Lib.hid ((HBQ.out.trans (hbz.mono HBQ.out.size)).trans (H3.b3.mono (HBQ.out.trans (hbz.mono HBQ.out.size)).size))
                have HBG := Lib.hid ((HBQ.out.trans (hbz.mono HBQ.out.size)).trans (H3.c3.mono (HBQ.out.trans (hbz.mono HBQ.out.size)).size))
                have HS : Hid (∀ y, Below wz.heap.size wz y → y.cell? ⟨g, o + i * 7, none⟩ = some (.string (tx P)) ∧ Below wz.heap.size wz y) := Lib.hid fun y hy => ⟨(hy.cell (World.block_lt_of_cell? _ _ pz)).trans pz, hy⟩
                have hr1 := H3.r1
                have hr2 := H3.r2
                have hr3 := H3.r3
                have hs1 := H3.s1
                have hs2 := H3.s2
                have hs3 := H3.s3
                have s0 := HS.out _ H3.b0
                have s1' := HS.out _ H3.b1
                have s1a := HS.out _ H3.b1a
                have s2' := HS.out _ H3.b2
                have s3' := HS.out _ H3.b3
                have t0 := HS.out _ H3.c0
                have t1 := HS.out _ H3.c1
                have t2 := HS.out _ H3.c2
                have t3 := HS.out _ H3.c3
                clear hbz pz H3
                go_wp2
                have i0 : (0 : Int) ≤ (k : Int) := by omega
                have i1 : (k : Int) ≤ (no : Int) := by omega
                have i2 : (k : Int) ≤ (C0 : Int) := by omega
                have i3 : (no : Int) ≤ (C0 : Int) := by omega
                go_region_held3 (fun y => y.cell? ⟨g, o + i * 7, none⟩ = some (.string (tx P)) ∧ Below wz.heap.size wz y)
                  (first
                    | exact s0
                    | exact s1'
                    | exact s1a
                    | exact s2'
                    | exact s3'
                    | exact t0
                    | exact t1
                    | exact t2
                    | exact t3)
                  (first
                    | (refine step_append_eq (by rfl) _ _ _ _ (by rfl) _ _ _ _ hr1 (by rfl) (by rfl) ?_)
                    | (refine step_append_eq (by rfl) _ _ _ _ (by rfl) _ _ _ _ hs1 (by rfl) (by rfl) ?_)
                    | (refine step_append_eq (by rfl) _ _ _ _ (by rfl) _ _ _ _ hr2 (by rfl) (by rfl) ?_)
                    | (refine step_append_eq (by rfl) _ _ _ _ (by rfl) _ _ _ _ hs2 (by rfl) (by rfl) ?_)
                    | (refine step_append_eq (by rfl) _ _ _ _ (by rfl) _ _ _ _ hr3 (by rfl) (by rfl) ?_)
                    | (refine step_append_eq (by rfl) _ _ _ _ (by rfl) _ _ _ _ hs3 (by rfl) (by rfl) ?_))
                all_goals
                  clear s0 s1' s1a s2' s3' t0 t1 t2 t3 hr1 hr2 hr3 hs1 hs2 hs3
                  go_wp2
                  go_roundw
                  case rel => first
                    | exact ⟨i + 1, _, by omega, by go_num, HF3, HNM3, hlen3, HBF⟩
                    | exact ⟨i + 1, _, by omega, by go_num, HG3, HNM3, hlen3, HBG⟩
                  case measure => simp [intOf]; omega
    · have hin : i = n := by omega
      have e0 : decide (i < n) = false := decide_eq_false hlt
      have HD : Hid (os = Ls.names (filesOf xs)) := Lib.hid (HNM.out.done (by rw [hin, HL.out]))
      obtain ⟨A0, C0, hv, -, -, -, hrd0⟩ := HOW.out.rd
      have HRD := Lib.hid (txR_of hrd0)
      clear hrd0 hin
      subst hv
      go_wp2
      go_ret
      rw [← HD.out]
      exact ⟨A0, C0, rfl, HRD.out, HB.out⟩
end Go.Proofs.Ytjhbmijdpcbbiaa
