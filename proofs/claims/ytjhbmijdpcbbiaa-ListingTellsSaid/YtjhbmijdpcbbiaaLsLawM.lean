/- What ListingNames answers: true. -/
import Derived.Test.YtjhbmijdpcbbiaaLsAlive
import Derived.Test.YtjhbmijdpcbbiaaFlOpen
import Derived.Test.YtjhbmijdpcbbiaaLsIns
namespace Go.Proofs.Ytjhbmijdpcbbiaa
open Go.RowKit
open Pt (Tx)

theorem Fx.In.fit {x : Fx} {w : World} (h : x.In w) : x.Fit w := ⟨h.ok.rd, h.few, by have := h.path; omega, fun q hq => by have := h.paths q hq; omega⟩
theorem namesW_len (l : List Ct.F) : ∀ r : List Ct.F, (Ls.namesW l r).length ≤ r.length
  | [] => Nat.le_refl _
  | f :: r => by
    rw [Ls.namesW]
    have := namesW_len l r
    split
    · have h := Ls.ins_len f.path (Ls.namesW l r)
      rw [List.length_cons]; omega
    · rw [List.length_cons]; omega
theorem names_short (l : List Ct.F) (h : l.length ≤ 1000000000) : (Ls.names l).length ≤ 1000000000 := Nat.le_trans (namesW_len l l) h
/-- is it one of the first k -/
def anyN (ns : List Tx) (k : Nat) (p : Tx) : Bool := (ns.take k).any fun q => q == p
theorem anyN_succ (ns : List Tx) (k : Nat) (p : Tx) (h : k < ns.length) : anyN ns (k + 1) p = (anyN ns k p || (ns[k] == p)) := by
  unfold anyN
  rw [List.take_succ_eq_append_getElem h, List.any_append]
  simp
theorem anyN_all {l : List Ct.F} (ns : List Tx) (p : Tx) (h : ns = Ls.names l) : anyN ns ns.length p = (Ls.newest l p).isSome := by
  unfold anyN
  rw [List.take_length]
  have h1 : ((ns.any fun q => q == p) = true) ↔ (Ls.newest l p).isSome = true := by
    rw [List.any_eq_true, ← Ls.mem_names, ← h]
    constructor
    · rintro ⟨q, hq, he⟩
      rw [← beq_iff_eq.1 he]; exact hq
    · intro hp
      exact ⟨p, hp, beq_self_eq_true _⟩
  exact Bool.eq_iff_iff.2 h1
set_option maxRecDepth 100000 in
set_option maxHeartbeats 16000000 in
theorem names_main (xs : List Fx) (n C : Nat) (A : Option Addr) (G : Nat → Prop) (w : World) (hn : n = xs.length) (hm : n ≤ 40) (hr : encF.Rd w A xs G) (ho : ∀ x ∈ xs, x.Fit w) :
    Calls Try.prog 4 #[.slice A n C] w fun e w' => e = .returned (.bool true) ∧ Below w.heap.size w w' := by
  have HN := Lib.hid hn
  have HR := Lib.hid hr
  have HO := Lib.hid ho
  have HL : Hid ((filesOf xs).length = n) := Lib.hid (by rw [filesOf_len, hn])
  have hm2 : n ≤ 1000000 := by omega
  have g1 : decide (40 < n) = false := decide_eq_false (by omega)
  have g2 : decide (40 < (n : Int)) = false := decide_eq_false (by omega)
  have HAL := Lib.hid (alive18_true w)
  have HNA : Hid (∀ y, Below w.heap.size w y → Calls Try.prog 17 #[.slice A n C] y (NamesA (Ls.names (filesOf xs)) y)) := Lib.hid fun y hy => names_any xs n C A G y hn hm2 (hr.old hy) (fun x hx => (ho x hx).path)
  clear hn hr ho
  go_enter Try.func4, Try.ntmps4
  go_wp2_with fail
  refine HAL.out.mono ?_
  rintro e w1 ⟨rfl, hb1⟩
  have HB1 := Lib.hid hb1
  clear hb1 HAL
  go_wp2_with fail
  refine (HNA.out w1 HB1.out).mono ?_
  rintro e w2 ⟨An, Cn, rfl, htx, hb2⟩
  have HB2 := Lib.hid (HB1.out.trans (hb2.mono HB1.out.size))
  obtain ⟨ns, hns⟩ : ∃ ns, ns = Ls.names (filesOf xs) := ⟨_, rfl⟩
  rw [← hns] at htx ⊢
  obtain ⟨no, hno⟩ : ∃ m, m = ns.length := ⟨_, rfl⟩
  rw [← hno]
  have HTX := Lib.hid htx
  have HNS := Lib.hid hns
  have HNO := Lib.hid hno
  have HUP : Hid (Ls.Up ns) := Lib.hid (by rw [hns]; exact Ls.up_names _)
  have hno2 : no ≤ 1000000000 := by
    rw [hno, hns]
    exact names_short (filesOf xs) (by rw [HL.out]; omega)
  clear htx hb2 hns hno HNA g1 g2
  go_wp2
  go_loopw [5] (fun vi wr => ∃ i : Nat, i ≤ no ∧ vi = .int .i64 (i : Int) ∧ Hid (Below w2.heap.size w2 wr)) (fun vi _ => no - (intOf vi).toNat)
  case atStart => exact ⟨0, Nat.zero_le _, rfl, Lib.hid (Below.refl _ _)⟩
  case round =>
    obtain ⟨i, hi, rfl, HB⟩ := hrel
    have HBW := Lib.hid (HB2.out.trans (HB.out.mono HB2.out.size))
    by_cases hlt : i < no
    · have e0 : decide ((i : Int) < (no : Int)) = true := decide_eq_true (by omega)
      have e0' : decide (i < no) = true := decide_eq_true hlt
      have hin : i < ns.length := by rw [← HNO.out]; exact hlt
      obtain ⟨y, hy⟩ : ∃ y, y = ns[i] := ⟨_, rfl⟩
      have HIS : Hid ((Ls.newest (filesOf xs) y).isSome = true) := Lib.hid (Ls.mem_names.1 (by rw [← HNS.out, hy]; exact List.getElem_mem hin))
      have HC := Lib.hid (newest_any xs n C A G y wr HN.out hm2 (HR.out.old HBW.out) (fun x hx => (HO.out x hx).old HBW.out))
      obtain ⟨gn, on, rfl, q0⟩ := (HTX.out.old HB.out).at hin
      rw [← hy] at q0
      have HTX2 := HTX
      have HPREV : Hid (∀ k (hk : k + 1 = i), ∃ z, (∃ hz : k < ns.length, z = ns[k]) ∧ z < y) := Lib.hid fun k hk => ⟨ns[k]'(by omega), ⟨by omega, rfl⟩, by rw [hy]; exact List.pairwise_iff_getElem.1 HUP.out k i (by omega) hin (by omega)⟩
      clear hy
      go_wp2_with fail
      refine HC.out.mono ?_
      intro e w3 ha
      rcases ha.cases with ⟨h0, rfl, hb3⟩ | ⟨P', v', z', s', r', b', pl', A', m', C', h0, hm', rfl, hrd, hb3⟩
      · have h := HIS.out; rw [h0] at h; cases h
      obtain ⟨wq, hwq⟩ : ∃ x, x = w3.alloc (fileO P' v' z' s' r' b' A' m' C') := ⟨_, rfl⟩
      have hbq : Below wr.heap.size wr wq := by rw [hwq]; exact hb3.alloc hb3.size _
      have HWQ : Hid (wq = w3.alloc (.cells #[.string (tx P'), .int .i64 v', .int .i64 z', .int .i64 s', .int .i64 r', .bool b', .slice A' m' C'] 26)) := Lib.hid hwq
      have HBQ := Lib.hid (HB.out.trans (hbq.mono HB.out.size))
      have q1 := (hbq.cell (World.block_lt_of_cell? _ _ q0)).trans q0
      clear h0 hb3 ha hwq hbq q0 HC hm' hrd
      have ey := tx_toList y
      have HD : Hid (∀ m, Below w2.heap.size w2 (wq.drewN m)) := Lib.hid fun m => HBQ.out.trans ((drewN_below wq m).mono HBQ.out.size)
      by_cases h0i : i = 0
      · have f0 : decide ((0 : Int) < (i : Int)) = false := decide_eq_false (by omega)
        have f1 : decide (0 < i) = false := decide_eq_false (by omega)
        clear h0i
        go_upto_region 9 with fail
        rw [← HWQ.out]
        go_wp2_with (go_quiet (fail))
        go_wp2
        go_roundw
        case rel => exact ⟨i + 1, by omega, by go_num, Lib.hid (HD.out _)⟩
        case measure => simp [intOf]; omega
      · obtain ⟨k, hk⟩ : ∃ k, k + 1 = i := ⟨i - 1, by omega⟩
        obtain ⟨z, ⟨hz, hzz⟩, hlz⟩ := HPREV.out k hk
        have f0 : decide ((0 : Int) < (i : Int)) = true := decide_eq_true (by omega)
        have f1 : decide (0 < i) = true := decide_eq_true (by omega)
        have s1 : IntKind.i64.wrap ((i : Int) - 1) = (k : Int) := by rw [IntWalk.i64_in _ (by omega)]; omega
        obtain ⟨gn', on', hA, q2⟩ := (HTX2.out.old HBQ.out).at hz
        cases hA
        rw [← hzz] at q2
        have ez := tx_toList z
        have f2 : Op.bytesLess z y = true := by rw [lessB_is]; exact decide_eq_true hlz
        have f3 : Op.bytesLess (tx z).toList (tx y).toList = true := by rw [tx_toList, tx_toList]; exact f2
        have hkno : k < no := by omega
        clear h0i hk hzz hlz hz
        go_upto_region 9 with fail
        rw [← HWQ.out]
        go_wp2_with (go_quiet (fail))
        go_wp2
        go_roundw
        case rel => exact ⟨i + 1, by omega, by go_num, Lib.hid (HD.out _)⟩
        case measure => simp [intOf]; omega
    · have e0 : decide ((i : Int) < (no : Int)) = false := decide_eq_false (by omega)
      have e0' : decide (i < no) = false := decide_eq_false hlt
      clear hlt hi
      go_wp2
      clear e0 e0'
      go_loopw [8] (fun vj wr => ∃ j : Nat, j ≤ n ∧ vj = .int .i64 (j : Int) ∧ Hid (Below w2.heap.size w2 wr)) (fun vj _ => n - (intOf vj).toNat)
      case atStart => exact ⟨0, Nat.zero_le _, rfl, HB⟩
      case round =>
        clear HBW HB
        obtain ⟨j, hj, rfl, HB⟩ := hrel
        have HBW := Lib.hid (HB2.out.trans (HB.out.mono HB2.out.size))
        by_cases hlt : j < n
        · have e0 : decide ((j : Int) < (n : Int)) = true := decide_eq_true (by omega)
          have e0' : decide (j < n) = true := decide_eq_true hlt
          have hix : j < xs.length := by rw [← HN.out]; exact hlt
          obtain ⟨⟨⟨P, v, z, s, r, b, pl⟩, A1, C1⟩, hx⟩ : ∃ x, x = xs[j] := ⟨_, rfl⟩
          have HC := Lib.hid (newest_any xs n C A G P wr HN.out hm2 (HR.out.old HBW.out) (fun x hx => (HO.out x hx).old HBW.out))
          obtain ⟨g, o, rfl, c⟩ := seven_at (HR.out.old HBW.out) hix hx
          obtain ⟨c0, -, -, -, -, -, -⟩ := c
          have eP := tx_toList P
          clear hx
          go_wp2_with fail
          refine HC.out.mono ?_
          intro e w3 ha
          rcases ha.cases with ⟨h0, rfl, hb3⟩ | ⟨P', v', z', s', r', b', pl', A', m', C', h0, hm', rfl, hrd, hb3⟩
          · have HOK : Hid ((Ls.newest (filesOf xs) P).isSome = false) := Lib.hid (by rw [h0]; rfl)
            obtain ⟨wq, hwq⟩ : ∃ x, x = w3.alloc (fileO [] 0 0 0 0 false none 0 0) := ⟨_, rfl⟩
            have hbq : Below wr.heap.size wr wq := by rw [hwq]; exact hb3.alloc hb3.size _
            have HWQ : Hid (wq = w3.alloc (.cells #[.string ⟨#[]⟩, .int .i64 0, .int .i64 0, .int .i64 0, .int .i64 0, .bool false, .slice none 0 0] 26)) := Lib.hid hwq
            have HBQ := Lib.hid (HB.out.trans (hbq.mono HB.out.size))
            have HP0 := Lib.hid ((hbq.cell (World.block_lt_of_cell? _ _ c0)).trans c0)
            have HEND : Hid (anyN ns ns.length P = false) := Lib.hid ((anyN_all ns P HNS.out).trans HOK.out)
            clear h0 hb3 ha hwq hbq c0 HC 
            go_upto_region 15 with fail
            rw [← HWQ.out]
            go_wp2
            go_loopw [12, 11] (fun vk vn wr => ∃ k : Nat, k ≤ no ∧ vk = .int .i64 (k : Int) ∧ vn = .bool (anyN ns k P) ∧ Hid (Below wq.heap.size wq wr)) (fun vk _ _ => no - (intOf vk).toNat)
            case atStart => exact ⟨0, Nat.zero_le _, rfl, rfl, Lib.hid (Below.refl _ _)⟩
            case round =>
              obtain ⟨k, hk, rfl, rfl, HBK⟩ := hrel
              by_cases hltk : k < no
              · have e1 : decide (k < no) = true := decide_eq_true hltk
                have hkn : k < ns.length := by rw [← HNO.out]; exact hltk
                obtain ⟨y, hy⟩ : ∃ y, y = ns[k] := ⟨_, rfl⟩
                have HANY : Hid (anyN ns (k + 1) P = (anyN ns k P || (y == P))) := Lib.hid (by rw [hy]; exact anyN_succ ns k P hkn)
                have p0 := (HBK.out.cell (World.block_lt_of_cell? _ _ HP0.out)).trans HP0.out
                obtain ⟨gn, on, rfl, q0⟩ := (HTX.out.old (HBQ.out.trans (HBK.out.mono HBQ.out.size))).at hkn
                rw [← hy] at q0
                have ey := tx_toList y
                have HD : Hid (∀ m, Below wq.heap.size wq (wr.drewN m)) := Lib.hid fun m => HBK.out.trans ((drewN_below wr m).mono HBK.out.size)
                clear hy
                cases hd : anyN ns k P with
                | true =>
                  have HD2 : Hid (Value.bool true = .bool (anyN ns (k + 1) P)) := Lib.hid (by rw [HANY.out, hd]; rfl)
                  clear hd
                  go_wp2_with (go_quiet (fail))
                  go_wp2
                  go_roundw
                  case rel => exact ⟨k + 1, by omega, by go_num, HD2.out, Lib.hid (HD.out _)⟩
                  case measure => simp [intOf]; omega
                | false =>
                  cases hq : (y == P) with
                  | true =>
                    have HD2 : Hid (Value.bool true = .bool (anyN ns (k + 1) P)) := Lib.hid (by rw [HANY.out, hd, hq]; rfl)
                    clear hd
                    go_wp2_with (go_quiet (fail))
                    go_wp2
                    go_roundw
                    case rel => exact ⟨k + 1, by omega, by go_num, HD2.out, Lib.hid (HD.out _)⟩
                    case measure => simp [intOf]; omega
                  | false =>
                    have HD2 : Hid (Value.bool false = .bool (anyN ns (k + 1) P)) := Lib.hid (by rw [HANY.out, hd, hq]; rfl)
                    clear hd
                    go_wp2_with (go_quiet (fail))
                    go_wp2
                    go_roundw
                    case rel => exact ⟨k + 1, by omega, by go_num, HD2.out, Lib.hid (HD.out _)⟩
                    case measure => simp [intOf]; omega
              · have e1 : decide (k < no) = false := decide_eq_false hltk
                have hkn : k = ns.length := by have := HNO.out; omega
                have HE2 : anyN ns k P = false := by rw [hkn]; exact HEND.out
                rw [HE2]
                clear hkn HE2
                go_wp2
                go_roundw
                case rel => exact ⟨j + 1, by omega, by go_num, Lib.hid (HBQ.out.trans (HBK.out.mono HBQ.out.size))⟩
                case measure => simp [intOf]; omega
          · have HOK : Hid ((Ls.newest (filesOf xs) P).isSome = true) := Lib.hid (by rw [h0]; rfl)
            obtain ⟨wq, hwq⟩ : ∃ x, x = w3.alloc (fileO P' v' z' s' r' b' A' m' C') := ⟨_, rfl⟩
            have hbq : Below wr.heap.size wr wq := by rw [hwq]; exact hb3.alloc hb3.size _
            have HWQ : Hid (wq = w3.alloc (.cells #[.string (tx P'), .int .i64 v', .int .i64 z', .int .i64 s', .int .i64 r', .bool b', .slice A' m' C'] 26)) := Lib.hid hwq
            have HBQ := Lib.hid (HB.out.trans (hbq.mono HB.out.size))
            have HP0 := Lib.hid ((hbq.cell (World.block_lt_of_cell? _ _ c0)).trans c0)
            have HEND : Hid (anyN ns ns.length P = true) := Lib.hid ((anyN_all ns P HNS.out).trans HOK.out)
            clear h0 hb3 ha hwq hbq c0 HC hm' hrd
            go_upto_region 15 with fail
            rw [← HWQ.out]
            go_wp2
            go_loopw [12, 11] (fun vk vn wr => ∃ k : Nat, k ≤ no ∧ vk = .int .i64 (k : Int) ∧ vn = .bool (anyN ns k P) ∧ Hid (Below wq.heap.size wq wr)) (fun vk _ _ => no - (intOf vk).toNat)
            case atStart => exact ⟨0, Nat.zero_le _, rfl, rfl, Lib.hid (Below.refl _ _)⟩
            case round =>
              obtain ⟨k, hk, rfl, rfl, HBK⟩ := hrel
              by_cases hltk : k < no
              · have e1 : decide (k < no) = true := decide_eq_true hltk
                have hkn : k < ns.length := by rw [← HNO.out]; exact hltk
                obtain ⟨y, hy⟩ : ∃ y, y = ns[k] := ⟨_, rfl⟩
                have HANY : Hid (anyN ns (k + 1) P = (anyN ns k P || (y == P))) := Lib.hid (by rw [hy]; exact anyN_succ ns k P hkn)
                have p0 := (HBK.out.cell (World.block_lt_of_cell? _ _ HP0.out)).trans HP0.out
                obtain ⟨gn, on, rfl, q0⟩ := (HTX.out.old (HBQ.out.trans (HBK.out.mono HBQ.out.size))).at hkn
                rw [← hy] at q0
                have ey := tx_toList y
                have HD : Hid (∀ m, Below wq.heap.size wq (wr.drewN m)) := Lib.hid fun m => HBK.out.trans ((drewN_below wr m).mono HBK.out.size)
                clear hy
                cases hd : anyN ns k P with
                | true =>
                  have HD2 : Hid (Value.bool true = .bool (anyN ns (k + 1) P)) := Lib.hid (by rw [HANY.out, hd]; rfl)
                  clear hd
                  go_wp2_with (go_quiet (fail))
                  go_wp2
                  go_roundw
                  case rel => exact ⟨k + 1, by omega, by go_num, HD2.out, Lib.hid (HD.out _)⟩
                  case measure => simp [intOf]; omega
                | false =>
                  cases hq : (y == P) with
                  | true =>
                    have HD2 : Hid (Value.bool true = .bool (anyN ns (k + 1) P)) := Lib.hid (by rw [HANY.out, hd, hq]; rfl)
                    clear hd
                    go_wp2_with (go_quiet (fail))
                    go_wp2
                    go_roundw
                    case rel => exact ⟨k + 1, by omega, by go_num, HD2.out, Lib.hid (HD.out _)⟩
                    case measure => simp [intOf]; omega
                  | false =>
                    have HD2 : Hid (Value.bool false = .bool (anyN ns (k + 1) P)) := Lib.hid (by rw [HANY.out, hd, hq]; rfl)
                    clear hd
                    go_wp2_with (go_quiet (fail))
                    go_wp2
                    go_roundw
                    case rel => exact ⟨k + 1, by omega, by go_num, HD2.out, Lib.hid (HD.out _)⟩
                    case measure => simp [intOf]; omega
              · have e1 : decide (k < no) = false := decide_eq_false hltk
                have hkn : k = ns.length := by have := HNO.out; omega
                have HE2 : anyN ns k P = true := by rw [hkn]; exact HEND.out
                rw [HE2]
                clear hkn HE2
                go_wp2
                go_roundw
                case rel => exact ⟨j + 1, by omega, by go_num, Lib.hid (HBQ.out.trans (HBK.out.mono HBQ.out.size))⟩
                case measure => simp [intOf]; omega
        · have e0 : decide ((j : Int) < (n : Int)) = false := decide_eq_false (by omega)
          have e0' : decide (j < n) = false := decide_eq_false hlt
          go_wp2
          go_ret
          exact ⟨rfl, HBW.out⟩
set_option maxRecDepth 100000 in
set_option maxHeartbeats 4000000 in
theorem names_walk (A : Option Addr) (xs : List Fx) (C : Nat) (w : World) (hr : encF.Rd w A xs (fun _ => True)) (hi : ∀ x ∈ xs, x.In w) :
    Calls Try.prog 4 #[.slice A xs.length C] w fun e w' => e = .returned (.bool true) ∧ Below w.heap.size w w' := by
  by_cases h : xs.length ≤ 40
  · exact names_main xs xs.length C A _ w rfl h hr (fun x hx => (hi x hx).fit)
  · obtain ⟨n, hn⟩ : ∃ n, n = xs.length := ⟨_, rfl⟩
    rw [← hn] at h ⊢
    have g1 : decide (40 < n) = true := decide_eq_true (by omega)
    have g2 : decide (40 < (n : Int)) = true := decide_eq_true (by omega)
    have HAL := Lib.hid (alive18_true w)
    clear hr hi h hn
    go_enter Try.func4, Try.ntmps4
    go_wp2_with fail
    refine HAL.out.mono ?_
    rintro e w1 ⟨rfl, hb1⟩
    have HB1 := Lib.hid hb1
    clear hb1
    go_wp2
    go_ret
    exact ⟨rfl, HB1.out⟩
end Go.Proofs.Ytjhbmijdpcbbiaa
