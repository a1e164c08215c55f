/- The law WriteDoes. -/
import Derived.Test.YtndofmoepjfnfaaDoorMba
import Derived.Test.YtndofmoepjfnfaaDoorMbb
import Derived.Test.YtndofmoepjfnfaaDoorMbc
namespace Go.Proofs.YtndofmoepjfnfaaDoor
open Go.RowKit
open Pt (Tx)

theorem Wk.one_len (t : St.T) (b : Tx) : (Wk.one t b).blocks.length ≤ t.blocks.length + 1 := by
  unfold Wk.one
  split
  · simp
  · omega
theorem Wk.ap_len : ∀ (xs : List Tx) (t : St.T), (Wk.ap t xs).blocks.length ≤ t.blocks.length + xs.length
  | [], t => by simp [Wk.ap]
  | b :: xs, t => by
    have h1 := Wk.ap_len xs (Wk.one t b)
    have h2 := Wk.one_len t b
    have e : Wk.ap t (b :: xs) = Wk.ap (Wk.one t b) xs := rfl
    rw [e, List.length_cons]
    omega
/-- how long what is done can be -/
theorem Wk.go_long {stop bytes : Int} {ts : List St.T} {l : List (Int × Tx)} {m : Nat} (hb : ∀ t ∈ ts, t.blocks.length ≤ m) : (Wr.go stop bytes 0 ts l).1.length = ts.length ∧ ∀ t ∈ (Wr.go stop bytes 0 ts l).1, t.blocks.length ≤ m + l.length := by
  obtain ⟨l', cut, hgo, hcase⟩ := go_split stop bytes ts l
  have hl : l'.length ≤ l.length := by
    rcases hcase with ⟨-, k, hk, -, rfl⟩ | ⟨-, rfl, -⟩
    · rw [Wk.cutOff_len hk]; omega
    · exact Nat.le_refl _
  rw [hgo]
  refine ⟨by simp, fun t ht => ?_⟩
  obtain ⟨i, hi, e⟩ := List.mem_iff_getElem.1 ht
  rw [List.length_mapIdx] at hi
  rw [List.getElem_mapIdx] at e
  rw [← e]
  have h1 := Wk.ap_len (Wk.mine l' i) ts[i]
  have h2 := Wk.mine_len l' i
  have h3 := hb ts[i] (List.getElem_mem hi)
  omega
set_option maxRecDepth 100000 in
set_option maxHeartbeats 8000000 in
theorem writeDoes_walk (a0 : Option Addr) (ts0 : List St.T) (cap0 : Nat) (a1 : Option Addr) (xs1 : List (Int × Tx)) (cap1 : Nat) (a2 a3 : Int) (w : World) (sh : w.ShapedOpen Tryd.prog) (l0 : ts0.length ≤ cap0) (m0 : cap0 ≤ maxLen) (w0 : RdT w a0 ts0 (fun _ => True)) (l1 : xs1.length ≤ cap1) (w1 : StpR w a1 xs1 (fun _ => True)) :
    Calls Tryd.prog 3 #[.slice a0 ts0.length cap0, .slice a1 xs1.length cap1, .int .i64 a2, .int .i64 a3] w fun e w' => e = .returned (.bool true) ∧ Below w.heap.size w w' := by
  have HAL := Lib.hid (alive20_true w (kept_of sh))
  have HFW : Hid (∀ y, Below w.heap.size w y → Calls Tryd.prog 6 #[.slice a0 ts0.length cap0] y (AnsB (St.few ts0) y)) := Lib.hid fun y hy => few13_any a0 ts0 cap0 _ y (Nat.le_trans l0 m0) (w0.old hy)
  have H0 := Lib.hid w0
  have H1 := Lib.hid w1
  obtain ⟨n0, hn0⟩ : ∃ n, n = ts0.length := ⟨_, rfl⟩
  obtain ⟨n1, hn1⟩ : ∃ n, n = xs1.length := ⟨_, rfl⟩
  rw [← hn0] at HFW l0
  rw [← hn1] at l1
  rw [← hn0, ← hn1]
  have HN0 := Lib.hid hn0
  have HN1 := Lib.hid hn1
  unfold maxLen at m0
  clear sh w0 w1 hn0 hn1
  cases hf : St.few ts0 with
  | false =>
    rw [hf] at HFW
    go_enter Tryd.func3, Tryd.ntmps3
    go_wp2_with (first
      | (go_at_call 5; refine HAL.out.mono ?_; rintro e w1 ⟨rfl, hb1⟩; have HB1 := Lib.hid hb1; clear hb1)
      | (go_at_call 6; refine (HFW.out w1 HB1.out).mono ?_; rintro e w2 ⟨rfl, hb2⟩; have HB2 := Lib.hid (HB1.out.trans (hb2.mono HB1.out.size)); clear hb2))
    go_ret
    exact ⟨rfl, HB2.out⟩
  | true =>
    rw [hf] at HFW
    have HF := Lib.hid hf
    clear hf
    by_cases hl : n1 ≤ 60
    · have d0 : decide ((60 : Int) < (n1 : Int)) = false := decide_eq_false (by omega)
      go_enter Tryd.func3, Tryd.ntmps3
      go_upto_region 4 with (first
        | (go_at_call 5; refine HAL.out.mono ?_; rintro e w1 ⟨rfl, hb1⟩; have HB1 := Lib.hid hb1; clear hb1)
        | (go_at_call 6; refine (HFW.out w1 HB1.out).mono ?_; rintro e w2 ⟨rfl, hb2⟩; have HB2 := Lib.hid (HB1.out.trans (hb2.mono HB1.out.size)); clear hb2))
      have H1B := Lib.hid (H1.out.old HB2.out)
      clear HAL HFW HB1
      go_wp2
      go_loop [10] (fun i => ∃ k : Nat, k ≤ n1 ∧ i = .int .i64 (k : Int) ∧ Hid (∀ j (hj : j < xs1.length), j < k → xs1[j].2.length ≤ 300)) (fun i => n1 - (intOf i).toNat)
      case atStart => exact ⟨0, Nat.zero_le _, rfl, Lib.hid fun j _ h => absurd h (by omega)⟩
      case round =>
        obtain ⟨k, hk, rfl, HJ⟩ := hrel
        by_cases hlt : k < n1
        · have e1 : decide ((k : Int) < (n1 : Int)) = true := decide_eq_true (by omega)
          have hltx : k < xs1.length := by rw [← HN1.out]; exact hlt
          obtain ⟨b, off, rfl, -, hc⟩ := H1B.out (by omega)
          obtain ⟨A', C', x0, x1, -, -, -⟩ := hc k hltx
          obtain ⟨m, hm⟩ : ∃ m, m = xs1[k].2.length := ⟨_, rfl⟩
          rw [← hm] at x1
          have HM := Lib.hid hm
          clear hc hm x0
          by_cases h3 : m ≤ 300
          · have e2 : decide ((300 : Int) < (m : Int)) = false := decide_eq_false (by omega)
            go_wp2
            go_round
            case rel => exact ⟨k + 1, by omega, by go_num, Lib.hid fun j hj hjk => by
              rcases Nat.lt_or_ge j k with h | h
              · exact HJ.out j hj h
              · obtain rfl : j = k := by omega
                rw [← HM.out]; exact h3⟩
            case measure => simp [intOf]; omega
          · have e2 : decide ((300 : Int) < (m : Int)) = true := decide_eq_true (by omega)
            go_wp2
            go_ret
            exact ⟨rfl, HB2.out⟩
        · obtain rfl : k = n1 := by omega
          have e1 : decide ((k : Int) < (k : Int)) = false := decide_eq_false (by omega)
          obtain ⟨r, hr⟩ : ∃ r, r = Wr.go a2 a3 0 ts0 xs1 := ⟨_, rfl⟩
          have h14 := (St.few_of HF.out).1
          have hfw : ∀ t ∈ ts0, t.blocks.length ≤ 90 ∧ ∀ s ∈ t.blocks, s.length ≤ 300 := fun t ht => Tp.few_of ((St.few_of HF.out).2.1 t ht)
          have hx3 : ∀ x ∈ xs1, x.2.length ≤ 1000000 := fun x hx => by
            obtain ⟨j, hj, e⟩ := List.mem_iff_getElem.1 hx
            have := HJ.out j hj (by rw [HN1.out]; exact hj)
            rw [← e]; omega
          have hlong := Wk.go_long (stop := a2) (bytes := a3) (ts := ts0) (l := xs1) (m := 90) fun t ht => (hfw t ht).1
          have HD : Hid (Calls Tryd.prog 7 #[.slice a0 n0 cap0, .slice a1 k cap1, .int .i64 a2, .int .i64 a3] w2 (DoP r w2)) := Lib.hid (by
            rw [hr]
            exact do_any ts0 xs1 a2 a3 a0 n0 cap0 a1 k cap1 _ _ w2 HN0.out (H0.out.old HB2.out) HN1.out H1B.out l1 (by have := HN0.out; omega) (by omega) (fun t ht => ⟨by have := (hfw t ht).1; omega, fun s hs => by have := (hfw t ht).2 s hs; omega⟩) hx3)
          have HRD : Hid (∀ y, Below w2.heap.size w2 y → Calls Tryd.prog 8 #[.slice a0 n0 cap0, .slice a1 k cap1, .int .i64 a2, .int .i64 a3] y (DoA r y)) := Lib.hid fun y hy => by
            rw [hr]
            have hby := HB2.out.trans (hy.mono HB2.out.size)
            exact refDo_any ts0 xs1 a2 a3 a0 n0 cap0 a1 k cap1 _ _ y HN0.out (H0.out.old hby) HN1.out (H1.out.old hby) (by have := HN0.out; omega) (by omega) (fun t ht => ⟨by have := (hfw t ht).1; omega, fun s hs => by have := (hfw t ht).2 s hs; omega⟩) hx3
          rw [← hr] at hlong
          obtain ⟨rt, q⟩ := r
          have hlr := hlong.1
          dsimp only at hlr
          have HRL : Hid (∀ t ∈ rt, t.blocks.length ≤ 1000000) := Lib.hid fun t ht => by
            have := hlong.2 t ht
            have := HN1.out
            omega
          have HLR : Hid (rt.length = n0) := Lib.hid (by rw [hlr, HN0.out])
          have hqq : (q == q) = true := by simp
          have h140 : n0 ≤ 14 := by rw [HN0.out]; exact h14
          clear hr h14 hfw hx3 hlong hlr HJ
          go_wp2_with fail
          refine HD.out.mono ?_
          rintro e w3 ⟨A3, C3, rfl, hr3, hb3⟩
          dsimp only at hr3 ⊢
          rw [HLR.out]
          have HR3 := Lib.hid hr3
          have HB3 := Lib.hid hb3
          clear hr3 hb3
          go_wp2_with fail
          refine (HRD.out w3 HB3.out).mono ?_
          rintro e w4 ⟨v4, rfl, ht4, hb4⟩
          obtain ⟨A4, C4, rfl, -, -, -⟩ := ht4.val
          have HR4 := Lib.hid ht4.rdT
          have HR34 := Lib.hid (HR3.out.old hb4)
          have HB4 := Lib.hid (HB2.out.trans ((HB3.out.trans (hb4.mono HB3.out.size)).mono HB2.out.size))
          clear ht4 hb4
          dsimp only
          rw [HLR.out]
          have hSM := sameTapes_yes A3 C3 rt _ A4 C4 _ n0 w4 HLR.out (by omega) HRL.out HR34.out HR4.out
          have HSM := Lib.hid hSM
          clear hSM
          go_wp2_with (go_at_call 9; refine HSM.out.mono ?_; rintro e w5 ⟨rfl, hb5⟩; have HB5 := Lib.hid (HB4.out.trans (hb5.mono HB4.out.size)); clear hb5)
          go_ret
          exact ⟨rfl, HB5.out⟩
    · have d0 : decide ((60 : Int) < (n1 : Int)) = true := decide_eq_true (by omega)
      go_enter Tryd.func3, Tryd.ntmps3
      go_wp2_with (first
        | (go_at_call 5; refine HAL.out.mono ?_; rintro e w1 ⟨rfl, hb1⟩; have HB1 := Lib.hid hb1; clear hb1)
        | (go_at_call 6; refine (HFW.out w1 HB1.out).mono ?_; rintro e w2 ⟨rfl, hb2⟩; have HB2 := Lib.hid (HB1.out.trans (hb2.mono HB1.out.size)); clear hb2))
      go_ret
      exact ⟨rfl, HB2.out⟩
end Go.Proofs.YtndofmoepjfnfaaDoor
