/- What is turned twice is as it was, and nothing else is turned. -/
import Derived.Test.YtflcnghjhgfkfaaTpTop
import Derived.Test.YtflcnghjhgfkfaaTpRot
import Derived.Test.YtflcnghjhgfkfaaTpSame
import Derived.Test.YtflcnghjhgfkfaaTpCut
import Derived.Test.YtflcnghjhgfkfaaTpAlive
namespace Go.Proofs.Ytflcnghjhgfkfaa
open Go.RowKit
open Pt (Tx)

def rb (i : Nat) : Tx := [UInt8.ofNat i, 1, 2, 3, 4, 5]
def rbs (k : Nat) : List Tx := (List.range k).map rb
theorem rb_len (i : Nat) : (rb i).length = 6 := rfl
theorem rbs_len (k : Nat) : (rbs k).length = k := by simp [rbs]
theorem rbs_succ (k : Nat) : rbs k ++ [rb k] = rbs (k + 1) := by simp [rbs, List.range_succ]
theorem rbs_at {k i : Nat} (h : i < (rbs k).length) : (rbs k)[i] = rb i := by simp [rbs]
theorem rbs_ok (B : Nat) (h : B ≤ 30) : Tp.right 2 30 (rbs B) = true := by
  simp only [Tp.right, rbs_len, Bool.and_eq_true, decide_eq_true_eq, List.all_eq_true]
  refine ⟨⟨⟨⟨by omega, by omega⟩, by omega⟩, by omega⟩, fun s hs => ?_⟩
  obtain ⟨i, _, rfl⟩ := List.mem_map.1 hs
  simp [Tp.okB, rb_len]
theorem own_val {w : World} {B : Nat} {t : TypeId} {v : Value} {n : Nat} {xs : List Value} (h : w.ownsRow B t 1 v n xs) : ∃ A C, v = .slice A n C := by
  rcases h.2 with ⟨rfl, rfl⟩ | ⟨g, cap, cur, rfl, _⟩
  · exact ⟨_, _, rfl⟩
  · exact ⟨_, _, rfl⟩
theorem rb_own (w : World) (k : Nat) (hk : k < 256) (B : Nat) (hB : B ≤ w.heap.size) : OwnL (w.alloc (.cells #[.int .u8 (k : Int), .int .u8 1, .int .u8 2, .int .u8 3, .int .u8 4, .int .u8 5] 5)) B (.slice (some ⟨w.heap.size, 0, none⟩) 6 6) (rb k) := by
  refine ⟨rfl, .inr ⟨w.heap.size, 6, _, rfl, hB, Go.Deep.blk_alloc_new _ _, Nat.le_refl _, by decide, rfl, ?_⟩⟩
  simp [cellsL, rb]; omega
theorem load_as (lab cap : Int) (A : Option Addr) (bs : List Tx) (n C : Nat) (G : Nat → Prop) (w : World) (hn : bs.length = n) (hr : RdB w A bs G) (hT : Tp.right lab cap bs = true) :
    Calls Try.prog 9 #[.agg #[.int .i64 lab, .int .i64 cap, .slice A n C, .bool false]] w (LoadOk lab cap bs w) := by
  subst hn; exact load_ok lab cap A bs C G w hr hT
set_option maxRecDepth 100000 in
set_option maxHeartbeats 4000000 in
theorem rots_main (B N : Nat) (A : Option Addr) (t : Tx) (C : Nat) (w : World) (hB : 1 ≤ B) (hB' : B ≤ 30) (hN : N < B) (ht : t.length ≤ 100) (hr : RdL w A t (fun _ => True)) :
    Calls Try.prog 6 #[.int .i64 (B : Int), .int .i64 (N : Int), .slice A t.length C] w (AnsB true w) := by
  have d1 : decide ((B : Int) < 1) = false := decide_eq_false (by omega)
  have d2 : decide (30 < (B : Int)) = false := decide_eq_false (by omega)
  have d3 : decide ((N : Int) < 0) = false := decide_eq_false (by omega)
  have d4 : decide (B ≤ N) = false := decide_eq_false (by omega)
  have d5 : decide (100 < (t.length : Int)) = false := decide_eq_false (by omega)
  have HR : Hid (RdL w A t (· < w.heap.size)) := Lib.hid (hr.in_.mono fun _ h => h.2)
  obtain ⟨T, hT⟩ : ∃ T, T = t.length := ⟨_, rfl⟩
  rw [← hT] at d5 ht ⊢
  have HT := Lib.hid hT
  clear hr hT
  go_enter Try.func6, Try.ntmps6
  go_wp2_with (first
    | (go_at_call 7; refine (alive8_true w).mono ?_; rintro e w0 ⟨rfl, hb0⟩; have HB0 := Lib.hid hb0; clear hb0))
  have hb1 : Below w.heap.size w (w0.alloc (.cells #[.int .i64 2, .int .i64 30, .slice none 0 0, .bool false] 24)) := HB0.out.alloc HB0.out.size _
  have ht1 : (w0.alloc (.cells #[.int .i64 2, .int .i64 30, .slice none 0 0, .bool false] 24)).heap[w0.heap.size]? = some (.cells #[.int .i64 2, .int .i64 30, .slice none 0 0, .bool false] 24 (0, 0)) := Go.Deep.blk_alloc_new _ _
  have hlo : w.heap.size ≤ w0.heap.size := HB0.out.size
  generalize w0.alloc (.cells #[.int .i64 2, .int .i64 30, .slice none 0 0, .bool false] 24) = w1 at hb1 ht1 ⊢
  generalize w0.heap.size = tb at ht1 hlo ⊢
  have HB1 := Lib.hid hb1
  have HT1 := Lib.hid ht1
  clear hb1 ht1 HB0
  go_loopw [9] (fun i wr => ∃ (k : Nat) (us : List Value) (v : Value), k ≤ B ∧ i = .int .i64 (k : Int) ∧ Hid (wr.heap[tb]? = some (.cells #[.int .i64 2, .int .i64 30, v, .bool false] 24 (0, 0))) ∧ Hid (TopB wr w.heap.size (· ≠ tb) v us (rbs k)) ∧ Hid (Below w.heap.size w wr)) (fun i _ => B - (intOf i).toNat)
  case atStart => exact ⟨0, [], .slice none 0 0, by omega, rfl, HT1, Lib.hid (TopB.nil _ _ _), HB1⟩
  case round =>
    clear HT1 HB1
    obtain ⟨k, us, v, hk, rfl, HT1, HP, HB1⟩ := hrel
    have htl : tb < wr.heap.size := heap_lt HT1.out
    obtain ⟨Av, Cv, hv, _⟩ := HP.out.val
    rw [rbs_len] at hv
    subst hv
    have c2 : wr.cell? ⟨tb, 2, none⟩ = some (.slice Av k Cv) := heap_cell HT1.out
    by_cases hlt : k < B
    · have hul : us.length = k := by rw [HP.out.len, rbs_len]
      have hR0 := rb_own wr k (by omega) w.heap.size HB1.out.size
      have hbR : Below wr.heap.size wr (wr.alloc (.cells #[.int .u8 (k : Int), .int .u8 1, .int .u8 2, .int .u8 3, .int .u8 4, .int .u8 5] 5)) := (Below.refl _ _).alloc (Nat.le_refl _) _
      have hbL : Below wr.heap.size wr ((wr.alloc (.cells #[.int .u8 (k : Int), .int .u8 1, .int .u8 2, .int .u8 3, .int .u8 4, .int .u8 5] 5)).alloc (.cells #[.slice (some ⟨wr.heap.size, 0, none⟩) 6 6] 35)) := hbR.alloc hbR.size _
      have hown := (HP.out.old hbL).top
      have HU := Lib.hid (hR0.alloc (.cells #[.slice (some ⟨wr.heap.size, 0, none⟩) 6 6] 35))
      have HBL := Lib.hid hbL
      have HOW := Lib.hid hown
      have hne : some tb ≠ (Value.slice Av k Cv).ownBlock := fun e => by
        obtain ⟨c, hc⟩ := own_blk HP.out.top tb e.symm
        rw [HT1.out] at hc
        injection hc with hc
        injection hc with _ e2
        exact absurd e2 (by decide)
      have HNE := Lib.hid hne
      have HUL := Lib.hid hul
      clear hul hR0 hbR hbL hown hne
      go_wp2_with (at_builtin; refine wpList_append_tp _ rfl _ _ rfl w.heap.size _ us rfl HOW.out (by rw [HUL.out]; omega) (wr.heap.size + 1) 0 1 (some ⟨wr.heap.size, 0, none⟩) 6 6 rfl (by simp) (by have := HB1.out.size; simp; omega) ?_; intro v' w' hv hg; have HV := Lib.hid hv; have HG := Lib.hid hg; rw [HUL.out] at hv; obtain ⟨A', C', rfl⟩ := own_val hv; have htb := (hg.block tb (by simp; omega) HNE.out).trans (HBL.out.block tb htl); have HTB := Lib.hid (htb.trans HT1.out); have c2' : w'.cell? ⟨tb, 2, none⟩ = some (.slice Av k Cv) := (World.cell?_of_block htb).trans c2; have f2' : w'.frozen? ⟨tb, 2, none⟩ = false := heap_frozen HTB.out; clear hv hg htb)
      go_roundw
      case rel =>
        have hp := HP.out.push HBL.out HU.out (fun x e => by cases e; exact Nat.le_refl _) (fun x e => by cases e; show wr.heap.size ≠ tb; omega) HV.out HG.out
        rw [rbs_succ] at hp
        refine ⟨k + 1, us ++ [.slice (some ⟨wr.heap.size, 0, none⟩) 6 6], .slice A' (k + 1) C', by omega, by go_num, Lib.hid ?_, Lib.hid (hp.kp (Kp.store _ tb 2 _) (fun x c hx hc => ?_) (fun x hx hg => hg hx)), Lib.hid ?_⟩
        · rw [heap_set HTB.out]; rfl
        · rw [hx, HTB.out] at hc
          injection hc with hc
          injection hc with _ e2
          exact absurd e2 (by decide)
        · exact ((HB1.out.trans (HBL.out.mono HB1.out.size)).grown HG.out (by have := HB1.out.size; simp; omega) (fun x hx => (HOW.out.lt x hx).1)).setCell hlo _
      case measure => simp [intOf]; omega
    · obtain rfl : B = k := by omega
      obtain ⟨we, rfl⟩ : ∃ x, x = wr := ⟨wr, rfl⟩
      have c0 : we.cell? ⟨tb, 0, none⟩ = some (.int .i64 2) := heap_cell HT1.out
      have c1 : we.cell? ⟨tb, 1, none⟩ = some (.int .i64 30) := heap_cell HT1.out
      have c3 : we.cell? ⟨tb, 3, none⟩ = some (.bool false) := heap_cell HT1.out
      have HRD : Hid (RdB we Av (rbs B) (· < we.heap.size)) := Lib.hid (HP.out.rdB.in_.mono fun _ h => h.2)
      have hNl : N < (rbs B).length := by rw [rbs_len]; exact hN
      have HOK := Lib.hid (rbs_ok B hB')
      go_wp2_with (first
        | (go_at_call 9; refine (load_as 2 30 Av (rbs B) B Cv _ we (rbs_len B) HRD.out HOK.out).mono ?_; rintro e w2 ⟨g, rfl, hg, hD, hb⟩; have HD := Lib.hid hD; have HB2 := Lib.hid hb; clear hD hb)
        | (go_at_call 18; refine (rot_yes g 2 30 (rbs B) w2 HD.out N hNl A t T C _ HT.out.symm (by omega) (HR.out.below (HB1.out.trans (HB2.out.mono HB1.out.size)))).mono ?_; rintro e w3 ⟨rfl, hD3, hK3⟩; rw [rbs_at] at hD3; have HD3 := Lib.hid hD3; have HK3 := Lib.hid hK3; clear hD3 hK3)
        | (go_at_call 12; refine (num_any _ _).mono ?_; rintro e w' ⟨rfl, rfl⟩))
      have hgw : w.heap.size ≤ g := Nat.le_trans HB1.out.size hg
      have hgt : tb ≠ g := by have := htl; omega
      have HR3 : Hid (RdB w3 Av (rbs B) (· < we.heap.size)) := Lib.hid ((HRD.out.below HB2.out).kp HK3.out (fun x hx hx' => by omega))
      have HT3 : Hid (w3.heap[tb]? = some (.cells #[.int .i64 2, .int .i64 30, .slice Av B Cv, .bool false] 24 (0, 0))) := Lib.hid ((HK3.out.block tb (Nat.lt_of_lt_of_le htl HB2.out.size) hgt).trans ((HB2.out.block tb htl).trans HT1.out))
      have HB3 : Hid (Below w.heap.size w w3) := Lib.hid ((HB1.out.trans (HB2.out.mono HB1.out.size)).trans (HK3.out.below (by have := HB1.out.size; have := HB2.out.size; omega) (fun x hx => by rw [hx]; exact hgw)))
      clear HP c0 c1 c2 c3 HT1 HB1 HRD HD HB2 HK3
      go_loopw [12] (fun vi wr => ∃ i : Nat, i ≤ B ∧ vi = .int .i64 (i : Int) ∧ Hid (Dr wr g 2 30 ((rbs B).set N (Tp.rot (rb N) t))) ∧ Hid (RdB wr Av (rbs B) (· < we.heap.size)) ∧ Hid (wr.heap[tb]? = some (.cells #[.int .i64 2, .int .i64 30, .slice Av B Cv, .bool false] 24 (0, 0))) ∧ Hid (Below w.heap.size w wr)) (fun vi _ => B - (intOf vi).toNat)
      case atStart => exact ⟨0, by omega, rfl, HD3, HR3, HT3, HB3⟩
      case round =>
        clear HD3 HR3 HT3 HB3
        obtain ⟨i, hi, rfl, HD3, HR3, HT3, HB3⟩ := hrel
        by_cases hlt : i < B
        · by_cases hiN : i = N
          · subst hiN
            have b1 : (i == i) = true := by simp
            go_wp2_with (first
              | (go_at_call 15; refine (read_as g 2 30 _ _ HD3.out i (by rw [List.length_set, rbs_len]; exact hlt) (Tp.rot (rb i) t) 6 (List.getElem_set_self _) (by rw [Tp.rot_len]; rfl)).mono ?_; rintro e w4 ⟨b, Cb, rfl, hCb, hb4, hRb, hbw⟩; have HRb := Lib.hid hRb; have HB4 := Lib.hid hbw; clear hRb hbw)
              | (go_at_call 12; refine (num_any _ _).mono ?_; rintro e w' ⟨rfl, rfl⟩))
            have HTq : Hid (w4.heap[tb]? = some (.cells #[.int .i64 2, .int .i64 30, .slice Av B Cv, .bool false] 24 (0, 0))) := Lib.hid ((HB4.out.block tb (heap_lt HT3.out)).trans HT3.out)
            have q2 : w4.cell? ⟨tb, 2, none⟩ = some (.slice Av B Cv) := heap_cell HTq.out
            have hRq := HR3.out.old HB4.out
            obtain ⟨pb, po, A', C', rfl, _, hc1, _, _, hrow⟩ := hRq.at_ (i := i) (by rw [rbs_len]; exact hlt)
            rw [rbs_at, rb_len] at hc1
            rw [rbs_at] at hrow
            have HRq := Lib.hid hRq
            have HROW := Lib.hid hrow
            clear hRq hrow
            go_loop [15] (fun vj => ∃ j : Nat, j ≤ 6 ∧ vj = .int .i64 (j : Int)) (fun vj => 6 - (intOf vj).toNat)
            case atStart => exact ⟨0, by omega, rfl⟩
            case round =>
              obtain ⟨j, hj, rfl⟩ := hrel
              by_cases hj6 : j < 6
              · obtain ⟨b', o', e1, _, hcb⟩ := HRb.out.at_ (j := j) (by rw [Tp.rot_len, rb_len]; exact hj6)
                cases e1
                rw [Nat.zero_add] at hcb
                obtain ⟨rb', ro', rfl, _, hcr⟩ := HROW.out.at_ (j := j) (by rw [rb_len]; exact hj6)
                rw [Tp.rot_at (rb i) t j (by rw [rb_len]; exact hj6)] at hcb
                by_cases hjT : j < T
                · have hjt : j < t.length := by rw [← HT.out]; exact hjT
                  have dT : decide (j < T) = true := decide_eq_true hjT
                  rw [dif_pos hjt] at hcb
                  obtain ⟨tb', to', rfl, _, hct⟩ := (HR.out.below (HB3.out.trans (HB4.out.mono HB3.out.size))).at_ hjt
                  have hx := xor_b (rb i)[j] t[j]
                  generalize (rb i)[j] = x at hcb hcr hx
                  generalize t[j] = y at hcb hct hx
                  go_wp2
                  go_round
                  case rel => exact ⟨j + 1, by omega, by go_num⟩
                  case measure => simp [intOf]; omega
                · have dT : decide (j < T) = false := decide_eq_false hjT
                  rw [dif_neg (by rw [← HT.out]; exact hjT)] at hcb
                  generalize (rb i)[j] = x at hcb hcr
                  go_wp2
                  go_round
                  case rel => exact ⟨j + 1, by omega, by go_num⟩
                  case measure => simp [intOf]; omega
              · have hj6' : ¬ j < 6 := hj6
                clear hc1 q2 b1
                go_wp2
                go_roundw
                case rel => exact ⟨i + 1, by omega, by go_num, Lib.hid (HD3.out.old HB4.out), HRq, HTq, Lib.hid (HB3.out.trans (HB4.out.mono HB3.out.size))⟩
                case measure => simp [intOf]; omega
          · skip
            have b1 : (i == N) = false := by simp; omega
            have b2 : ((i : Int) == (N : Int)) = false := by simp; omega
            go_wp2_with (first
              | (go_at_call 15; refine (read_as g 2 30 _ _ HD3.out i (by rw [List.length_set, rbs_len]; exact hlt) (rb i) 6 (by rw [List.getElem_set_ne (Ne.symm hiN), rbs_at]) (rb_len i)).mono ?_; rintro e w4 ⟨b, Cb, rfl, hCb, hb4, hRb, hbw⟩; have HRb := Lib.hid hRb; have HB4 := Lib.hid hbw; clear hRb hbw)
              | (go_at_call 12; refine (num_any _ _).mono ?_; rintro e w' ⟨rfl, rfl⟩))
            have HTq : Hid (w4.heap[tb]? = some (.cells #[.int .i64 2, .int .i64 30, .slice Av B Cv, .bool false] 24 (0, 0))) := Lib.hid ((HB4.out.block tb (heap_lt HT3.out)).trans HT3.out)
            have q2 : w4.cell? ⟨tb, 2, none⟩ = some (.slice Av B Cv) := heap_cell HTq.out
            have hRq := HR3.out.old HB4.out
            obtain ⟨pb, po, A', C', rfl, _, hc1, _, _, hrow⟩ := hRq.at_ (i := i) (by rw [rbs_len]; exact hlt)
            rw [rbs_at, rb_len] at hc1
            rw [rbs_at] at hrow
            have HRq := Lib.hid hRq
            have HROW := Lib.hid hrow
            clear hRq hrow
            go_loop [15] (fun vj => ∃ j : Nat, j ≤ 6 ∧ vj = .int .i64 (j : Int)) (fun vj => 6 - (intOf vj).toNat)
            case atStart => exact ⟨0, by omega, rfl⟩
            case round =>
              obtain ⟨j, hj, rfl⟩ := hrel
              by_cases hj6 : j < 6
              · obtain ⟨b', o', e1, _, hcb⟩ := HRb.out.at_ (j := j) (by rw [rb_len]; exact hj6)
                cases e1
                rw [Nat.zero_add] at hcb
                obtain ⟨rb', ro', rfl, _, hcr⟩ := HROW.out.at_ (j := j) (by rw [rb_len]; exact hj6)
                generalize (rb i)[j] = x at hcb hcr
                go_wp2
                go_round
                case rel => exact ⟨j + 1, by omega, by go_num⟩
                case measure => simp [intOf]; omega
              · have hj6' : ¬ j < 6 := hj6
                clear hc1 q2 b1 b2
                go_wp2
                go_roundw
                case rel => exact ⟨i + 1, by omega, by go_num, Lib.hid (HD3.out.old HB4.out), HRq, HTq, Lib.hid (HB3.out.trans (HB4.out.mono HB3.out.size))⟩
                case measure => simp [intOf]; omega
        · have hNs : N < ((rbs B).set N (Tp.rot (rb N) t)).length := by rw [List.length_set, rbs_len]; exact hN
          have hbk : ((rbs B).set N (Tp.rot (rb N) t)).set N (Tp.rot (((rbs B).set N (Tp.rot (rb N) t))[N]) t) = rbs B := by
            rw [List.getElem_set_self, Tp.rot_rot, List.set_set, ← rbs_at (k := B) (by rw [rbs_len]; exact hN), List.set_getElem_self]
          have HBK := Lib.hid hbk
          clear hbk
          go_wp2_with (first
            | (go_at_call 18; refine (rot_yes g 2 30 _ wr HD3.out N hNs A t T C _ HT.out.symm (by omega) (HR.out.below HB3.out)).mono ?_; rintro e w5 ⟨rfl, hD5, hK5⟩; rw [HBK.out] at hD5; have HD5 := Lib.hid hD5; have HK5 := Lib.hid hK5; clear hD5 hK5))
          have hgr : g < wr.heap.size := HD3.out.lt
          have HR5 : Hid (RdB w5 Av (rbs B) (· < we.heap.size)) := Lib.hid (HR3.out.kp HK5.out (fun x hx hx' => by omega))
          have HT5 : Hid (w5.heap[tb]? = some (.cells #[.int .i64 2, .int .i64 30, .slice Av B Cv, .bool false] 24 (0, 0))) := Lib.hid ((HK5.out.block tb (heap_lt HT3.out) hgt).trans HT3.out)
          have HB5 : Hid (Below w.heap.size w w5) := Lib.hid (HB3.out.trans (HK5.out.below HB3.out.size (fun x hx => by rw [hx]; exact hgw)))
          have htl5 : tb < w5.heap.size := heap_lt HT5.out
          have k0 : w5.cell? ⟨tb, 0, none⟩ = some (.int .i64 2) := heap_cell HT5.out
          have k1 : w5.cell? ⟨tb, 1, none⟩ = some (.int .i64 30) := heap_cell HT5.out
          have k2 : w5.cell? ⟨tb, 2, none⟩ = some (.slice Av B Cv) := heap_cell HT5.out
          have k3 : w5.cell? ⟨tb, 3, none⟩ = some (.bool false) := heap_cell HT5.out
          have S0 : w5.drew.cell? ⟨tb, 0, none⟩ = some (.int .i64 2) ∧ w5.drew.cell? ⟨tb, 1, none⟩ = some (.int .i64 30) ∧ w5.drew.cell? ⟨tb, 2, none⟩ = some (.slice Av B Cv) ∧ w5.drew.cell? ⟨tb, 3, none⟩ = some (.bool false) := ⟨k0, k1, k2, k3⟩
          have hbel : Below w5.heap.size w5 w5.drew := (Below.refl _ _).drew
          go_region_held3 (fun w' => w'.cell? ⟨tb, 0, none⟩ = some (.int .i64 2) ∧ w'.cell? ⟨tb, 1, none⟩ = some (.int .i64 30) ∧ w'.cell? ⟨tb, 2, none⟩ = some (.slice Av B Cv) ∧ w'.cell? ⟨tb, 3, none⟩ = some (.bool false))
            (first | exact S0 | exact S1 | exact S2)
            (first
              | (go_at_call 24; refine (tape_any g 2 30 (rbs B) _ (HD5.out.old hbel)).mono ?_; rintro e w6 ⟨A6, C6, rfl, hC6, hR6, hb6⟩; have hb65 : Below w5.heap.size w5 w6 := hbel.trans hb6; have S1 : w6.cell? ⟨tb, 0, none⟩ = some (.int .i64 2) ∧ w6.cell? ⟨tb, 1, none⟩ = some (.int .i64 30) ∧ w6.cell? ⟨tb, 2, none⟩ = some (.slice Av B Cv) ∧ w6.cell? ⟨tb, 3, none⟩ = some (.bool false) := ⟨(hb65.cell (p := ⟨tb, 0, none⟩) htl5).trans k0, (hb65.cell (p := ⟨tb, 1, none⟩) htl5).trans k1, (hb65.cell (p := ⟨tb, 2, none⟩) htl5).trans k2, (hb65.cell (p := ⟨tb, 3, none⟩) htl5).trans k3⟩; clear hb6)
              | (go_at_call 23; refine (sameTape_yes 2 30 A6 C6 (rbs B) _ Av Cv _ _ B _ rfl (rbs_len B) (by rw [rbs_len]; omega) hR6 (HR5.out.old hb65)).mono ?_; rintro e w7 ⟨rfl, hb7⟩; have hb75 : Below w5.heap.size w5 w7 := hb65.trans (hb7.mono hb65.size); have S2 : w7.cell? ⟨tb, 0, none⟩ = some (.int .i64 2) ∧ w7.cell? ⟨tb, 1, none⟩ = some (.int .i64 30) ∧ w7.cell? ⟨tb, 2, none⟩ = some (.slice Av B Cv) ∧ w7.cell? ⟨tb, 3, none⟩ = some (.bool false) := ⟨(hb75.cell (p := ⟨tb, 0, none⟩) htl5).trans k0, (hb75.cell (p := ⟨tb, 1, none⟩) htl5).trans k1, (hb75.cell (p := ⟨tb, 2, none⟩) htl5).trans k2, (hb75.cell (p := ⟨tb, 3, none⟩) htl5).trans k3⟩))
          go_wp2
          go_ret
          exact ⟨rfl, HB5.out.trans (hb75.mono HB5.out.size)⟩
end Go.Proofs.Ytflcnghjhgfkfaa
