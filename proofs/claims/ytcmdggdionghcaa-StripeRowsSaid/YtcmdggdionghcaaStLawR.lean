/- The law StripeRows answers true: of each row of tapes and their parity any as many as there are tapes tell the others. -/
import Derived.Test.YtcmdggdionghcaaMe
import Derived.Test.YtcmdggdionghcaaMg
import Derived.Test.YtcmdggdionghcaaMf
import Derived.Deep.RegionHeld3
import Derived.Deep.DeepFit
namespace Go.Proofs.Ytcmdggdionghcaa
open Go.RowKit Mx
open Pt (Tx)

/-- as an own slice of slices that read -/
theorem TopA.topR {w : World} {B k : Nat} {v : Value} {A : Nat → Option Addr} {L C : Nat → Nat} {M : Mat} (h : TopA w B v k A L C M) (hk : 0 < k) : ∃ b cp, v = .slice (some ⟨b, 0, none⟩) k cp ∧ B ≤ b ∧ TopR w b k A L C M := by
  obtain ⟨b, cp, e, hb, hc, hrow⟩ := RowV.of_owns h.top hk
  refine ⟨b, cp, e, hb, hrow.congr fun i hi => ?_, fun i hi => ?_⟩
  · rw [List.getD_eq_getElem?_getD, topsOf_get hi]; rfl
  · rcases h.rows i hi with hr | ⟨g, e', hr⟩
    · exact hr.mono fun x hx => by omega
    · rw [e']
      refine hr.rd _ fun e2 => ?_
      have := owns_ne h.top hr (by decide)
      rw [e, e2] at this
      exact this rfl
/-- a row and its parity -/
theorem St.X_row (ts : List St.T) (p n j c : Nat) : encD ts.length p (St.mat (St.row ts (n : Int))) (ts.length + j) c = St.X ts p j n c := by
  unfold encD
  rw [if_neg (by omega), Nat.add_sub_cancel_left]
  rfl
theorem plsN_all {m n : Nat} (hm : 0 < m) : plsN (there fun _ => m) n = n := by
  rw [plsN_cnt]
  have h1 := cnt_not (there fun _ => m) n
  rw [show (fun x => !there (fun _ => m) x) = fun _ => false by funext x; unfold there; simp [hm]] at h1
  have h2 : ∀ k, cnt (fun _ => false) k = 0 := fun k => by
    induction k with
    | zero => rfl
    | succ k ih => simp [cnt, ih]
  rw [h2 n] at h1
  omega
set_option maxRecDepth 100000 in
set_option maxHeartbeats 16000000 in
theorem stripeRows_main (Az : Option Addr) (N Cz : Nat) (z : Nat → Int) (p : Nat) (Ag : Option Addr) (g Cg : Nat) (zg : Nat → Int) (w : World) (hN1 : 1 ≤ N) (hN : N ≤ 6) (hp1 : 1 ≤ p) (hp : p ≤ 4) (hg : g ≤ 10) (h : RdI w Az N z) (h' : RdI w Ag g zg) :
    Calls Try.prog 4 #[.slice Az N Cz, .int .i64 (p : Int), .slice Ag g Cg] w (AnsB true w) := by
  have H0 := Lib.hid h
  have H0' := Lib.hid h'
  clear h h'
  have y1 : decide ((N : Int) < 1) = false := decide_eq_false (by omega)
  have y2 : decide ((6 : Int) < (N : Int)) = false := decide_eq_false (by omega)
  have y3 : decide ((p : Int) < 1) = false := decide_eq_false (by omega)
  have y4 : decide ((4 : Int) < (p : Int)) = false := decide_eq_false (by omega)
  have y5 : decide ((10 : Int) < (g : Int)) = false := decide_eq_false (by omega)
  obtain ⟨i0, hi0, hz0, hz1, hz2⟩ := info_parts infoRow
  obtain ⟨k0, hk0, hx0, hx1, hx2⟩ := info_parts infoTape
  go_enter Try.func4, Try.ntmps4
  go_wp2_with fail
  refine (alive13_true _).mono ?_
  rintro e w1 ⟨rfl, hB⟩
  have H1 := Lib.hid (H0.out.old hB)
  have H1' := Lib.hid (H0'.out.old hB)
  have HB := Lib.hid hB
  clear hB H0 H0'
  go_wp2
  clear y1 y2 y3 y4 y5
  go_loopw [9, 8] (fun vi vl wr => ∃ i : Nat, i ≤ N ∧ vi = .int .i64 (i : Int) ∧ Hid (∃ tvs ts, Lay w1 vl tvs ts wr ∧ ts.length = i)) (fun vi _ _ => N - (intOf vi).toNat)
  case atStart => exact ⟨0, by omega, rfl, Lib.hid ⟨[], [], Lay.start _, rfl⟩⟩
  case round =>
    obtain ⟨i, hi, rfl, HL⟩ := hrel
    obtain ⟨tvs, ts, hL, hlen⟩ := HL.out
    have HLY := Lib.hid hL
    have HLN := Lib.hid hlen
    clear hL hlen HL
    obtain ⟨wo, rfl⟩ : ∃ x, x = wr := ⟨wr, rfl⟩
    by_cases hlt : i < N
    · have e0 : decide (i < N) = true := decide_eq_true hlt
      go_wp2
      go_loopw [11] (fun vk wq => ∃ k : Nat, k ≤ 7 ∧ vk = .int .i64 (k : Int) ∧ Hid (∃ A C us bs, Tq wo wo.heap.size ((i : Int) + 1) A k C us bs wq)) (fun vk _ => 7 - (intOf vk).toNat)
      case atStart => exact ⟨0, by omega, rfl, Lib.hid ⟨none, 0, [], [], Tq.start wo ((i : Int) + 1)⟩⟩
      case round =>
        obtain ⟨k, hk, rfl, HT⟩ := hrel
        obtain ⟨A, C, us, bs, hT⟩ := HT.out
        have HTQ := Lib.hid hT
        have hlow : wo.heap.size < wr.heap.size := heap_lt hT.blk
        have hloo : w1.heap.size ≤ wo.heap.size := HLY.out.bel.size
        obtain ⟨bz, offz, rfl, d0⟩ := (H1.out.old (HLY.out.bel.trans (hT.bel.mono hloo))).at hlt
        obtain ⟨K, hK, hK7⟩ := and_7 (z i)
        clear hT HT
        by_cases hlk : k < K
        · have e1 : decide (k < K) = true := decide_eq_true hlk
          have e2 : decide ((k : Int) < (K : Int)) = true := decide_eq_true (by omega)
          have hmk := make79
          have hzr := RowAt.made wr 79
          have hc3 := hzr.cell (show k < 79 by omega)
          have hf3 := hzr.frozen k
          have hw8 : IntKind.u8.wrap ((i : Int) + 1) = (i : Int) + 1 := by unfold IntKind.wrap; simp [IntKind.bits]; omega
          obtain ⟨t0, t1, t2, t3⟩ := tape4 HTQ.out.blk
          obtain ⟨x1, hx1⟩ : ∃ x1, x1 = wr.alloc (.cells ((madeCells #[.int .u8 0] 79).setIfInBounds k (.int .u8 ((i : Int) + 1))) 5) := ⟨_, rfl⟩
          have hb1 : Below wr.heap.size wr x1 := by rw [hx1]; exact (Below.refl _ _).alloc (Nat.le_refl _) _
          have hs1 : x1.heap.size = wr.heap.size + 1 := by rw [hx1]; simp
          have t2x := (hb1.cell (World.block_lt_of_cell? _ _ t2)).trans t2
          have hown := ((own_old HTQ.out.own hb1).alloc (.cells #[.slice (some ⟨wr.heap.size, 0, none⟩) 79 79] 40))
          rw [hx1] at t2x hown
          have hbase : wo.heap.size + 1 ≤ x1.heap.size := by omega
          rw [hx1] at hbase
          clear hx1 hb1 hs1 t0 t1 t3
          go_wp2_with (at_builtin; refine wpList_append_lies _ rfl _ _ 34 rfl (wo.heap.size + 1) 40 i0 (.slice none 0 0) 1 24 Try.underlying34 hi0 hz0 hz1 hz2 rfl (by decide) (.slice A k C) k us rfl hown ⟨wr.heap.size + 1, 0, none⟩ 1 1 [.slice (some ⟨wr.heap.size, 0, none⟩) 79 79] rfl rfl (oneCellAt _ _ _ _ (by simp)) (oneSlice _ _ _) (by decide) (by unfold maxLen; omega) (by omega) (by simp; omega) (wr.heap.size + 2) (by simp) ?_)
          intro g5 cap5 y hown5 hg5 _ _
          obtain ⟨c5, f5, hT5⟩ := HTQ.out.push k (b := i + 1) (by omega) hown5 hg5
          have HT5 := Lib.hid hT5
          clear hown5 hg5 hT5 hown hzr hc3 hf3 hmk t2 t2x d0 hbase
          go_wp2
          go_roundw
          case rel => exact ⟨k + 1, by omega, by go_num, Lib.hid ⟨_, _, _, _, HT5.out⟩⟩
          case measure => simp [intOf]; omega
        · have e1 : decide (k < K) = false := decide_eq_false hlk
          have e2 : decide ((k : Int) < (K : Int)) = false := decide_eq_false (by omega)
          obtain ⟨t0, t1, t2, t3⟩ := tape4 HTQ.out.blk
          have HL2 := Lib.hid (HLY.out.old HTQ.out.bel)
          have hown := HL2.out.own
          have hlw : w1.heap.size ≤ wr.heap.size := HL2.out.bel.size
          have hlen : tvs.length ≤ 6 := by have h1 := HLY.out.len; have h2 := HLN.out; omega
          unfold Enc.Own at hown
          go_wp2_with (at_builtin; refine wpList_append_lies _ rfl _ _ 22 rfl w1.heap.size 39 k0 (.agg #[.int .i64 0, .int .i64 0, .slice none 0 0, .bool false]) 4 48 Try.underlying22 hk0 hx0 hx1 hx2 rfl (by decide) _ tvs.length (encT.cells tvs) rfl (hown.alloc _) ⟨wr.heap.size, 0, none⟩ 1 1 [.int .i64 ((i : Int) + 1), .int .i64 20, .slice A k C, .bool false] rfl rfl (newCells wr [.int .i64 ((i : Int) + 1), .int .i64 20, .slice A k C, .bool false] 39) (by simp [Value.oneCell']) (by decide) (by unfold maxLen; omega) (by omega) (by simp; omega) (wr.heap.size + 1) (by simp) ?_)
          intro g5 cap5 y hown5 hg5 hat5 _
          have HL5 := Lib.hid (HLY.out.push HTQ.out hk hown5 hg5 hat5)
          have HN5 : Hid ((ts ++ [(⟨(i : Int) + 1, 20, bs, false⟩ : St.T)]).length = i + 1) := Lib.hid (by rw [List.length_append, HLN.out]; rfl)
          clear hown5 hg5 hat5 hown t0 t1 t2 t3 d0
          go_wp2
          go_roundw
          case rel => exact ⟨i + 1, by omega, by go_num, Lib.hid ⟨_, _, HL5.out, HN5.out⟩⟩
          case measure => simp [intOf]; omega
    · have e0 : decide (i < N) = false := decide_eq_false hlt
      have hlenN : ts.length = N := by have := HLN.out; omega
      obtain ⟨A, C, rfl, hr⟩ := HLY.out.rd
      obtain ⟨hK7, hne⟩ := St.whole_of HLY.out.good
      subst hlenN
      have HR := Lib.hid hr
      have HB1 := Lib.hid (HB.out.trans (HLY.out.bel.mono HB.out.size))
      have HG := Lib.hid (H1'.out.old HLY.out.bel)
      have HNE := Lib.hid hne
      have HOK : Hid (St.Ok ts (p : Int)) := Lib.hid ⟨⟨by omega, by omega, by omega⟩, fun n _ => hne n⟩
      clear hr hne HLY HLN H1 H1' HB hlt hi
      obtain ⟨K, hK⟩ : ∃ K, K = St.len ts := ⟨_, rfl⟩
      rw [← hK] at hK7
      have HK := Lib.hid hK
      clear hK
      go_wp2_with fail
      refine (parity_main A ts C _ p wo (by omega) (by omega) (by rw [← HK.out]; omega) HR.out).mono ?_
      intro e w3 hh
      unfold ParA at hh
      rw [if_pos HOK.out, ← HK.out] at hh
      obtain ⟨Ap, Cp, rfl, -, -, hx, hb3⟩ := hh
      rw [Int.toNat_natCast] at hx ⊢
      have HX := Lib.hid hx
      have HR3 := Lib.hid (HR.out.old hb3)
      have HG3 := Lib.hid (HG.out.old hb3)
      have HB3 := Lib.hid (HB1.out.trans (hb3.mono HB1.out.size))
      have q1 : ((p : Int) != (p : Int)) = false := by simp
      clear hx hb3 HR HG HB1 HOK
      go_wp2_with (first
        | (go_at_call 9; refine (num13 _ _).mono ?_; rintro e w' ⟨rfl, rfl⟩))
      clear q1
      go_loopw [15] (fun vn wr => ∃ n : Nat, n ≤ K ∧ vn = .int .i64 (n : Int) ∧ Hid (Below w3.heap.size w3 wr)) (fun vn _ => K - (intOf vn).toNat)
      case atStart => exact ⟨0, by omega, rfl, Lib.hid (Below.refl _ _)⟩
      case round =>
        obtain ⟨n, hn, rfl, HBn⟩ := hrel
        obtain ⟨wn, rfl⟩ : ∃ x, x = wr := ⟨wr, rfl⟩
        go_wp2_with fail
        refine (len_any A ts C _ wn (by unfold maxLen; omega) (HR3.out.old HBn.out)).mono ?_
        rintro e w4 ⟨rfl, hb4⟩
        rw [← HK.out]
        have HB4 := Lib.hid (HBn.out.trans (hb4.mono HBn.out.size))
        clear hb4 HBn
        by_cases hlt : n < K
        · have e0 : decide (n < K) = true := decide_eq_true hlt
          go_wp2_with fail
          refine (row_any A ts C _ (n : Int) w4 (by omega) (HR3.out.old HB4.out)).mono ?_
          rintro e w5 ⟨A5, C5, rfl, -, -, hr5, hb5⟩
          have HB5 := Lib.hid (HB4.out.trans (hb5.mono HB4.out.size))
          have h79 : ∀ i, i < ts.length → St.lens (St.row ts (n : Int)) i = 79 := fun i hi => St.whole_lens (fun t ht => HNE.out n t ht) hi
          have HM5 : Hid (RdM w5 A5 ts.length (fun _ => 79) (St.mat (St.row ts (n : Int))) (· < w5.heap.size)) := Lib.hid (hr5.congr h79 (fun _ _ _ _ => rfl))
          have HL79 := Lib.hid h79
          obtain ⟨M, hM⟩ : ∃ M, M = St.mat (St.row ts (n : Int)) := ⟨_, rfl⟩
          rw [← hM] at HM5
          have HMM := Lib.hid hM
          obtain ⟨b5, off5, _, _, rfl, _⟩ := HM5.out.row (i := 0) (by omega)
          obtain ⟨As, Cs, hs1, hs2⟩ := HM5.out.tops
          have HS1 := Lib.hid (hs1 ⟨b5, off5, none⟩ (by omega) rfl)
          have HS2 := Lib.hid hs2
          have hnil : w5.ownsRow w5.heap.size 40 1 (.slice none 0 0) 0 [] := World.ownsRow_nil _ _ _ _
          have q2 : ((ts.length : Int) != (ts.length : Int)) = false := by simp
          clear hr5 hb5 h79 hM hs1 hs2
          go_wp2_with (at_builtin; refine wpList_append_own _ rfl _ _ 34 rfl w5.heap.size 40 i0 (.slice none 0 0) 1 24 Try.underlying34 hi0 hz0 hz1 hz2 rfl (by decide) _ _ _ rfl hnil ⟨b5, off5, none⟩ ts.length C5 (topsOf ts.length As (fun _ => 79) Cs) rfl (by rw [topsOf_len, Nat.mul_one]) HS1.out topsOf_one (by unfold maxLen; omega) (by omega) (Nat.le_refl _) ?_)
          intro v1 w6 hown1 hgrow1 _
          have HB6 : Hid (Below w5.heap.size w5 w6) := Lib.hid ((Below.refl _ _).grown hgrow1 (Nat.le_refl _) (fun x hx => by simp [Value.ownBlock] at hx))
          have HTA : Hid (∃ A C, TopA w6 w5.heap.size v1 (ts.length + 0) A (fun _ => 79) C (encD ts.length p M)) := Lib.hid ⟨As, Cs, ⟨hown1, fun i hi => .inl (((HS2.out i hi).below HB6.out).congr fun c _ => by unfold encD; rw [if_pos (by omega)])⟩⟩
          clear hnil hown1 hgrow1 HS1 HS2 q2
          go_wp2
          go_loopw [18, 17] (fun vj vh wq => ∃ j : Nat, j ≤ p ∧ vj = .int .i64 (j : Int) ∧ Hid (∃ A C, TopA wq w5.heap.size vh (ts.length + j) A (fun _ => 79) C (encD ts.length p M)) ∧ Hid (Below w5.heap.size w5 wq)) (fun vj _ _ => p - (intOf vj).toNat)
          case atStart => exact ⟨0, Nat.zero_le _, rfl, HTA, HB6⟩
          case round =>
            obtain ⟨j, hj, rfl, HT, HB⟩ := hrel
            obtain ⟨Ax, Cx, hT⟩ := HT.out
            have HTJ := Lib.hid hT
            clear hT HT HTA HB6
            by_cases hltj : j < p
            · have e1 : decide (j < p) = true := decide_eq_true hltj
              have e2 : decide ((K : Int) ≤ (n : Int)) = false := decide_eq_false (by omega)
              have e3 : decide (K ≤ n) = false := decide_eq_false (by omega)
              obtain ⟨bp, op, Aj, Cj, rfl, -, dp, -, -, hpj⟩ := ((HX.out.old HB5.out).old HB.out).at_ hltj
              obtain ⟨bj, oj, An, Cn, rfl, -, dn, hpn⟩ := hpj.row hlt
              have HRN : Hid (Rd wr An 79 (St.X ts p j n) (· < w5.heap.size)) := by
                obtain ⟨bp', op', Aj', Cj', e', -, dp', -, -, hpj'⟩ := (HX.out.old HB5.out).at_ hltj
                cases e'
                have h1 := (HB.out.cell (World.block_lt_of_cell? _ _ dp')).trans dp'
                rw [dp] at h1
                simp only [Option.some.injEq, Value.slice.injEq] at h1
                obtain ⟨rfl, _, rfl⟩ := h1
                obtain ⟨bj', oj', An', Cn', e'', -, dn', hpn'⟩ := hpj'.row hlt
                cases e''
                have h2 := (HB.out.cell (World.block_lt_of_cell? _ _ dn')).trans dn'
                rw [dn] at h2
                simp only [Option.some.injEq, Value.slice.injEq] at h2
                obtain ⟨rfl, _, rfl⟩ := h2
                exact Lib.hid (hpn'.in_.below HB.out)
              have hown := HTJ.out.top
              have hlow : w5.heap.size ≤ wr.heap.size := HB.out.size
              clear hpj hpn
              go_wp2_with (at_builtin; refine wpList_append_own _ rfl _ _ 34 rfl w5.heap.size 40 i0 (.slice none 0 0) 1 24 Try.underlying34 hi0 hz0 hz1 hz2 rfl (by decide) _ _ _ rfl (hown.alloc _) ⟨wr.heap.size, 0, none⟩ 1 1 [.slice An 79 Cn] rfl rfl (oneCell _ _ _) (oneSlice _ _ _) (by unfold maxLen; omega) (by omega) (by simp; omega) ?_)
              intro v' w7 hown' hgrow _
              have HP := Lib.hid (HTJ.out.push hgrow hown' (.inl HRN.out))
              have HB7 := Lib.hid ((HB.out.alloc HB.out.size _).grown hgrow (by simp; omega) (fun x hx => (HTJ.out.top.lt x hx).1))
              clear hown' hgrow hown dp dn
              go_wp2
              go_roundw
              case rel => exact ⟨j + 1, by omega, by go_num, Lib.hid ⟨_, _, (HP.out.congr (M' := encD ts.length p M) fun r _ c _ => by
                by_cases e : r = ts.length + j
                · simp only [e, if_true]; rw [HMM.out]; exact (St.X_row ts p n j c).symm
                · simp only [e, if_false]).lens fun r _ => by by_cases e : r = ts.length + j <;> simp [e]⟩, HB7⟩
              case measure => simp [intOf]; omega
            · have e1 : decide (j < p) = false := decide_eq_false hltj
              obtain rfl : j = p := by omega
              obtain ⟨bh, cap, rfl, hbh, hTop⟩ := HTJ.out.topR (by omega)
              obtain ⟨NN, hNN⟩ : ∃ NN, NN = ts.length + j := ⟨_, rfl⟩
              rw [← hNN] at hTop ⊢
              have hNle : NN ≤ ts.length + j := by omega
              have hNge : ts.length + j ≤ NN := by omega
              have HTop : Hid (∃ A L C, TopR wr bh NN A L C (encD ts.length j M) ∧ (∀ x, x < NN → L x = 0 ∨ L x = 79) ∧ 0 + plsN (there L) NN = NN) := Lib.hid ⟨_, _, _, hTop, fun _ _ => .inr rfl, by rw [Nat.zero_add]; exact plsN_all (by omega)⟩
              have HNN := Lib.hid hNN
              have HBS := HB
              clear hTop hNN HTJ HB
              go_wp2
              go_loopw [20, 19] (fun vi vq wr => ∃ i q : Nat, i ≤ g ∧ q ≤ j ∧ vi = .int .i64 (i : Int) ∧ vq = .int .i64 (q : Int) ∧ Hid (∃ A L C, TopR wr bh NN A L C (encD ts.length j M) ∧ (∀ x, x < NN → L x = 0 ∨ L x = 79) ∧ q + plsN (there L) NN = NN) ∧ Hid (Below w5.heap.size w5 wr)) (fun vi _ _ => g - (intOf vi).toNat)
              case atStart => exact ⟨0, 0, by omega, by omega, rfl, rfl, HTop, HBS⟩
              case round =>
                obtain ⟨i, q, hi, hq, rfl, rfl, HO, HB⟩ := hrel
                obtain ⟨Ax, Lx, Cx, hT, hL1, hL2⟩ := HO.out
                have HT5 := Lib.hid hT
                have HL1 := Lib.hid hL1
                have HL2 := Lib.hid hL2
                clear hT hL1 hL2 HO HTop HBS
                by_cases hlti : i < g ∧ q < j
                · have e1 : decide (i < g) = true := decide_eq_true hlti.1
                  have e2 : decide (q < j) = true := decide_eq_true hlti.2
                  have e3 : decide ((q : Int) < (j : Int)) = true := decide_eq_true (by omega)
                  obtain ⟨bg, offg, rfl, d0⟩ := ((HG3.out.old HB5.out).old HB.out).at hlti.1
                  obtain ⟨hy, hy2⟩ := low_eq zg i
                  have hmod := (Int.natCast_emod (low zg i) NN).symm
                  have hkN : low zg i % NN < NN := Nat.mod_lt _ (by omega)
                  have hN0 : ((NN : Int) == 0) = false := beq_eq_false_iff_ne.2 (by omega)
                  have hN1' : (0 : Int) < (NN : Int) := by omega
                  obtain ⟨k, hk⟩ : ∃ k, k = low zg i % NN := ⟨_, rfl⟩
                  rw [← hk] at hmod hkN
                  clear hk
                  have hct := HT5.out.top.cell hkN
                  have hft := HT5.out.top.frozen k
                  have HP := Lib.hid (HT5.out.lay k (a := none) (l := 0) (c := 0) (Rd.empty _ _ _ _))
                  have HB2 := Lib.hid (HB.out.setCell (p := ⟨bh, k, none⟩) hbh (.slice none 0 0))
                  have HL3 : Hid (∀ x, x < NN → (if x = k then 0 else Lx x) = 0 ∨ (if x = k then 0 else Lx x) = 79) := Lib.hid fun x hx => by
                    by_cases e : x = k
                    · exact .inl (if_pos e)
                    · rw [if_neg e]; exact HL1.out x hx
                  by_cases hz : 0 < Lx k
                  · have y1 : decide ((0 : Int) < (Lx k : Int)) = true := decide_eq_true (by omega)
                    have HC : Hid (q + 1 + plsN (there fun x => if x = k then 0 else Lx x) NN = NN) := by
                      have h1 := cnt_unset (had := there Lx) hkN (there_true.2 hz)
                      have h2 : cnt (there fun x => if x = k then 0 else Lx x) NN = cnt (fun x => if x = k then false else there Lx x) NN := cnt_congr fun x _ => by
                        unfold there
                        by_cases e : x = k <;> simp [e]
                      have h3 := HL2.out
                      rw [plsN_cnt] at h3 ⊢
                      exact Lib.hid (by omega)
                    go_wp2
                    go_roundw
                    case rel => exact ⟨i + 1, q + 1, by omega, by omega, by go_num, by go_num, Lib.hid ⟨_, _, _, HP.out, HL3.out, HC.out⟩, HB2⟩
                    case measure => simp [intOf]; omega
                  · have y1 : decide ((0 : Int) < (Lx k : Int)) = false := decide_eq_false (by omega)
                    have HC : Hid (q + plsN (there fun x => if x = k then 0 else Lx x) NN = NN) := by
                      have h2 : pls (there fun x => if x = k then 0 else Lx x) NN = pls (there Lx) NN := pls_congr fun x _ => by
                        unfold there
                        by_cases e : x = k
                        · rw [e]; simp; omega
                        · simp [e]
                      have h3 := HL2.out
                      unfold plsN at h3 ⊢
                      rw [h2]; exact Lib.hid h3
                    go_wp2
                    go_roundw
                    case rel => exact ⟨i + 1, q, by omega, hq, by go_num, rfl, Lib.hid ⟨_, _, _, HP.out, HL3.out, HC.out⟩, HB2⟩
                    case measure => simp [intOf]; omega
                · have hcase : (decide (i < g) = false) ∨ (decide (i < g) = true ∧ decide (q < j) = false ∧ decide ((q : Int) < (j : Int)) = false) := by
                    by_cases a : i < g
                    · exact .inr ⟨decide_eq_true a, decide_eq_false fun b => hlti ⟨a, b⟩, decide_eq_false fun b => hlti ⟨a, by omega⟩⟩
                    · exact .inl (decide_eq_false a)
                  have HLB : Hid (∀ x, x < NN → Lx x ≤ 1000000) := Lib.hid fun x hx => by rcases HL1.out x hx with h | h <;> omega
                  have HM := Lib.hid HT5.out.rdM
                  obtain ⟨w8, rfl⟩ : ∃ x, x = wr := ⟨wr, rfl⟩
                  have HH := Lib.hid (HM5.out.below HB.out)
                  have hq2 := HL2.out
                  obtain ⟨kk, hkk⟩ : ∃ kk, kk = plsN (there Lx) NN := ⟨_, rfl⟩
                  rw [← hkk] at hq2
                  have HKK := Lib.hid hkk
                  have HDEC := Lib.hid (refDecode_in (some ⟨bh, 0, none⟩) NN cap Lx (encD ts.length j M) _ ts.length w8 (by omega) (by omega) (by omega) HLB.out HM.out)
                  clear hkk hlti
                  have hk0 : ¬ kk = 0 := by omega
                  have hkn : ¬ kk < ts.length := by omega
                  rcases hcase with e1 | ⟨e1, e2, e3⟩
                  all_goals
                    go_wp2_with fail
                    refine HDEC.out.mono ?_
                    intro e w9 hres
                    have hres2 := DecAny.tells (d := ts.length) (p := j) (m := 79) (D := M) (by omega) (by omega) (fun x hx => HL1.out x (by omega)) (fun x hx h0 c hc => rfl) (by rw [← HNN.out]; exact hres)
                    rw [← HNN.out, ← HKK.out, if_neg hk0, if_neg hkn] at hres2
                    obtain ⟨A9, C9, rfl, hr9, hb9⟩ := hres2
                    have HR9 := Lib.hid hr9
                    have HH9 := Lib.hid (HH.out.old hb9)
                    have HB9 := Lib.hid (HB.out.trans (hb9.mono HB.out.size))
                    clear hres hr9 hb9
                    go_wp2_with fail
                    refine (sameRows_any A9 ts.length C9 _ _ _ (some ⟨b5, off5, none⟩) C5 _ _ w9 (by unfold maxLen; omega) HR9.out HH9.out (fun _ _ _ _ => rfl)).mono ?_
                    rintro e w10 ⟨rfl, hb10⟩
                    have HB10 := Lib.hid (HB5.out.trans ((HB9.out.trans (hb10.mono HB9.out.size)).mono HB5.out.size))
                    clear hb10
                    go_wp2
                    go_roundw
                    case rel => exact ⟨n + 1, by omega, by go_num, HB10⟩
                    case measure => simp [intOf]; omega
        · have e0 : decide (n < K) = false := decide_eq_false hlt
          have HBE := Lib.hid (HB3.out.trans (HB4.out.mono HB3.out.size))
          go_wp2
          go_ret
          exact ⟨rfl, HBE.out⟩
set_option maxRecDepth 100000 in
set_option maxHeartbeats 4000000 in
theorem stripeRows_walk (Az : Option Addr) (N Cz : Nat) (z : Nat → Int) (p : Int) (Ag : Option Addr) (g Cg : Nat) (zg : Nat → Int) (w : World) (hp : -9223372036854775808 ≤ p ∧ p ≤ 9223372036854775807) (h : RdI w Az N z) (h' : RdI w Ag g zg) :
    Calls Try.prog 4 #[.slice Az N Cz, .int .i64 p, .slice Ag g Cg] w (AnsB true w) := by
  have hq : decide ((N : Int) < 1) = true ∨ (decide ((N : Int) < 1) = false ∧ decide ((6 : Int) < (N : Int)) = true) ∨ (decide ((N : Int) < 1) = false ∧ decide ((6 : Int) < (N : Int)) = false ∧ decide (p < 1) = true) ∨ (decide ((N : Int) < 1) = false ∧ decide ((6 : Int) < (N : Int)) = false ∧ decide (p < 1) = false ∧ decide (4 < p) = true) ∨ (decide ((N : Int) < 1) = false ∧ decide ((6 : Int) < (N : Int)) = false ∧ decide (p < 1) = false ∧ decide (4 < p) = false ∧ decide ((10 : Int) < (g : Int)) = true) ∨ (1 ≤ N ∧ N ≤ 6 ∧ 1 ≤ p ∧ p ≤ 4 ∧ g ≤ 10) := by
    by_cases a1 : (N : Int) < 1
    · exact .inl (decide_eq_true a1)
    refine .inr ?_
    by_cases a2 : (6 : Int) < (N : Int)
    · exact .inl ⟨decide_eq_false a1, decide_eq_true a2⟩
    refine .inr ?_
    by_cases a3 : p < 1
    · exact .inl ⟨decide_eq_false a1, decide_eq_false a2, decide_eq_true a3⟩
    refine .inr ?_
    by_cases a4 : 4 < p
    · exact .inl ⟨decide_eq_false a1, decide_eq_false a2, decide_eq_false a3, decide_eq_true a4⟩
    refine .inr ?_
    by_cases a5 : (10 : Int) < (g : Int)
    · exact .inl ⟨decide_eq_false a1, decide_eq_false a2, decide_eq_false a3, decide_eq_false a4, decide_eq_true a5⟩
    exact .inr (by omega)
  rcases hq with q1 | ⟨q1, q2⟩ | ⟨q1, q2, q3⟩ | ⟨q1, q2, q3, q4⟩ | ⟨q1, q2, q3, q4, q5⟩ | ⟨b1, b2, b3, b4, b5⟩
  rotate_left 5
  · obtain ⟨k, rfl⟩ : ∃ k : Nat, p = (k : Int) := ⟨p.toNat, by omega⟩
    exact stripeRows_main Az N Cz z k Ag g Cg zg w b1 b2 (by omega) (by omega) b5 h h'
  all_goals
    clear h h'
    go_enter Try.func4, Try.ntmps4
    go_wp2_with fail
    refine (alive13_true _).mono ?_
    rintro e w1 ⟨rfl, hB⟩
    have HB := Lib.hid hB
    clear hB
    go_wp2
    go_ret
    exact ⟨rfl, HB.out⟩
end Go.Proofs.Ytcmdggdionghcaa
