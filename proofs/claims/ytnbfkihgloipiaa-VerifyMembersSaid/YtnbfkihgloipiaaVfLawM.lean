/- VerifyMembers: the members of a group that are hurt are counted, each once. -/
import Derived.Test.YtnbfkihgloipiaaMu
import Derived.Test.YtnbfkihgloipiaaMl
import Derived.Test.YtnbfkihgloipiaaMp
import Derived.Test.YtnbfkihgloipiaaRefFmP
namespace Go.Proofs.Ytnbfkihgloipiaa
open Go.RowKit Vf
open Pt (Tx)

set_option maxRecDepth 100000 in
set_option maxHeartbeats 2000000 in
theorem verifyMembers_no (n a r o : Int) (w : World) (h : n < 1 ∨ 8 < n ∨ a < 0 ∨ r < 0 ∨ o < 0 ∨ n < a ∨ n < r ∨ n < o ∨ n < a + r + o) :
    Calls Try.prog 5 #[.int .i64 n, .int .i64 a, .int .i64 r, .int .i64 o] w fun e w' => e = .returned (.bool true) ∧ Below w.heap.size w w' := by
  by_cases h0 : n < 1
  · have q0 : decide (n < 1) = true := decide_eq_true h0
    clear h h0
    go_enter Try.func5, Try.ntmps5
    go_wp2_with fail
    refine (alive16_true w).mono ?_
    rintro e w1 ⟨rfl, hb1⟩
    go_wp2
    go_ret
    exact ⟨rfl, hb1⟩
  have q0 : decide (n < 1) = false := decide_eq_false h0
  by_cases h1 : 8 < n
  · have q1 : decide (8 < n) = true := decide_eq_true h1
    clear h h0 h1
    go_enter Try.func5, Try.ntmps5
    go_wp2_with fail
    refine (alive16_true w).mono ?_
    rintro e w1 ⟨rfl, hb1⟩
    go_wp2
    go_ret
    exact ⟨rfl, hb1⟩
  have q1 : decide (8 < n) = false := decide_eq_false h1
  by_cases h2 : a < 0
  · have q2 : decide (a < 0) = true := decide_eq_true h2
    clear h h0 h1 h2
    go_enter Try.func5, Try.ntmps5
    go_wp2_with fail
    refine (alive16_true w).mono ?_
    rintro e w1 ⟨rfl, hb1⟩
    go_wp2
    go_ret
    exact ⟨rfl, hb1⟩
  have q2 : decide (a < 0) = false := decide_eq_false h2
  by_cases h3 : r < 0
  · have q3 : decide (r < 0) = true := decide_eq_true h3
    clear h h0 h1 h2 h3
    go_enter Try.func5, Try.ntmps5
    go_wp2_with fail
    refine (alive16_true w).mono ?_
    rintro e w1 ⟨rfl, hb1⟩
    go_wp2
    go_ret
    exact ⟨rfl, hb1⟩
  have q3 : decide (r < 0) = false := decide_eq_false h3
  by_cases h4 : o < 0
  · have q4 : decide (o < 0) = true := decide_eq_true h4
    clear h h0 h1 h2 h3 h4
    go_enter Try.func5, Try.ntmps5
    go_wp2_with fail
    refine (alive16_true w).mono ?_
    rintro e w1 ⟨rfl, hb1⟩
    go_wp2
    go_ret
    exact ⟨rfl, hb1⟩
  have q4 : decide (o < 0) = false := decide_eq_false h4
  by_cases h5 : n < a
  · have q5 : decide (n < a) = true := decide_eq_true h5
    clear h h0 h1 h2 h3 h4 h5
    go_enter Try.func5, Try.ntmps5
    go_wp2_with fail
    refine (alive16_true w).mono ?_
    rintro e w1 ⟨rfl, hb1⟩
    go_wp2
    go_ret
    exact ⟨rfl, hb1⟩
  have q5 : decide (n < a) = false := decide_eq_false h5
  by_cases h6 : n < r
  · have q6 : decide (n < r) = true := decide_eq_true h6
    clear h h0 h1 h2 h3 h4 h5 h6
    go_enter Try.func5, Try.ntmps5
    go_wp2_with fail
    refine (alive16_true w).mono ?_
    rintro e w1 ⟨rfl, hb1⟩
    go_wp2
    go_ret
    exact ⟨rfl, hb1⟩
  have q6 : decide (n < r) = false := decide_eq_false h6
  by_cases h7 : n < o
  · have q7 : decide (n < o) = true := decide_eq_true h7
    clear h h0 h1 h2 h3 h4 h5 h6 h7
    go_enter Try.func5, Try.ntmps5
    go_wp2_with fail
    refine (alive16_true w).mono ?_
    rintro e w1 ⟨rfl, hb1⟩
    go_wp2
    go_ret
    exact ⟨rfl, hb1⟩
  have q7 : decide (n < o) = false := decide_eq_false h7
  have q8 : decide (n < a + r + o) = true := decide_eq_true (by omega)
  have s1 : IntKind.i64.wrap (a + r) = a + r := IntWalk.i64_in _ (by omega)
  have s2 : IntKind.i64.wrap (a + r + o) = a + r + o := IntWalk.i64_in _ (by omega)
  clear h h0 h1 h2 h3 h4 h5 h6 h7
  go_enter Try.func5, Try.ntmps5
  go_wp2_with fail
  refine (alive16_true w).mono ?_
  rintro e w1 ⟨rfl, hb1⟩
  go_wp2
  go_ret
  exact ⟨rfl, hb1⟩
set_option maxRecDepth 100000 in
set_option maxHeartbeats 8000000 in
theorem verifyMembers_main (n a r o : Nat) (w : World) (hn1 : 1 ≤ n) (hn : n ≤ 8) (hs : a + r + o ≤ n) :
    Calls Try.prog 5 #[.int .i64 (n : Int), .int .i64 (a : Int), .int .i64 (r : Int), .int .i64 (o : Int)] w fun e w' => e = .returned (.bool true) ∧ Below w.heap.size w w' := by
  have q0 : decide ((n : Int) < 1) = false := decide_eq_false (by omega)
  have q1 : decide (8 < (n : Int)) = false := decide_eq_false (by omega)
  have q1' : decide (8 < n) = false := decide_eq_false (by omega)
  have q2 : decide ((a : Int) < 0) = false := decide_eq_false (by omega)
  have q3 : decide ((r : Int) < 0) = false := decide_eq_false (by omega)
  have q4 : decide ((o : Int) < 0) = false := decide_eq_false (by omega)
  have q5 : decide ((n : Int) < (a : Int)) = false := decide_eq_false (by omega)
  have q5' : decide (n < a) = false := decide_eq_false (by omega)
  have q6 : decide ((n : Int) < (r : Int)) = false := decide_eq_false (by omega)
  have q6' : decide (n < r) = false := decide_eq_false (by omega)
  have q7 : decide ((n : Int) < (o : Int)) = false := decide_eq_false (by omega)
  have q7' : decide (n < o) = false := decide_eq_false (by omega)
  have q8 : decide ((n : Int) < (a : Int) + (r : Int) + (o : Int)) = false := decide_eq_false (by omega)
  have s1 : IntKind.i64.wrap ((a : Int) + (r : Int)) = (a : Int) + (r : Int) := IntWalk.i64_in _ (by omega)
  have s2 : IntKind.i64.wrap ((a : Int) + (r : Int) + (o : Int)) = (a : Int) + (r : Int) + (o : Int) := IntWalk.i64_in _ (by omega)
  have s3 : IntKind.i64.wrap ((n : Int) + 1) = (n : Int) + 1 := IntWalk.i64_in _ (by omega)
  go_enter Try.func5, Try.ntmps5
  go_wp2_with fail
  refine (alive16_true w).mono ?_
  rintro e w1 ⟨rfl, hb1⟩
  go_wp2
  obtain ⟨w2, hw2⟩ : ∃ x, x = w1.alloc (.cells #[] 3) := ⟨_, rfl⟩
  obtain ⟨w3, hw3⟩ : ∃ x, x = w2.alloc (sealObj 1 0 (n : Int) 1 (some ⟨w1.heap.size, 0, none⟩) 0 0) := ⟨_, rfl⟩
  have hs2 : w2.heap.size = w1.heap.size + 1 := by rw [hw2]; simp
  have hb12 : Below w1.heap.size w1 w2 := by rw [hw2]; exact (Below.refl _ _).alloc (Nat.le_refl _) _
  have hb23 : Below w2.heap.size w2 w3 := by rw [hw3]; exact (Below.refl _ _).alloc (Nat.le_refl _) _
  have hb13 : Below w1.heap.size w1 w3 := hb12.trans (hb23.mono hb12.size)
  have hi3 : w3.heap[w1.heap.size]? = some (.cells #[] 3 (0, 0)) := below_objS hb23 (by rw [hw2]; exact Go.Deep.blk_alloc_new _ _)
  have hs3 : w3.heap[w1.heap.size + 1]? = some (sealObj 1 0 (n : Int) 1 (some ⟨w1.heap.size, 0, none⟩) 0 0) := by rw [hw3, ← hs2]; exact Go.Deep.blk_alloc_new _ _
  have HK0 : Hid (VmK w1 (w1.heap.size + 1) (n : Int) (.slice none 0 0) (Vm.tl a r o 0) (Vm.labs 0) w3) := Lib.hid ⟨(LdR.start w1).old hb13, ⟨_, _, hs3, ⟨rfl, .inr ⟨_, 0, _, rfl, Nat.le_refl _, hi3, Nat.le_refl _, by decide, rfl, rfl⟩⟩⟩, Nat.le_succ _⟩
  have HB1 := Lib.hid hb1
  have HW3 : Hid (w3 = (w1.alloc (.cells #[] 3)).alloc (.cells #[.int .i64 1, .int .i64 0, .int .i64 (n : Int), .int .i64 1, .slice (some ⟨w1.heap.size, 0, none⟩) 0 0] 25)) := Lib.hid (by rw [hw3, hw2]; rfl)
  clear hw2 hw3 hs2 hb12 hb23 hb13 hi3 hs3 hb1
  rw [← HW3.out]
  go_loopw [12, 11] (fun vi vl wr => ∃ i : Nat, i ≤ n + 1 ∧ vi = .int .i64 (i : Int) ∧ Hid (VmK w1 (w1.heap.size + 1) (n : Int) vl (Vm.tl a r o i) (Vm.labs i) wr)) (fun vi _ _ => n + 1 - (intOf vi).toNat)
  case atStart => exact ⟨0, Nat.zero_le _, rfl, HK0⟩
  case round =>
    obtain ⟨i, hi, rfl, HK⟩ := hrel
    by_cases hlt : i < n + 1
    · have e0 : decide ((i : Int) < (n : Int) + 1) = true := decide_eq_true (by omega)
      have s4 : IntKind.i64.wrap ((i : Int) + 1) = (i : Int) + 1 := IntWalk.i64_in _ (by omega)
      obtain ⟨Az, Cz, Ay, Cy, z, h1, hr1, hz1, hk2⟩ := HK.out.label ((i : Int) + 1) (by rw [Vm.labs_len]; omega) (i + 1) (by rw [Vm.labs_len])
      rw [← Vm.labs_succ] at hk2
      rw [Vm.labs_len] at h1 hr1 hz1
      obtain ⟨wz, hwz⟩ : ∃ x, x = z.setCell ⟨w1.heap.size + 1, 4, none⟩ (.slice Ay (i + 1) Cy) := ⟨_, rfl⟩
      rw [← hwz] at hk2
      obtain ⟨x0, x1, x2, x3, x4⟩ := seal5 h1
      have y4 : z.cell? ⟨w1.heap.size + 1, 4, none⟩ = some (.slice Az i Cz) := (seal5 hz1).2.2.2.2
      have f4 : z.frozen? ⟨w1.heap.size + 1, 4, none⟩ = false := heap_frozen hz1
      have hput := refPut_own 3 ((i : Int) + 1) 0 none [] 0 0 (fun _ => True) wz rfl (fun _ => ⟨rfl, rfl⟩) (RdL.empty _ _ _)
      unfold PutO at hput
      rw [show Fm.err ⟨3, (i : Int) + 1, 0, []⟩ = 0 from Fm.err_ok (Vm.b_ok (by omega)), show Fm.put ⟨3, (i : Int) + 1, 0, []⟩ = Vm.b i from Fm.put_ok (Vm.b_ok (by omega))] at hput
      have HP := Lib.hid hput
      have HK2 := Lib.hid hk2
      have HWZ := Lib.hid hwz
      have HBL : Hid ((Vm.b i).length = 79) := Lib.hid (Vm.b_len (by omega))
      clear h1 hz1 hk2 hwz hput
      go_wp2_with (at_builtin; refine Lib.wpList_append_run _ rfl _ _ _ _ rfl _ _ rfl rfl _ _ (hr1 _) ?_)
      rw [← HWZ.out]
      refine HP.out.mono ?_
      rintro e w3' ⟨A3, n3, C3, rfl, hO3, hb3⟩
      clear x0 x1 x2 x3 x4 y4 f4 hr1
      obtain ⟨g3, c3, hA3, hn3, hg3, hc3⟩ : ∃ g3 c3, A3 = some ⟨g3, 0, none⟩ ∧ n3 = 79 ∧ wz.heap.size ≤ g3 ∧ w3'.heap[g3]? = some (.cells c3 5 (0, 0)) := by
        obtain ⟨A9, C9, e9, -, -, -, -⟩ := hO3.rd
        injection e9 with _ e9 _
        rcases hO3.2 with ⟨e, h0⟩ | ⟨g, cap, cur, e, hb, hg, _⟩
        · rw [HBL.out] at h0; cases h0
        · injection e with e1 e2 e3
          exact ⟨g, cur, e1, by rw [e9, HBL.out], hb, hg⟩
      subst hA3 hn3
      obtain ⟨w4, hw4⟩ : ∃ x, x = w3'.alloc (.cells #[.slice (some ⟨g3, 0, none⟩) 79 C3] 36) := ⟨_, rfl⟩
      obtain ⟨w5, hw5⟩ : ∃ x, x = w4.alloc (tapeObj ((i : Int) + 1) 9 (some ⟨w3'.heap.size, 0, none⟩) 1 1 false) := ⟨_, rfl⟩
      have hb34 : Below w3'.heap.size w3' w4 := by rw [hw4]; exact (Below.refl _ _).alloc (Nat.le_refl _) _
      have hb45 : Below w4.heap.size w4 w5 := by rw [hw5]; exact (Below.refl _ _).alloc (Nat.le_refl _) _
      have hs4 : w4.heap.size = w3'.heap.size + 1 := by rw [hw4]; simp
      have hb35 : Below w3'.heap.size w3' w5 := hb34.trans (hb45.mono hb34.size)
      have hb5 : Below wz.heap.size wz w5 := hb3.trans (hb35.mono hb3.size)
      have hc4 : w5.heap[w3'.heap.size]? = some (.cells #[.slice (some ⟨g3, 0, none⟩) 79 C3] 36 (0, 0)) := below_objS hb45 (by rw [hw4]; exact Go.Deep.blk_alloc_new _ _)
      have hT5 : w5.heap[w3'.heap.size + 1]? = some (tapeObj ((i : Int) + 1) 9 (some ⟨w3'.heap.size, 0, none⟩) 1 1 false) := by rw [hw5, ← hs4]; exact Go.Deep.blk_alloc_new _ _
      have hg5 : w5.heap[g3]? = some (.cells c3 5 (0, 0)) := below_objS hb35 hc3
      have htop : TopB w5 wz.heap.size (fun _ => True) (.slice (some ⟨w3'.heap.size, 0, none⟩) 1 1) [.slice (some ⟨g3, 0, none⟩) 79 C3] [Vm.b i] :=
        ⟨⟨rfl, .inr ⟨_, 1, _, rfl, hb3.size, hc4, Nat.le_refl _, by decide, rfl, rfl⟩⟩, rfl, fun q hq hq' => by
          have : q = 0 := by simp at hq; omega
          subst this
          exact hO3.of_block fun k e => hb35.block k (hO3.lt k e), fun _ _ _ _ => trivial, fun q q' hq hq' k _ _ => by simp at hq hq'; omega⟩
      have HTOP := Lib.hid htop
      have HB5 := Lib.hid hb5
      have HT5 := Lib.hid hT5
      have HG5 := Lib.hid hg5
      have HC4 := Lib.hid hc4
      have HG3 := Lib.hid hg3
      have HSZ : Hid (wz.heap.size ≤ w3'.heap.size) := Lib.hid hb3.size
      have HW5 : Hid (w5 = (w3'.alloc (.cells #[.slice (some ⟨g3, 0, none⟩) 79 C3] 36)).alloc (.cells #[.int .i64 ((i : Int) + 1), .int .i64 9, .slice (some ⟨w3'.heap.size, 0, none⟩) 1 1, .bool false] 35)) := Lib.hid (by rw [hw5, hw4]; rfl)
      clear hO3 hb3 hc3 hw4 hw5 hb34 hb45 hs4 hb35 hb5 hc4 hT5 hg5 htop hg3
      go_upto_region 12 with fail
      rw [← HW5.out]
      have c5 : w5.cell? ⟨g3, 4, none⟩ = some (.int .u8 (((Vm.b i)[4]'(by rw [HBL.out]; decide)).toNat : Int)) := by
        obtain ⟨A9, C9, e9, -, -, -, hrd⟩ := (HTOP.out.rows 0 Nat.zero_lt_one Nat.zero_lt_one).rd
        have e9' : (Value.slice (some ⟨g3, 0, none⟩) 79 C3) = .slice A9 (Vm.b i).length C9 := e9
        injection e9' with e9'
        obtain ⟨b', off', e', -, hc'⟩ := hrd (by show 0 < (Vm.b i).length; rw [HBL.out]; decide)
        rw [← e9'] at e'
        injection e' with e'
        injection e' with q1 q2
        subst q1 q2
        exact hc' 4 (by show 4 < (Vm.b i).length; rw [HBL.out]; decide)
      have C5 := Lib.hid c5
      clear c5
      by_cases hA : i < a
      · have eA : decide ((i : Int) < (a : Int)) = true := decide_eq_true (by omega)
        have eA' : decide (i < a) = true := decide_eq_true hA
        obtain ⟨w6, hw6⟩ : ∃ x, x = w5.setCell ⟨w3'.heap.size + 1, 3, none⟩ (.bool true) := ⟨_, rfl⟩
        have hk6 : Kp (· = w3'.heap.size + 1) w5 w6 := by rw [hw6]; exact Kp.store _ _ _ _
        have hT6 : w6.heap[w3'.heap.size + 1]? = some (tapeObj ((i : Int) + 1) 9 (some ⟨w3'.heap.size, 0, none⟩) 1 1 true) := by rw [hw6]; exact heap_set HT5.out (.bool true)
        have hb6 : Below wz.heap.size wz w6 := HB5.out.trans (hk6.below HB5.out.size fun q hq => by have := HSZ.out; omega)
        have hno : ∀ q c t, q = w3'.heap.size + 1 → w5.heap[q]? = some (Obj.cells c t (0, 0)) → t = 35 := fun q c t hq hc => by
          rw [hq, HT5.out] at hc
          injection hc with hc
          injection hc with _ e2
          exact e2.symm
        have htop6 := HTOP.out.kpT hk6 (fun q c hq hc => absurd (hno q c _ hq hc) (by decide)) (fun q c hq hc => absurd (hno q c _ hq hc) (by decide))
        obtain ⟨v7, z7, hr7, hk7⟩ := HK2.out.tape (lab := (i : Int) + 1) (cap := 9) (m := 1) (bs := [Vm.b i]) (by have := Vm.tl_len a r o i; omega) true hb6 rfl htop6
        rw [show Vm.tl a r o i ++ [⟨(i : Int) + 1, 9, [Vm.b i], true⟩] = Vm.tl a r o (i + 1) by rw [Vm.tl_succ]; unfold Vm.tp; rw [if_pos hA]] at hk7
        have HK7 := Lib.hid hk7
        have hsz6 : w6.heap.size = w5.heap.size := by rw [hw6]; simp [World.setCell]
        rw [hsz6] at hr7
        have HW6 := Lib.hid hw6
        obtain ⟨u0, u1, u2, u3⟩ := tape4 hT6
        rw [HW6.out] at u0 u1 u2 u3
        have f5 : w5.frozen? ⟨w3'.heap.size + 1, 3, none⟩ = false := heap_frozen HT5.out
        obtain ⟨y0, y1, y2, y3⟩ := tape4 HT5.out
        clear hw6 hk6 hT6 hb6 hno htop6 hk7 hsz6 hA
        go_wp2_with (at_builtin; rw [← HW6.out]; refine Lib.wpList_append_run _ rfl _ _ _ _ rfl _ _ rfl rfl _ _ (hr7 _) ?_)
        go_roundw
        case rel => exact ⟨i + 1, by omega, by go_num, HK7⟩
        case measure => simp [intOf]; omega
      · have eA : decide ((i : Int) < (a : Int)) = false := decide_eq_false (by omega)
        have eA' : decide (i < a) = false := decide_eq_false hA
        by_cases hB : i < a + r
        · have eB : decide ((i : Int) < (a : Int) + (r : Int)) = true := decide_eq_true (by omega)
          have eB' : decide (i < a + r) = true := decide_eq_true hB
          obtain ⟨w6, hw6⟩ : ∃ x, x = w5.setCell ⟨g3, 4, none⟩ (.int .u8 99) := ⟨_, rfl⟩
          have hk6 : Kp (· = g3) w5 w6 := by rw [hw6]; exact Kp.store _ _ _ _
          have hne : ¬ w3'.heap.size + 1 = g3 := fun e => by
            have h9 := HT5.out
            rw [e, HG5.out] at h9
            injection h9 with h9
            injection h9 with _ e2
            exact absurd e2 (by decide)
          have hT6 : w6.heap[w3'.heap.size + 1]? = some (tapeObj ((i : Int) + 1) 9 (some ⟨w3'.heap.size, 0, none⟩) 1 1 false) := (hk6.block _ (heap_lt HT5.out) hne).trans HT5.out
          have hb6 : Below wz.heap.size wz w6 := HB5.out.trans (hk6.below HB5.out.size fun q hq => by have := HG3.out; omega)
          have htop6 : TopB w6 wz.heap.size (fun _ => True) (.slice (some ⟨w3'.heap.size, 0, none⟩) 1 1) [.slice (some ⟨g3, 0, none⟩) 79 C3] [(Vm.b i).set 4 99] := by
            rw [hw6]
            exact HTOP.out.turned (n := 0) Nat.zero_lt_one Nat.zero_lt_one rfl (s := Vm.b i) rfl (k := 4) (by rw [HBL.out]; decide) 99
          obtain ⟨v7, z7, hr7, hk7⟩ := HK2.out.tape (lab := (i : Int) + 1) (cap := 9) (m := 1) (bs := [(Vm.b i).set 4 99]) (by have := Vm.tl_len a r o i; omega) false hb6 rfl htop6
          rw [show Vm.tl a r o i ++ [⟨(i : Int) + 1, 9, [(Vm.b i).set 4 99], false⟩] = Vm.tl a r o (i + 1) by rw [Vm.tl_succ]; unfold Vm.tp; rw [if_neg hA, if_pos hB]] at hk7
          have HK7 := Lib.hid hk7
          have hsz6 : w6.heap.size = w5.heap.size := by rw [hw6]; simp [World.setCell]
          rw [hsz6] at hr7
          have HW6 := Lib.hid hw6
          obtain ⟨u0, u1, u2, u3⟩ := tape4 hT6
          rw [HW6.out] at u0 u1 u2 u3
          have f5 : w5.frozen? ⟨g3, 4, none⟩ = false := heap_frozen HG5.out
          have c5 := C5.out
          have d5 : w5.cell? ⟨w3'.heap.size, 0, none⟩ = some (.slice (some ⟨g3, 0, none⟩) 79 C3) := heap_cell HC4.out
          obtain ⟨y0, y1, y2, y3⟩ := tape4 HT5.out
          clear hw6 hk6 hT6 hb6 hne htop6 hk7 hsz6 hA hB
          go_wp2_with (at_builtin; rw [← HW6.out]; refine Lib.wpList_append_run _ rfl _ _ _ _ rfl _ _ rfl rfl _ _ (hr7 _) ?_)
          go_roundw
          case rel => exact ⟨i + 1, by omega, by go_num, HK7⟩
          case measure => simp [intOf]; omega
        · have eB : decide ((i : Int) < (a : Int) + (r : Int)) = false := decide_eq_false (by omega)
          have eB' : decide (i < a + r) = false := decide_eq_false hB
          by_cases hC : i < a + r + o
          · have eC : decide ((i : Int) < (a : Int) + (r : Int) + (o : Int)) = true := decide_eq_true (by omega)
            have eC' : decide (i < a + r + o) = true := decide_eq_true hC
            have HK7 : Hid (VmK w1 (w1.heap.size + 1) (n : Int) u11 (Vm.tl a r o (i + 1)) (Vm.labs (i + 1)) w5) := Lib.hid (by
              rw [Vm.tl_succ, show Vm.tp a r o i = [] by unfold Vm.tp; rw [if_neg hA, if_neg hB, if_pos hC], List.append_nil]
              exact HK2.out.old HB5.out)
            clear hA hB hC
            go_wp2
            go_roundw
            case rel => exact ⟨i + 1, by omega, by go_num, HK7⟩
            case measure => simp [intOf]; omega
          · have eC : decide ((i : Int) < (a : Int) + (r : Int) + (o : Int)) = false := decide_eq_false (by omega)
            have eC' : decide (i < a + r + o) = false := decide_eq_false hC
            obtain ⟨v7, z7, hr7, hk7⟩ := HK2.out.tape (lab := (i : Int) + 1) (cap := 9) (m := 1) (bs := [Vm.b i]) (by have := Vm.tl_len a r o i; omega) false HB5.out rfl HTOP.out
            rw [show Vm.tl a r o i ++ [⟨(i : Int) + 1, 9, [Vm.b i], false⟩] = Vm.tl a r o (i + 1) by rw [Vm.tl_succ]; unfold Vm.tp; rw [if_neg hA, if_neg hB, if_neg hC]] at hk7
            have HK7 := Lib.hid hk7
            obtain ⟨y0, y1, y2, y3⟩ := tape4 HT5.out
            clear hk7 hA hB hC
            go_wp2_with (at_builtin; refine Lib.wpList_append_run _ rfl _ _ _ _ rfl _ _ rfl rfl _ _ (hr7 _) ?_)
            go_roundw
            case rel => exact ⟨i + 1, by omega, by go_num, HK7⟩
            case measure => simp [intOf]; omega
    · have e0 : decide ((i : Int) < (n : Int) + 1) = false := decide_eq_false (by omega)
      have hin : i = n + 1 := by omega
      rw [hin] at HK
      obtain ⟨A, C, hv, hrt⟩ := HK.out.ld.rd
      obtain ⟨As, Cs, hsl, hoz⟩ := HK.out.sl
      obtain ⟨A2, C2, hv2, -, -, -, hrz⟩ := hoz.rd
      have hA2 : As = A2 := by injection hv2
      rw [← hA2] at hrz
      rw [Vm.labs_len] at hsl
      have htl := Vm.tl_len a r o (n + 1)
      have hsz := Vm.tl_sizes (a := a) (r := r) (o := o) (N := n + 1) (by omega)
      have hcl := fun (y : World) (hy : Below wr.heap.size wr y) => lost_any A (Vm.tl a r o (n + 1)) _ C 1 0 (n : Int) 1 As (n + 1) Cs (Vm.labs (n + 1)) _ _ y rfl (by omega) (hrt.old hy) (fun t ht => ⟨(hsz t ht).1, (hsz t ht).2.1⟩) (by rw [Vm.labs_len]) (by omega) (hrz.old hy) (fun t ht => (hsz t ht).2.2) (fun l hl => by
        unfold Vm.labs at hl
        obtain ⟨j, hj, rfl⟩ := List.mem_map.1 hl
        have := List.mem_range.1 hj
        show (Lit.int .i64 ((j : Int) + 1)).wf = true
        exact WalkArith.wf_i64 (by omega))
      rw [Vm.tl_lost (by omega), show min (n + 1) (a + r + o) = a + r + o by omega] at hcl
      have hsp := fun (y : World) (hy : Below wr.heap.size wr y) => spots_any A (Vm.tl a r o (n + 1)) _ C _ y rfl (by omega) (hrt.old hy) (fun t ht => ⟨(hsz t ht).1, (hsz t ht).2.1⟩)
      have hspl : (spots (Vm.tl a r o (n + 1))).length = a + r := by rw [Vm.tl_spots _ (by omega)]; omega
      obtain ⟨K, hK⟩ : ∃ K, K = (Vm.tl a r o (n + 1)).length := ⟨_, rfl⟩
      rw [← hK] at hv hcl hsp
      subst hv
      have HCL := Lib.hid hcl
      have HSP := Lib.hid hsp
      have HSPL := Lib.hid hspl
      have HBW := Lib.hid (HB1.out.trans (HK.out.ld.bel.mono HB1.out.size))
      obtain ⟨x0, x1, x2, x3, x4⟩ := seal5 hsl
      have e1 : (((a + r + o : Nat) : Int) == (a : Int) + (r : Int) + (o : Int)) = true := by simp
      have e2 : (((a + r : Nat) : Int) == (a : Int) + (r : Int)) = true := by simp
      clear hcl hsp hspl hsl hoz hv2 hrz hA2 htl hsz hK hin hrt hi
      obtain ⟨wo, rfl⟩ : ∃ x, x = wr := ⟨wr, rfl⟩
      obtain ⟨M, hM⟩ : ∃ M : Nat, M = a + r + o := ⟨_, rfl⟩
      obtain ⟨M2, hM2⟩ : ∃ M : Nat, M = a + r := ⟨_, rfl⟩
      rw [← hM] at e1 HCL
      rw [← hM2] at e2 HSPL
      clear hM hM2
      go_wp2_with fail
      refine (HCL.out wo (Below.refl _ _)).mono ?_
      rintro e w7 ⟨rfl, hb7⟩
      have HB7 := Lib.hid hb7
      clear hb7 x0 x1 x2 x3 x4
      go_wp2_with fail
      refine (HSP.out w7 HB7.out).mono ?_
      rintro e w8 ⟨A8, C8, rfl, -, -, hb8⟩
      rw [HSPL.out]
      have HB8 := Lib.hid (HBW.out.trans ((HB7.out.trans (hb8.mono HB7.out.size)).mono HBW.out.size))
      clear hb8
      go_wp2
      go_ret
      exact ⟨rfl, HB8.out⟩
theorem verifyMembers_walk (n a r o : Int) (w : World) :
    Calls Try.prog 5 #[.int .i64 n, .int .i64 a, .int .i64 r, .int .i64 o] w fun e w' => e = .returned (.bool true) ∧ Below w.heap.size w w' := by
  by_cases h : n < 1 ∨ 8 < n ∨ a < 0 ∨ r < 0 ∨ o < 0 ∨ n < a ∨ n < r ∨ n < o ∨ n < a + r + o
  · exact verifyMembers_no n a r o w h
  · obtain ⟨k, rfl⟩ : ∃ k : Nat, n = (k : Int) := ⟨n.toNat, by omega⟩
    obtain ⟨x, rfl⟩ : ∃ k : Nat, a = (k : Int) := ⟨a.toNat, by omega⟩
    obtain ⟨y, rfl⟩ : ∃ k : Nat, r = (k : Int) := ⟨r.toNat, by omega⟩
    obtain ⟨z, rfl⟩ : ∃ k : Nat, o = (k : Int) := ⟨o.toNat, by omega⟩
    exact verifyMembers_main k x y z w (by omega) (by omega) (by omega)
end Go.Proofs.Ytnbfkihgloipiaa
