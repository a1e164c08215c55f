/- What ListingNext answers: true. -/
import Derived.Test.YtjhbmijdpcbbiaaLsAlive
import Derived.Test.YtjhbmijdpcbbiaaLsGet
import Derived.Test.YtjhbmijdpcbbiaaLnMath
namespace Go.Proofs.Ytjhbmijdpcbbiaa
open Go.RowKit
open Pt (Tx)

/-- the law's own files -/
def fxA (N : Nat) (g : Bool) (i : Nat) : Fx := ⟨Ls.fa N g i, none, 0⟩
def fxB (j : Nat) : Fx := ⟨Ls.fb j, none, 0⟩
def La (N : Nat) (g : Bool) (i : Nat) : List Fx := (List.range i).map (fxA N g)
theorem La_succ (N : Nat) (g : Bool) (i : Nat) : La N g (i + 1) = La N g i ++ [fxA N g i] := by unfold La; rw [List.range_succ, List.map_append]; rfl
theorem La_len (N : Nat) (g : Bool) (i : Nat) : (La N g i).length = i := by unfold La; simp
def Lb (N : Nat) (g : Bool) (j : Nat) : List Fx := La N g (N + 1) ++ (List.range j).map fxB
theorem Lb_zero (N : Nat) (g : Bool) : Lb N g 0 = La N g (N + 1) := by unfold Lb; simp
theorem Lb_succ (N : Nat) (g : Bool) (j : Nat) : Lb N g (j + 1) = Lb N g j ++ [fxB j] := by unfold Lb; rw [List.range_succ, List.map_append, List.append_assoc]; rfl
theorem Lb_len (N : Nat) (g : Bool) (j : Nat) : (Lb N g j).length = N + 1 + j := by unfold Lb; rw [List.length_append, La_len]; simp
theorem Lb_files (N M : Nat) (g : Bool) : filesOf (Lb N g (M + 1)) = Ls.laid N M g := by
  unfold filesOf Lb La Ls.laid
  rw [List.map_append, List.map_map, List.map_map]; rfl
theorem Lb_mem (N M : Nat) (g : Bool) (hN : N < 20) (hM : M < 20) : ∀ x ∈ Lb N g (M + 1), x.f.parts = [] ∧ x.f.path.length ≤ 1000 ∧ x = ⟨x.f, none, 0⟩ ∧ Low x.f.version ∧ Low x.f.serial := fun x hx => by
  unfold Lb La at hx
  rcases List.mem_append.1 hx with hx | hx
  · obtain ⟨i, hi, rfl⟩ := List.mem_map.1 hx
    have := List.mem_range.1 hi
    exact ⟨rfl, by show ([97] : Tx).length ≤ _; decide, rfl, ⟨by show (-9223372036854775808 : Int) ≤ (i : Int) + 1; omega, by show (i : Int) + 1 ≤ _; omega⟩, by show (-9223372036854775808 : Int) ≤ 2 * (i : Int) + 1; omega, by show 2 * (i : Int) + 1 ≤ _; omega⟩
  · obtain ⟨i, hi, rfl⟩ := List.mem_map.1 hx
    have := List.mem_range.1 hi
    exact ⟨rfl, by show ([98] : Tx).length ≤ _; decide, rfl, ⟨by show (-9223372036854775808 : Int) ≤ (i : Int) + 1; omega, by show (i : Int) + 1 ≤ _; omega⟩, by show (-9223372036854775808 : Int) ≤ 2 * (i : Int) + 2; omega, by show 2 * (i : Int) + 2 ≤ _; omega⟩
set_option maxRecDepth 100000 in
set_option maxHeartbeats 16000000 in
theorem next_main_false (N M : Nat) (a0 a1 : Int) (hN : a0 = (N : Int) + 1) (hM : a1 = (M : Int) + 1) (hN2 : N < 20) (hM2 : M < 20) (w : World) :
    Calls Try.prog 5 #[.int .i64 a0, .int .i64 a1, .bool false] w fun e w' => e = .returned (.bool true) ∧ Below w.heap.size w w' := by
  have HN := Lib.hid hN
  have HM := Lib.hid hM
  have g1 : decide (a0 < 1) = false := decide_eq_false (by omega)
  have g2 : decide (20 < a0) = false := decide_eq_false (by omega)
  have g3 : decide (a1 < 1) = false := decide_eq_false (by omega)
  have g4 : decide (20 < a1) = false := decide_eq_false (by omega)
  have HAL := Lib.hid (alive18_true w)
  clear hN hM
  go_enter Try.func5, Try.ntmps5
  go_wp2_with fail
  refine HAL.out.mono ?_
  rintro e w1 ⟨rfl, hb1⟩
  have HB1 := Lib.hid hb1
  clear hb1 HAL
  go_wp2
  clear g1 g2 g3 g4
  go_loopw [9, 8] (fun vi vl wr => ∃ i : Nat, i ≤ N + 1 ∧ vi = .int .i64 (i : Int) ∧ Hid (encF.Own wr w.heap.size 26 vl (La N false i)) ∧ Hid (Below w.heap.size w wr)) (fun vi _ _ => N + 1 - (intOf vi).toNat)
  case atStart => exact ⟨0, Nat.zero_le _, rfl, Lib.hid (Enc.Own.nil _ _ _), HB1⟩
  case round =>
    obtain ⟨i, hi, rfl, HO, HB⟩ := hrel
    by_cases hlt : i < N + 1
    · have e0 : decide ((i : Int) < a0) = true := decide_eq_true (by have := HN.out; omega)
      have s1 : IntKind.i64.wrap ((i : Int) + 1) = (i : Int) + 1 := IntWalk.i64_in _ (by omega)
      have s2 : IntKind.i64.wrap (2 * (i : Int)) = 2 * (i : Int) := IntWalk.i64_in _ (by omega)
      have s3 : IntKind.i64.wrap (2 * (i : Int) + 1) = 2 * (i : Int) + 1 := IntWalk.i64_in _ (by omega)
      have HFX : Hid (encF.enc (fxA N false i) = [.string (tx [97]), .int .i64 ((i : Int) + 1), .int .i64 0, .int .i64 0, .int .i64 (2 * (i : Int) + 1), .bool false, .slice none 0 0]) := Lib.hid rfl
      obtain ⟨wt, hwt⟩ : ∃ x, x = wr.alloc (fileO [97] ((i : Int) + 1) 0 0 (2 * (i : Int) + 1) false none 0 0) := ⟨_, rfl⟩
      have hbt : Below wr.heap.size wr wt := by rw [hwt]; exact (Below.refl _ _).alloc (Nat.le_refl _) _
      have HOWN := Lib.hid (HO.out.old hbt)
      have HBT := Lib.hid (HB.out.trans (hbt.mono HB.out.size))
      have hsz : w.heap.size ≤ wt.heap.size := HBT.out.size
      have hln : (La N false i).length + 1 ≤ 100 := by rw [La_len]; omega
      have HNEW : Hid (∀ j u, (encF.cells [fxA N false i])[j]? = some u → wt.cell? ((⟨wr.heap.size, 0, none⟩ : Addr).add j) = some u) := Lib.hid (by
        rw [hwt, encF.cells_one, HFX.out]
        exact newCells wr [.string (tx [97]), .int .i64 ((i : Int) + 1), .int .i64 0, .int .i64 0, .int .i64 (2 * (i : Int) + 1), .bool false, .slice none 0 0] _)
      have HWT : Hid (wt = wr.alloc (.cells #[.string ⟨#[97]⟩, .int .i64 ((i : Int) + 1), .int .i64 0, .int .i64 0, .int .i64 (2 * (i : Int) + 1), .bool false, .slice none 0 0] 26)) := Lib.hid hwt
      clear hwt hbt
      go_wp2_with (at_builtin; rw [← HWT.out]; refine wpList_append_st' encF _ rfl _ _ _ rfl w.heap.size 26 _ 80 Try.underlying22 infoFile rfl _ (La N false i) rfl HOWN.out ⟨wr.heap.size, 0, none⟩ 1 1 [fxA N false i] rfl rfl HNEW.out (by unfold maxLen; omega) (by omega) hsz ?_; intro v9 w9 ho9 hg9)
      have HO9 : Hid (encF.Own w9 w.heap.size 26 v9 (La N false (i + 1))) := Lib.hid (by rw [La_succ]; exact ho9)
      have HB9 := Lib.hid (HBT.out.grown hg9 hsz (fun k hk => (HOWN.out.lt k hk).1))
      clear ho9 hg9
      go_wp2
      go_roundw
      case rel => exact ⟨i + 1, by omega, by go_num, HO9, HB9⟩
      case measure => simp [intOf]; omega
    · have e0 : decide ((i : Int) < a0) = false := decide_eq_false (by have := HN.out; omega)
      have hiN : i = N + 1 := by omega
      rw [hiN] at HO
      have HO2 := HO
      clear HO hlt hiN hi
      go_wp2
      clear e0
      go_loopw [10, 8] (fun vj vl wr => ∃ j : Nat, j ≤ M + 1 ∧ vj = .int .i64 (j : Int) ∧ Hid (encF.Own wr w.heap.size 26 vl (Lb N false j)) ∧ Hid (Below w.heap.size w wr)) (fun vj _ _ => M + 1 - (intOf vj).toNat)
      case atStart => exact ⟨0, Nat.zero_le _, rfl, Lib.hid (by rw [Lb_zero]; exact HO2.out), HB⟩
      case round =>
        clear HO2 HB
        obtain ⟨j, hj, rfl, HO, HB⟩ := hrel
        by_cases hlt : j < M + 1
        · have e0 : decide ((j : Int) < a1) = true := decide_eq_true (by have := HM.out; omega)
          have s1 : IntKind.i64.wrap ((j : Int) + 1) = (j : Int) + 1 := IntWalk.i64_in _ (by omega)
          have s2 : IntKind.i64.wrap (2 * (j : Int)) = 2 * (j : Int) := IntWalk.i64_in _ (by omega)
          have s3 : IntKind.i64.wrap (2 * (j : Int) + 2) = 2 * (j : Int) + 2 := IntWalk.i64_in _ (by omega)
          obtain ⟨wt, hwt⟩ : ∃ x, x = wr.alloc (fileO [98] ((j : Int) + 1) 0 0 (2 * (j : Int) + 2) false none 0 0) := ⟨_, rfl⟩
          have hbt : Below wr.heap.size wr wt := by rw [hwt]; exact (Below.refl _ _).alloc (Nat.le_refl _) _
          have HOWN := Lib.hid (HO.out.old hbt)
          have HBT := Lib.hid (HB.out.trans (hbt.mono HB.out.size))
          have hsz : w.heap.size ≤ wt.heap.size := HBT.out.size
          have hln : (Lb N false j).length + 1 ≤ 100 := by rw [Lb_len]; omega
          have HNEW : Hid (∀ k u, (encF.cells [fxB j])[k]? = some u → wt.cell? ((⟨wr.heap.size, 0, none⟩ : Addr).add k) = some u) := Lib.hid (by
            rw [hwt, encF.cells_one]
            exact newCells wr [.string (tx [98]), .int .i64 ((j : Int) + 1), .int .i64 0, .int .i64 0, .int .i64 (2 * (j : Int) + 2), .bool false, .slice none 0 0] _)
          have HWT : Hid (wt = wr.alloc (.cells #[.string ⟨#[98]⟩, .int .i64 ((j : Int) + 1), .int .i64 0, .int .i64 0, .int .i64 (2 * (j : Int) + 2), .bool false, .slice none 0 0] 26)) := Lib.hid hwt
          clear hwt hbt
          go_wp2_with (at_builtin; rw [← HWT.out]; refine wpList_append_st' encF _ rfl _ _ _ rfl w.heap.size 26 _ 80 Try.underlying22 infoFile rfl _ (Lb N false j) rfl HOWN.out ⟨wr.heap.size, 0, none⟩ 1 1 [fxB j] rfl rfl HNEW.out (by unfold maxLen; omega) (by omega) hsz ?_; intro v9 w9 ho9 hg9)
          have HO9 : Hid (encF.Own w9 w.heap.size 26 v9 (Lb N false (j + 1))) := Lib.hid (by rw [Lb_succ]; exact ho9)
          have HB9 := Lib.hid (HBT.out.grown hg9 hsz (fun k hk => (HOWN.out.lt k hk).1))
          clear ho9 hg9
          go_wp2
          go_roundw
          case rel => exact ⟨j + 1, by omega, by go_num, HO9, HB9⟩
          case measure => simp [intOf]; omega
        · have e0 : decide ((j : Int) < a1) = false := decide_eq_false (by have := HM.out; omega)
          have hjM : j = M + 1 := by omega
          rw [hjM] at HO
          clear hjM
          obtain ⟨A, C, hv, -, -, -, hrd⟩ := HO.out.rd
          obtain ⟨L, hL⟩ : ∃ L, L = (Lb N false (M + 1)).length := ⟨_, rfl⟩
          have hL2 : L ≤ 1000000 := by rw [hL, Lb_len]; omega
          rw [← hL] at hv
          have HLL := Lib.hid hL
          have HFS : Hid (filesOf (Lb N false (M + 1)) = Ls.laid N M false) := Lib.hid (Lb_files N M false)
          have hmem : ∀ x ∈ Lb N false (M + 1), x.f.parts = [] ∧ x.f.path.length ≤ 1000 ∧ x = ⟨x.f, none, 0⟩ ∧ Low x.f.version ∧ Low x.f.serial := Lb_mem N M false hN2 hM2
          have HMEM := Lib.hid hmem
          have HFIT : Hid (∀ y, ∀ x ∈ Lb N false (M + 1), x.Fit y) := Lib.hid fun y x hx => by
            obtain ⟨h1, h2, h3, -, -⟩ := HMEM.out x hx
            rw [h3]; exact bare_fit _ h1 h2 y
          have HRD : Hid (∀ y, Below wr.heap.size wr y → encF.Rd y A (Lb N false (M + 1)) (fun _ => True)) := Lib.hid fun y hy => (hrd.old hy).mono fun _ _ => trivial
          have HNW : Hid (∀ y, Below wr.heap.size wr y → Calls Try.prog 7 #[.slice A L C, .string ⟨#[97]⟩] y (FileA (Ls.newest (Ls.laid N M false) [97]) y)) := Lib.hid fun y hy => by
            have h := newest_any (Lb N false (M + 1)) L C A _ [97] y HLL.out hL2 (HRD.out y hy) (HFIT.out y)
            rwa [HFS.out] at h
          have HGT : Hid (∀ y, Below wr.heap.size wr y → Calls Try.prog 9 #[.slice A L C, .string ⟨#[97]⟩, .int .i64 a0] y (FileA (Ls.get (Ls.laid N M false) [97] ((N : Int) + 1)) y)) := Lib.hid fun y hy => by
            have h := get_any (Lb N false (M + 1)) L C A _ [97] a0 y HLL.out hL2 (HRD.out y hy) (HFIT.out y)
            rw [HFS.out] at h
            rw [← HN.out]; exact h
          have HNX : Hid (∀ p y, Below wr.heap.size wr y → Calls Try.prog 12 #[.slice A L C, .string (tx p)] y fun e y' => e = .returned (.int .i64 (Ls.next (Ls.laid N M false) p)) ∧ Below y.heap.size y y') := Lib.hid fun p y hy => by
            have h := next_any (Lb N false (M + 1)) L C A _ p y HLL.out hL2 (HRD.out y hy) (fun x hx => (HMEM.out x hx).2.2.2.1)
            rwa [HFS.out] at h
          have HSE : Hid (∀ y, Below wr.heap.size wr y → Calls Try.prog 14 #[.slice A L C] y fun e y' => e = .returned (.int .i64 (Ls.serial (Ls.laid N M false))) ∧ Below y.heap.size y y') := Lib.hid fun y hy => by
            have h := serial_any (Lb N false (M + 1)) L C A _ y HLL.out hL2 (HRD.out y hy) (fun x hx => (HMEM.out x hx).2.2.2.2)
            rwa [HFS.out] at h
          have HNM : Hid (∀ y, Below wr.heap.size wr y → Calls Try.prog 17 #[.slice A L C] y (NamesA [[97], [98]] y)) := Lib.hid fun y hy => by
            have h := names_any (Lb N false (M + 1)) L C A _ y HLL.out hL2 (HRD.out y hy) (fun x hx => by have := (HMEM.out x hx).2.1; omega)
            rw [HFS.out, Ls.names_laid] at h
            exact h
          have hva : Ls.next (Ls.laid N M false) [97] = a0 + 1 := by rw [Ls.next_a, HN.out]; omega
          have hvb : Ls.next (Ls.laid N M false) [98] = a1 + 1 := by rw [Ls.next_b, HM.out]; omega
          have hvc : Ls.next (Ls.laid N M false) [99] = 1 := Ls.next_c N M false
          have HXA := HNX.out [97]
          have HXB := HNX.out [98]
          have HXC := HNX.out [99]
          rw [hva] at HXA
          rw [hvb] at HXB
          rw [hvc] at HXC
          have HXA := Lib.hid HXA
          have HXB := Lib.hid HXB
          have HXC := Lib.hid HXC
          have HNA : Hid ((Ls.newest (Ls.laid N M false) [97]).isSome = !false) := Lib.hid (Ls.newest_a N M false)
          have HGA : Hid ((Ls.get (Ls.laid N M false) [97] ((N : Int) + 1)).isSome = !false) := Lib.hid (Ls.get_a N M false)
          have s1 : IntKind.i64.wrap (a0 + 1) = a0 + 1 := IntWalk.i64_in _ (by have := HN.out; omega)
          have s2 : IntKind.i64.wrap (a1 + 1) = a1 + 1 := IntWalk.i64_in _ (by have := HM.out; omega)
          have s3 : IntKind.i64.wrap (2 * a0) = 2 * a0 := IntWalk.i64_in _ (by have := HN.out; omega)
          have s4 : IntKind.i64.wrap (2 * a1) = 2 * a1 := IntWalk.i64_in _ (by have := HM.out; omega)
          have s5 : IntKind.i64.wrap (2 * a1 + 1) = 2 * a1 + 1 := IntWalk.i64_in _ (by have := HM.out; omega)
          have HSEV : Hid ((decide (a0 ≤ a1) = true ∧ Ls.serial (Ls.laid N M false) = 2 * a1 + 1) ∨ (decide (a0 ≤ a1) = false ∧ Ls.serial (Ls.laid N M false) = 2 * a0)) := Lib.hid (by
            rw [Ls.serial_laid]
            have h1 := HN.out
            have h2 := HM.out
            by_cases h : N ≤ M
            · rw [if_pos h]; exact .inl ⟨decide_eq_true (by omega), by omega⟩
            · rw [if_neg h]; exact .inr ⟨decide_eq_false (by omega), by omega⟩)
          subst hv
          clear hrd hmem HMEM HNX hva hvb hvc hL HO hN2 hM2 hlt hj
          go_wp2_with fail
          refine (HNW.out wr (Below.refl _ _)).mono ?_
          intro e w2 ha
          rcases ha.cases with ⟨h0, rfl, hb2⟩ | ⟨P', v', z', s', r', b', pl', A', m', C', h0, hm', rfl, hrd, hb2⟩
          · have h := HNA.out; rw [h0] at h; cases h
          obtain ⟨w3, hw3⟩ : ∃ x, x = w2.alloc (fileO P' v' z' s' r' b' A' m' C') := ⟨_, rfl⟩
          have hb3 : Below wr.heap.size wr w3 := by rw [hw3]; exact hb2.alloc hb2.size _
          have HW3 : Hid (w3 = w2.alloc (.cells #[.string (tx P'), .int .i64 v', .int .i64 z', .int .i64 s', .int .i64 r', .bool b', .slice A' m' C'] 26)) := Lib.hid hw3
          have HB3 := Lib.hid hb3
          clear h0 hb2 ha hw3 hb3 hm' hrd
          go_upto_region 14 with fail
          rw [← HW3.out]
          go_wp2_with fail
          refine (HGT.out w3 HB3.out).mono ?_
          intro e w4 ha
          rcases ha.cases with ⟨h0, rfl, hb4⟩ | ⟨Q, u1, u2, u3, u4, b9, pl9, A9, m9, C9, h0, hm', rfl, hrd, hb4⟩
          · have h := HGA.out; rw [h0] at h; cases h
          obtain ⟨w5, hw5⟩ : ∃ x, x = w4.alloc (fileO Q u1 u2 u3 u4 b9 A9 m9 C9) := ⟨_, rfl⟩
          have hb5 : Below w3.heap.size w3 w5 := by rw [hw5]; exact hb4.alloc hb4.size _
          have HW5 : Hid (w5 = w4.alloc (.cells #[.string (tx Q), .int .i64 u1, .int .i64 u2, .int .i64 u3, .int .i64 u4, .bool b9, .slice A9 m9 C9] 26)) := Lib.hid hw5
          have HB5 := Lib.hid (HB3.out.trans (hb5.mono HB3.out.size))
          clear h0 hb4 ha hw5 hb5 hm' hrd
          go_upto_region 15 with fail
          rw [← HW5.out]
          rcases HSEV.out with ⟨q1, q2⟩ | ⟨q1, q2⟩
          all_goals
            have HQ2 := Lib.hid q2
            clear q2
            go_wp2_with fail
            refine (HXA.out w5 HB5.out).mono ?_
            rintro e w6 ⟨rfl, hb6⟩
            have HB6 := Lib.hid (HB5.out.trans (hb6.mono HB5.out.size))
            clear hb6
            go_wp2_with fail
            refine (HXB.out w6 HB6.out).mono ?_
            rintro e w7 ⟨rfl, hb7⟩
            have HB7 := Lib.hid (HB6.out.trans (hb7.mono HB6.out.size))
            clear hb7
            go_wp2_with fail
            refine (HXC.out w7 HB7.out).mono ?_
            rintro e w8 ⟨rfl, hb8⟩
            have HB8 := Lib.hid (HB7.out.trans (hb8.mono HB7.out.size))
            clear hb8
            go_wp2_with fail
            refine (HSE.out w8 HB8.out).mono ?_
            rw [HQ2.out]
            rintro e w9 ⟨rfl, hb9⟩
            have HB9 := Lib.hid (HB8.out.trans (hb9.mono HB8.out.size))
            clear hb9
            go_wp2_with fail
            refine (HNM.out w9 HB9.out).mono ?_
            rintro e w10 ⟨A10, C10, rfl, -, hb10⟩
            have HB10 := Lib.hid ((HB.out.trans (HB9.out.mono HB.out.size)).trans (hb10.mono (HB.out.trans (HB9.out.mono HB.out.size)).size))
            clear hb10
            go_wp2
            go_ret
            exact ⟨rfl, HB10.out⟩
set_option maxRecDepth 100000 in
set_option maxHeartbeats 16000000 in
theorem next_main_true (N M : Nat) (a0 a1 : Int) (hN : a0 = (N : Int) + 1) (hM : a1 = (M : Int) + 1) (hN2 : N < 20) (hM2 : M < 20) (w : World) :
    Calls Try.prog 5 #[.int .i64 a0, .int .i64 a1, .bool true] w fun e w' => e = .returned (.bool true) ∧ Below w.heap.size w w' := by
  have HN := Lib.hid hN
  have HM := Lib.hid hM
  have g1 : decide (a0 < 1) = false := decide_eq_false (by omega)
  have g2 : decide (20 < a0) = false := decide_eq_false (by omega)
  have g3 : decide (a1 < 1) = false := decide_eq_false (by omega)
  have g4 : decide (20 < a1) = false := decide_eq_false (by omega)
  have HAL := Lib.hid (alive18_true w)
  clear hN hM
  go_enter Try.func5, Try.ntmps5
  go_wp2_with fail
  refine HAL.out.mono ?_
  rintro e w1 ⟨rfl, hb1⟩
  have HB1 := Lib.hid hb1
  clear hb1 HAL
  go_wp2
  clear g1 g2 g3 g4
  go_loopw [9, 8] (fun vi vl wr => ∃ i : Nat, i ≤ N + 1 ∧ vi = .int .i64 (i : Int) ∧ Hid (encF.Own wr w.heap.size 26 vl (La N true i)) ∧ Hid (Below w.heap.size w wr)) (fun vi _ _ => N + 1 - (intOf vi).toNat)
  case atStart => exact ⟨0, Nat.zero_le _, rfl, Lib.hid (Enc.Own.nil _ _ _), HB1⟩
  case round =>
    obtain ⟨i, hi, rfl, HO, HB⟩ := hrel
    by_cases hlt : i < N + 1
    · have e0 : decide ((i : Int) < a0) = true := decide_eq_true (by have := HN.out; omega)
      have s1 : IntKind.i64.wrap ((i : Int) + 1) = (i : Int) + 1 := IntWalk.i64_in _ (by omega)
      have s2 : IntKind.i64.wrap (2 * (i : Int)) = 2 * (i : Int) := IntWalk.i64_in _ (by omega)
      have s3 : IntKind.i64.wrap (2 * (i : Int) + 1) = 2 * (i : Int) + 1 := IntWalk.i64_in _ (by omega)
      have s4 : IntKind.i64.wrap (a0 - 1) = (N : Int) := by rw [IntWalk.i64_in _ (by have := HN.out; omega)]; have := HN.out; omega
      by_cases hiN : i = N
      · have q1 : ((i : Int) == (N : Int)) = true := by rw [hiN]; exact beq_self_eq_true _
        have HFX : Hid (encF.enc (fxA N true i) = [.string (tx [97]), .int .i64 ((i : Int) + 1), .int .i64 0, .int .i64 0, .int .i64 (2 * (i : Int) + 1), .bool true, .slice none 0 0]) := Lib.hid (by
          have h : (true && decide (i = N)) = true := by rw [hiN]; simp
          show [_, _, _, _, _, Value.bool (true && decide (i = N)), _] = _
          rw [h]; rfl)
        clear hiN
        obtain ⟨wt, hwt⟩ : ∃ x, x = wr.alloc (fileO [97] ((i : Int) + 1) 0 0 (2 * (i : Int) + 1) true none 0 0) := ⟨_, rfl⟩
        have hbt : Below wr.heap.size wr wt := by rw [hwt]; exact (Below.refl _ _).alloc (Nat.le_refl _) _
        have HOWN := Lib.hid (HO.out.old hbt)
        have HBT := Lib.hid (HB.out.trans (hbt.mono HB.out.size))
        have hsz : w.heap.size ≤ wt.heap.size := HBT.out.size
        have hln : (La N true i).length + 1 ≤ 100 := by rw [La_len]; omega
        have HNEW : Hid (∀ j u, (encF.cells [fxA N true i])[j]? = some u → wt.cell? ((⟨wr.heap.size, 0, none⟩ : Addr).add j) = some u) := Lib.hid (by
          rw [hwt, encF.cells_one, HFX.out]
          exact newCells wr [.string (tx [97]), .int .i64 ((i : Int) + 1), .int .i64 0, .int .i64 0, .int .i64 (2 * (i : Int) + 1), .bool true, .slice none 0 0] _)
        have HWT : Hid (wt = wr.alloc (.cells #[.string ⟨#[97]⟩, .int .i64 ((i : Int) + 1), .int .i64 0, .int .i64 0, .int .i64 (2 * (i : Int) + 1), .bool true, .slice none 0 0] 26)) := Lib.hid hwt
        clear hwt hbt
        go_wp2_with (at_builtin; rw [← HWT.out]; refine wpList_append_st' encF _ rfl _ _ _ rfl w.heap.size 26 _ 80 Try.underlying22 infoFile rfl _ (La N true i) rfl HOWN.out ⟨wr.heap.size, 0, none⟩ 1 1 [fxA N true i] rfl rfl HNEW.out (by unfold maxLen; omega) (by omega) hsz ?_; intro v9 w9 ho9 hg9)
        have HO9 : Hid (encF.Own w9 w.heap.size 26 v9 (La N true (i + 1))) := Lib.hid (by rw [La_succ]; exact ho9)
        have HB9 := Lib.hid (HBT.out.grown hg9 hsz (fun k hk => (HOWN.out.lt k hk).1))
        clear ho9 hg9
        go_wp2
        go_roundw
        case rel => exact ⟨i + 1, by omega, by go_num, HO9, HB9⟩
        case measure => simp [intOf]; omega
      · have q1 : ((i : Int) == (N : Int)) = false := beq_eq_false_iff_ne.2 (by omega)
        have HFX : Hid (encF.enc (fxA N true i) = [.string (tx [97]), .int .i64 ((i : Int) + 1), .int .i64 0, .int .i64 0, .int .i64 (2 * (i : Int) + 1), .bool false, .slice none 0 0]) := Lib.hid (by
          have h : (true && decide (i = N)) = false := by simp [hiN]
          show [_, _, _, _, _, Value.bool (true && decide (i = N)), _] = _
          rw [h]; rfl)
        clear hiN
        obtain ⟨wt, hwt⟩ : ∃ x, x = wr.alloc (fileO [97] ((i : Int) + 1) 0 0 (2 * (i : Int) + 1) false none 0 0) := ⟨_, rfl⟩
        have hbt : Below wr.heap.size wr wt := by rw [hwt]; exact (Below.refl _ _).alloc (Nat.le_refl _) _
        have HOWN := Lib.hid (HO.out.old hbt)
        have HBT := Lib.hid (HB.out.trans (hbt.mono HB.out.size))
        have hsz : w.heap.size ≤ wt.heap.size := HBT.out.size
        have hln : (La N true i).length + 1 ≤ 100 := by rw [La_len]; omega
        have HNEW : Hid (∀ j u, (encF.cells [fxA N true i])[j]? = some u → wt.cell? ((⟨wr.heap.size, 0, none⟩ : Addr).add j) = some u) := Lib.hid (by
          rw [hwt, encF.cells_one, HFX.out]
          exact newCells wr [.string (tx [97]), .int .i64 ((i : Int) + 1), .int .i64 0, .int .i64 0, .int .i64 (2 * (i : Int) + 1), .bool false, .slice none 0 0] _)
        have HWT : Hid (wt = wr.alloc (.cells #[.string ⟨#[97]⟩, .int .i64 ((i : Int) + 1), .int .i64 0, .int .i64 0, .int .i64 (2 * (i : Int) + 1), .bool false, .slice none 0 0] 26)) := Lib.hid hwt
        clear hwt hbt
        go_wp2_with (at_builtin; rw [← HWT.out]; refine wpList_append_st' encF _ rfl _ _ _ rfl w.heap.size 26 _ 80 Try.underlying22 infoFile rfl _ (La N true i) rfl HOWN.out ⟨wr.heap.size, 0, none⟩ 1 1 [fxA N true i] rfl rfl HNEW.out (by unfold maxLen; omega) (by omega) hsz ?_; intro v9 w9 ho9 hg9)
        have HO9 : Hid (encF.Own w9 w.heap.size 26 v9 (La N true (i + 1))) := Lib.hid (by rw [La_succ]; exact ho9)
        have HB9 := Lib.hid (HBT.out.grown hg9 hsz (fun k hk => (HOWN.out.lt k hk).1))
        clear ho9 hg9
        go_wp2
        go_roundw
        case rel => exact ⟨i + 1, by omega, by go_num, HO9, HB9⟩
        case measure => simp [intOf]; omega
    · have e0 : decide ((i : Int) < a0) = false := decide_eq_false (by have := HN.out; omega)
      have hiN : i = N + 1 := by omega
      rw [hiN] at HO
      have HO2 := HO
      clear HO hlt hiN hi
      go_wp2
      clear e0
      go_loopw [10, 8] (fun vj vl wr => ∃ j : Nat, j ≤ M + 1 ∧ vj = .int .i64 (j : Int) ∧ Hid (encF.Own wr w.heap.size 26 vl (Lb N true j)) ∧ Hid (Below w.heap.size w wr)) (fun vj _ _ => M + 1 - (intOf vj).toNat)
      case atStart => exact ⟨0, Nat.zero_le _, rfl, Lib.hid (by rw [Lb_zero]; exact HO2.out), HB⟩
      case round =>
        clear HO2 HB
        obtain ⟨j, hj, rfl, HO, HB⟩ := hrel
        by_cases hlt : j < M + 1
        · have e0 : decide ((j : Int) < a1) = true := decide_eq_true (by have := HM.out; omega)
          have s1 : IntKind.i64.wrap ((j : Int) + 1) = (j : Int) + 1 := IntWalk.i64_in _ (by omega)
          have s2 : IntKind.i64.wrap (2 * (j : Int)) = 2 * (j : Int) := IntWalk.i64_in _ (by omega)
          have s3 : IntKind.i64.wrap (2 * (j : Int) + 2) = 2 * (j : Int) + 2 := IntWalk.i64_in _ (by omega)
          obtain ⟨wt, hwt⟩ : ∃ x, x = wr.alloc (fileO [98] ((j : Int) + 1) 0 0 (2 * (j : Int) + 2) false none 0 0) := ⟨_, rfl⟩
          have hbt : Below wr.heap.size wr wt := by rw [hwt]; exact (Below.refl _ _).alloc (Nat.le_refl _) _
          have HOWN := Lib.hid (HO.out.old hbt)
          have HBT := Lib.hid (HB.out.trans (hbt.mono HB.out.size))
          have hsz : w.heap.size ≤ wt.heap.size := HBT.out.size
          have hln : (Lb N true j).length + 1 ≤ 100 := by rw [Lb_len]; omega
          have HNEW : Hid (∀ k u, (encF.cells [fxB j])[k]? = some u → wt.cell? ((⟨wr.heap.size, 0, none⟩ : Addr).add k) = some u) := Lib.hid (by
            rw [hwt, encF.cells_one]
            exact newCells wr [.string (tx [98]), .int .i64 ((j : Int) + 1), .int .i64 0, .int .i64 0, .int .i64 (2 * (j : Int) + 2), .bool false, .slice none 0 0] _)
          have HWT : Hid (wt = wr.alloc (.cells #[.string ⟨#[98]⟩, .int .i64 ((j : Int) + 1), .int .i64 0, .int .i64 0, .int .i64 (2 * (j : Int) + 2), .bool false, .slice none 0 0] 26)) := Lib.hid hwt
          clear hwt hbt
          go_wp2_with (at_builtin; rw [← HWT.out]; refine wpList_append_st' encF _ rfl _ _ _ rfl w.heap.size 26 _ 80 Try.underlying22 infoFile rfl _ (Lb N true j) rfl HOWN.out ⟨wr.heap.size, 0, none⟩ 1 1 [fxB j] rfl rfl HNEW.out (by unfold maxLen; omega) (by omega) hsz ?_; intro v9 w9 ho9 hg9)
          have HO9 : Hid (encF.Own w9 w.heap.size 26 v9 (Lb N true (j + 1))) := Lib.hid (by rw [Lb_succ]; exact ho9)
          have HB9 := Lib.hid (HBT.out.grown hg9 hsz (fun k hk => (HOWN.out.lt k hk).1))
          clear ho9 hg9
          go_wp2
          go_roundw
          case rel => exact ⟨j + 1, by omega, by go_num, HO9, HB9⟩
          case measure => simp [intOf]; omega
        · have e0 : decide ((j : Int) < a1) = false := decide_eq_false (by have := HM.out; omega)
          have hjM : j = M + 1 := by omega
          rw [hjM] at HO
          clear hjM
          obtain ⟨A, C, hv, -, -, -, hrd⟩ := HO.out.rd
          obtain ⟨L, hL⟩ : ∃ L, L = (Lb N true (M + 1)).length := ⟨_, rfl⟩
          have hL2 : L ≤ 1000000 := by rw [hL, Lb_len]; omega
          rw [← hL] at hv
          have HLL := Lib.hid hL
          have HFS : Hid (filesOf (Lb N true (M + 1)) = Ls.laid N M true) := Lib.hid (Lb_files N M true)
          have hmem : ∀ x ∈ Lb N true (M + 1), x.f.parts = [] ∧ x.f.path.length ≤ 1000 ∧ x = ⟨x.f, none, 0⟩ ∧ Low x.f.version ∧ Low x.f.serial := Lb_mem N M true hN2 hM2
          have HMEM := Lib.hid hmem
          have HFIT : Hid (∀ y, ∀ x ∈ Lb N true (M + 1), x.Fit y) := Lib.hid fun y x hx => by
            obtain ⟨h1, h2, h3, -, -⟩ := HMEM.out x hx
            rw [h3]; exact bare_fit _ h1 h2 y
          have HRD : Hid (∀ y, Below wr.heap.size wr y → encF.Rd y A (Lb N true (M + 1)) (fun _ => True)) := Lib.hid fun y hy => (hrd.old hy).mono fun _ _ => trivial
          have HNW : Hid (∀ y, Below wr.heap.size wr y → Calls Try.prog 7 #[.slice A L C, .string ⟨#[97]⟩] y (FileA (Ls.newest (Ls.laid N M true) [97]) y)) := Lib.hid fun y hy => by
            have h := newest_any (Lb N true (M + 1)) L C A _ [97] y HLL.out hL2 (HRD.out y hy) (HFIT.out y)
            rwa [HFS.out] at h
          have HGT : Hid (∀ y, Below wr.heap.size wr y → Calls Try.prog 9 #[.slice A L C, .string ⟨#[97]⟩, .int .i64 a0] y (FileA (Ls.get (Ls.laid N M true) [97] ((N : Int) + 1)) y)) := Lib.hid fun y hy => by
            have h := get_any (Lb N true (M + 1)) L C A _ [97] a0 y HLL.out hL2 (HRD.out y hy) (HFIT.out y)
            rw [HFS.out] at h
            rw [← HN.out]; exact h
          have HNX : Hid (∀ p y, Below wr.heap.size wr y → Calls Try.prog 12 #[.slice A L C, .string (tx p)] y fun e y' => e = .returned (.int .i64 (Ls.next (Ls.laid N M true) p)) ∧ Below y.heap.size y y') := Lib.hid fun p y hy => by
            have h := next_any (Lb N true (M + 1)) L C A _ p y HLL.out hL2 (HRD.out y hy) (fun x hx => (HMEM.out x hx).2.2.2.1)
            rwa [HFS.out] at h
          have HSE : Hid (∀ y, Below wr.heap.size wr y → Calls Try.prog 14 #[.slice A L C] y fun e y' => e = .returned (.int .i64 (Ls.serial (Ls.laid N M true))) ∧ Below y.heap.size y y') := Lib.hid fun y hy => by
            have h := serial_any (Lb N true (M + 1)) L C A _ y HLL.out hL2 (HRD.out y hy) (fun x hx => (HMEM.out x hx).2.2.2.2)
            rwa [HFS.out] at h
          have HNM : Hid (∀ y, Below wr.heap.size wr y → Calls Try.prog 17 #[.slice A L C] y (NamesA [[98]] y)) := Lib.hid fun y hy => by
            have h := names_any (Lb N true (M + 1)) L C A _ y HLL.out hL2 (HRD.out y hy) (fun x hx => by have := (HMEM.out x hx).2.1; omega)
            rw [HFS.out, Ls.names_laid] at h
            exact h
          have hva : Ls.next (Ls.laid N M true) [97] = a0 + 1 := by rw [Ls.next_a, HN.out]; omega
          have hvb : Ls.next (Ls.laid N M true) [98] = a1 + 1 := by rw [Ls.next_b, HM.out]; omega
          have hvc : Ls.next (Ls.laid N M true) [99] = 1 := Ls.next_c N M true
          have HXA := HNX.out [97]
          have HXB := HNX.out [98]
          have HXC := HNX.out [99]
          rw [hva] at HXA
          rw [hvb] at HXB
          rw [hvc] at HXC
          have HXA := Lib.hid HXA
          have HXB := Lib.hid HXB
          have HXC := Lib.hid HXC
          have HNA : Hid ((Ls.newest (Ls.laid N M true) [97]).isSome = !true) := Lib.hid (Ls.newest_a N M true)
          have HGA : Hid ((Ls.get (Ls.laid N M true) [97] ((N : Int) + 1)).isSome = !true) := Lib.hid (Ls.get_a N M true)
          have s1 : IntKind.i64.wrap (a0 + 1) = a0 + 1 := IntWalk.i64_in _ (by have := HN.out; omega)
          have s2 : IntKind.i64.wrap (a1 + 1) = a1 + 1 := IntWalk.i64_in _ (by have := HM.out; omega)
          have s3 : IntKind.i64.wrap (2 * a0) = 2 * a0 := IntWalk.i64_in _ (by have := HN.out; omega)
          have s4 : IntKind.i64.wrap (2 * a1) = 2 * a1 := IntWalk.i64_in _ (by have := HM.out; omega)
          have s5 : IntKind.i64.wrap (2 * a1 + 1) = 2 * a1 + 1 := IntWalk.i64_in _ (by have := HM.out; omega)
          have HSEV : Hid ((decide (a0 ≤ a1) = true ∧ Ls.serial (Ls.laid N M true) = 2 * a1 + 1) ∨ (decide (a0 ≤ a1) = false ∧ Ls.serial (Ls.laid N M true) = 2 * a0)) := Lib.hid (by
            rw [Ls.serial_laid]
            have h1 := HN.out
            have h2 := HM.out
            by_cases h : N ≤ M
            · rw [if_pos h]; exact .inl ⟨decide_eq_true (by omega), by omega⟩
            · rw [if_neg h]; exact .inr ⟨decide_eq_false (by omega), by omega⟩)
          subst hv
          clear hrd hmem HMEM HNX hva hvb hvc hL HO hN2 hM2 hlt hj
          go_wp2_with fail
          refine (HNW.out wr (Below.refl _ _)).mono ?_
          intro e w2 ha
          obtain ⟨h0, rfl, hb2⟩ := ha.cases.resolve_right fun ⟨P', v', z', s', r', b', pl', A', m', C', h0, _⟩ => by have h := HNA.out; rw [h0] at h; cases h
          obtain ⟨w3, hw3⟩ : ∃ x, x = w2.alloc (fileO [] 0 0 0 0 false none 0 0) := ⟨_, rfl⟩
          have hb3 : Below wr.heap.size wr w3 := by rw [hw3]; exact hb2.alloc hb2.size _
          have HW3 : Hid (w3 = w2.alloc (.cells #[.string ⟨#[]⟩, .int .i64 0, .int .i64 0, .int .i64 0, .int .i64 0, .bool false, .slice none 0 0] 26)) := Lib.hid hw3
          have HB3 := Lib.hid hb3
          clear h0 hb2 ha hw3 hb3 
          go_upto_region 14 with fail
          rw [← HW3.out]
          go_wp2_with fail
          refine (HGT.out w3 HB3.out).mono ?_
          intro e w4 ha
          obtain ⟨h0, rfl, hb4⟩ := ha.cases.resolve_right fun ⟨Q, u1, u2, u3, u4, b9, pl9, A9, m9, C9, h0, _⟩ => by have h := HGA.out; rw [h0] at h; cases h
          obtain ⟨w5, hw5⟩ : ∃ x, x = w4.alloc (fileO [] 0 0 0 0 false none 0 0) := ⟨_, rfl⟩
          have hb5 : Below w3.heap.size w3 w5 := by rw [hw5]; exact hb4.alloc hb4.size _
          have HW5 : Hid (w5 = w4.alloc (.cells #[.string ⟨#[]⟩, .int .i64 0, .int .i64 0, .int .i64 0, .int .i64 0, .bool false, .slice none 0 0] 26)) := Lib.hid hw5
          have HB5 := Lib.hid (HB3.out.trans (hb5.mono HB3.out.size))
          clear h0 hb4 ha hw5 hb5 
          go_upto_region 15 with fail
          rw [← HW5.out]
          rcases HSEV.out with ⟨q1, q2⟩ | ⟨q1, q2⟩
          all_goals
            have HQ2 := Lib.hid q2
            clear q2
            go_wp2_with fail
            refine (HXA.out w5 HB5.out).mono ?_
            rintro e w6 ⟨rfl, hb6⟩
            have HB6 := Lib.hid (HB5.out.trans (hb6.mono HB5.out.size))
            clear hb6
            go_wp2_with fail
            refine (HXB.out w6 HB6.out).mono ?_
            rintro e w7 ⟨rfl, hb7⟩
            have HB7 := Lib.hid (HB6.out.trans (hb7.mono HB6.out.size))
            clear hb7
            go_wp2_with fail
            refine (HXC.out w7 HB7.out).mono ?_
            rintro e w8 ⟨rfl, hb8⟩
            have HB8 := Lib.hid (HB7.out.trans (hb8.mono HB7.out.size))
            clear hb8
            go_wp2_with fail
            refine (HSE.out w8 HB8.out).mono ?_
            rw [HQ2.out]
            rintro e w9 ⟨rfl, hb9⟩
            have HB9 := Lib.hid (HB8.out.trans (hb9.mono HB8.out.size))
            clear hb9
            go_wp2_with fail
            refine (HNM.out w9 HB9.out).mono ?_
            rintro e w10 ⟨A10, C10, rfl, -, hb10⟩
            have HB10 := Lib.hid ((HB.out.trans (HB9.out.mono HB.out.size)).trans (hb10.mono (HB.out.trans (HB9.out.mono HB.out.size)).size))
            clear hb10
            go_wp2
            go_ret
            exact ⟨rfl, HB10.out⟩
set_option maxRecDepth 100000 in
set_option maxHeartbeats 4000000 in
theorem next_walk (a0 a1 : Int) (a2 : Bool) (w : World) :
    Calls Try.prog 5 #[.int .i64 a0, .int .i64 a1, .bool a2] w fun e w' => e = .returned (.bool true) ∧ Below w.heap.size w w' := by
  by_cases hin : 1 ≤ a0 ∧ a0 ≤ 20 ∧ 1 ≤ a1 ∧ a1 ≤ 20
  · obtain ⟨h1, h2, h3, h4⟩ := hin
    cases a2 with
    | false => exact next_main_false (a0 - 1).toNat (a1 - 1).toNat a0 a1 (by omega) (by omega) (by omega) (by omega) w
    | true => exact next_main_true (a0 - 1).toNat (a1 - 1).toNat a0 a1 (by omega) (by omega) (by omega) (by omega) w
  · have hcase : decide (a0 < 1) = true ∨ (decide (a0 < 1) = false ∧ decide (20 < a0) = true) ∨ (decide (a0 < 1) = false ∧ decide (20 < a0) = false ∧ decide (a1 < 1) = true) ∨ (decide (a0 < 1) = false ∧ decide (20 < a0) = false ∧ decide (a1 < 1) = false ∧ decide (20 < a1) = true) := by
      simp only [decide_eq_true_eq, decide_eq_false_iff_not]
      omega
    have HAL := Lib.hid (alive18_true w)
    clear hin
    rcases hcase with g1 | ⟨g1, g2⟩ | ⟨g1, g2, g3⟩ | ⟨g1, g2, g3, g4⟩
    all_goals
      go_enter Try.func5, Try.ntmps5
      go_wp2_with fail
      refine HAL.out.mono ?_
      rintro e w1 ⟨rfl, hb1⟩
      have HB1 := Lib.hid hb1
      clear hb1
      go_wp2
      go_ret
      exact ⟨rfl, HB1.out⟩
end Go.Proofs.Ytjhbmijdpcbbiaa
