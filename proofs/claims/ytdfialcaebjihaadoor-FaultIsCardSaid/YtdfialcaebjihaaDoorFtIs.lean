/- errors.Is of two errors of package fault: just if code and spot are the same. -/
import Derived.Test.YtdfialcaebjihaaDoorFtFind
import Derived.Laws.StructEq
namespace Go.Proofs.YtdfialcaebjihaaDoor
open Go.RowKit Go.Extern.Stop Go.Stop Go.Extern
open Pt (Tx)

theorem eqF (f g : Fl) (W : World) : (binOp .eql 27 (.iface 44 (flv f)) (.iface 44 (flv g))).run Tryd.prog W = .ok (.bool (decide (f = g))) W := by
  obtain ⟨i, hi, hcmp⟩ := Option.map_eq_some_iff.1 compF
  have h : ∀ d, (Op.equalIn (d + 2) 27 (.iface 44 (flv f)) (.iface 44 (flv g))).run Tryd.prog W = (Op.equalIn (d + 1) 44 (flv f) (flv g)).run Tryd.prog W := fun d => by
    conv => lhs; rw [Op.equalIn]
    simp [run_underlying Tryd.underlying27, typeInfo, hi, hcmp]
  have h2 : (Op.equalIn 9999 44 (flv f) (flv g)).run Tryd.prog W = .ok (decide (f = g)) W := by
    by_cases e : f = g
    · subst e
      simp [go_sem]
    · have hd : decide (f = g) = false := by simp [e]
      rw [hd]
      by_cases e1 : f.c = g.c
      · by_cases e2 : f.l = g.l
        · have e3 : ¬ f.k = g.k := fun e3 => e (Fl.ext' e1 e2 e3)
          simp [go_sem, e1, e2, e3]
        · simp [go_sem, e1, e2]
      · simp [go_sem, e1]
  simp only [binOp]
  simp [Op.equal, Op.maxDepth, h 9998, h2]
theorem ly_same {w : World} {f g : Fl} {s s' : Tx} {r r' : List Tx} {P : Option Addr} (h : Ly w f (s :: r) P) (h' : Ly w g (s' :: r') P) : f = g := by
  obtain ⟨b, P1, e, hb, _, _⟩ := h
  obtain ⟨b', P2, e', hb', _, _⟩ := h'
  rw [e] at e'
  injection e' with e'
  injection e' with e' _ _
  subst e'
  rw [hb] at hb'
  injection hb' with hb'
  injection hb' with hb' _ _
  simp at hb'
  exact Fl.ext' hb'.2.2.1 hb'.2.2.2.1 hb'.2.2.2.2

set_option maxHeartbeats 4000000 in
set_option maxRecDepth 100000 in
theorem is_walk (f g : Fl) (ws us : List Tx) (v u : Value) (w : World) (hv : Er w f ws v) (hu : Er w g us u) (hg : Hg w) (hc : g.c ≠ 0) :
    Calls Tryd.prog 25 #[v, u, .bool true] w fun e w' => e = .returned (.bool (decide (f = g))) ∧ Below w.heap.size w w' := by
  obtain ⟨i, hi, hcmp⟩ := Option.map_eq_some_iff.1 compL
  obtain ⟨j, hj, hjs⟩ := Option.map_eq_some_iff.1 sizeL
  have nI := noIsL
  have hI := hasIsF
  have mI := methodIs
  have hU := hasUnwrapL
  have mU := methodUnwrap
  have nU := noUnwrapF
  have nV := noUnwrapsF
  have HV := Lib.hid hv
  have HU := Lib.hid hu
  have HG := Lib.hid hg
  have HC := Lib.hid (is_any f (some g) u w ⟨us, hu⟩ hg (fun g' e => by cases e; exact hc))
  clear hv hu hg hc
  go_enter Tryd.func25, Tryd.ntmps25
  go_wp2
  go_loopw [0] (fun v wr => ∃ ws, Hid (Er w f ws v) ∧ wr = w) (fun v _ => rank v)
  case atStart => exact ⟨ws, HV, rfl⟩
  case round =>
    obtain ⟨ws, HE, rfl⟩ := hrel
    cases ws with
    | nil =>
      obtain rfl : u0 = .iface 44 (flv f) := HE.out
      have hq : ∃ q : Bool, (q = true → f = g) ∧ (binOp .eql 27 (.iface 44 (flv f)) u).run Tryd.prog wr = .ok (.bool q) wr := by
        cases us with
        | nil => obtain rfl : u = .iface 44 (flv g) := HU.out; exact ⟨_, of_decide_eq_true, eqF f g wr⟩
        | cons s r => obtain ⟨b, rfl, _⟩ := HU.out; exact ⟨false, (fun h => by cases h), run_eql_iface_types _ _ _ _ Tryd.underlying27 (by decide) wr⟩
      obtain ⟨q, hqi, hqe⟩ := hq
      cases q with
      | true =>
        have Hd : Hid (decide (f = g) = true) := Lib.hid (decide_eq_true (hqi rfl))
        clear hqi
        go_wp2
        go_ret
        exact ⟨(congrArg (fun b => Ending.returned (.bool b)) Hd.out).symm, Below.refl _ _⟩
      | false =>
        clear hqi
        go_wp2_with (go_at_call 50; refine HC.out.mono ?_; rintro e w' ⟨rfl, hb⟩; have HB := Lib.hid hb; clear hb; cases hd : decide (some g = some f))
        · have Hd : Hid (decide (f = g) = false) := Lib.hid (by simp at hd ⊢; exact fun e => hd e.symm)
          go_wp2
          go_ret
          exact ⟨(congrArg (fun b => Ending.returned (.bool b)) Hd.out).symm, HB.out⟩
        · have Hd : Hid (decide (f = g) = true) := Lib.hid (by simp at hd ⊢; exact hd.symm)
          go_wp2
          go_ret
          exact ⟨(congrArg (fun b => Ending.returned (.bool b)) Hd.out).symm, HB.out⟩
    | cons s r =>
      obtain ⟨b, rfl, hly⟩ := HE.out
      have HLY := Lib.hid hly
      have hq : ∃ q : Bool, (q = true → f = g) ∧ (binOp .eql 27 (.iface 45 (.pointer (some ⟨b, 0, none⟩))) u).run Tryd.prog wr = .ok (.bool q) wr := by
        cases us with
        | nil => obtain rfl : u = .iface 44 (flv g) := HU.out; exact ⟨false, (fun h => by cases h), run_eql_iface_types _ _ _ _ Tryd.underlying27 (by decide) wr⟩
        | cons s' r' =>
          obtain ⟨b', rfl, hly'⟩ := HU.out
          by_cases eb : b = b'
          · subst eb
            exact ⟨true, fun _ => ly_same hly hly', run_eql_iface_ptr_same wr _ Tryd.underlying27 Tryd.underlying45 hi hcmp hj⟩
          · obtain ⟨b1, _, e1, h1, _⟩ := hly
            obtain ⟨b2, _, e2, h2, _⟩ := hly'
            injection e1 with e1
            injection e1 with e1 _ _
            injection e2 with e2
            injection e2 with e2 _ _
            subst e1; subst e2
            exact ⟨false, (fun h => by cases h), run_eql_iface_ptr_other wr Tryd.underlying27 Tryd.underlying45 hi hcmp hj (by rw [hjs]; decide) (fun e => eb (congrArg Addr.block e)) h1 h2⟩
      obtain ⟨q, hqi, hqe⟩ := hq
      clear hly
      cases q with
      | true =>
        have Hd : Hid (decide (f = g) = true) := Lib.hid (decide_eq_true (hqi rfl))
        clear hqi
        go_wp2
        go_ret
        exact ⟨(congrArg (fun b => Ending.returned (.bool b)) Hd.out).symm, Below.refl _ _⟩
      | false =>
        clear hqi
        go_wp2_with (go_at_call 66; (refine (unwrap_any f s r b _ HLY.out).mono ?_); rintro e w' ⟨⟨v', rfl, hev, hrk⟩, rfl⟩; have HEV := Lib.hid hev; obtain ⟨ti, xi, rfl⟩ := hev.iface)
        go_roundw
        case rel => exact ⟨r, HEV, trivial⟩
        case measure => exact hrk

set_option maxHeartbeats 4000000 in
theorem errIs_any (f g : Fl) (ws us : List Tx) (v u : Value) (w : World) (hv : Er w f ws v) (hu : Er w g us u) (hg : Hg w) (hc : g.c ≠ 0) :
    Calls Tryd.prog 19 #[v, u] w fun e w' => e = .returned (.bool (decide (f = g))) ∧ Below w.heap.size w w' := by
  have h24 := @run_callFunc_extern Tryd.prog 24 _ ReflectliteType.typeOf Tryd.func24 (by kernel_rfl) (by kernel_rfl) (by kernel_rfl) (by kernel_rfl)
  have tF := typeOfF
  have tL := typeOfL
  have mC := methodComparable
  have cF := comparableF
  have cL := comparableL
  have HC := is_walk f g ws us v u w hv hu hg hc
  obtain ⟨tv, xv, rfl⟩ := hv.iface
  cases us with
  | nil =>
    obtain rfl : u = .iface 44 (flv g) := hu
    clear hv hg hc
    go_enter Tryd.func19, Tryd.ntmps19
    go_wp2_with (go_at_call 25; refine HC.mono ?_; rintro e w' ⟨rfl, hb⟩; have HB := Lib.hid hb; clear hb)
    go_ret
    exact ⟨rfl, HB.out⟩
  | cons s r =>
    obtain ⟨b, rfl, _⟩ := hu
    clear hv hg hc
    go_enter Tryd.func19, Tryd.ntmps19
    go_wp2_with (go_at_call 25; refine HC.mono ?_; rintro e w' ⟨rfl, hb⟩; have HB := Lib.hid hb; clear hb)
    go_ret
    exact ⟨rfl, HB.out⟩

set_option maxHeartbeats 4000000 in
theorem same_any (f g : Fl) (ws us : List Tx) (v u : Value) (w : World) (hv : Er w f ws v) (hu : Er w g us u) (hg : Hg w) (hf : f.c ≠ 0) (hc : g.c ≠ 0) :
    Calls Tryd.prog 14 #[v, u] w fun e w' => e = .returned (.bool (decide (f = g))) ∧ Below w.heap.size w w' := by
  have HC1 := errIs_any f g ws us v u w hv hu hg hc
  by_cases e : f = g
  · have Hd : Hid (decide (f = g) = true) := Lib.hid (decide_eq_true e)
    have hd := Hd.out
    have HC2 : ∀ w', Below w.heap.size w w' → _ := fun w' hb => errIs_any g f us ws u v w' (hu.old hb) (hv.old hb) (hg.old hb) hf
    have hd2 : decide (g = f) = true := decide_eq_true e.symm
    rw [hd] at HC1
    rw [hd2] at HC2
    clear hv hu hg hf hc hd hd2 e
    go_enter Tryd.func14, Tryd.ntmps14
    go_wp2_with fail
    refine HC1.mono ?_
    rintro e w' ⟨rfl, hb⟩
    have HB := Lib.hid hb
    clear hb
    go_wp2_with fail
    refine (HC2 w' HB.out).mono ?_
    rintro e w2 ⟨rfl, hb⟩
    have HB2 := Lib.hid hb
    clear hb
    go_wp2
    go_ret
    exact ⟨(congrArg (fun b => Ending.returned (.bool b)) Hd.out).symm, HB.out.trans ⟨HB2.out.os, HB2.out.tape, HB2.out.output, HB2.out.size, fun k hk => HB2.out.block k (Nat.lt_of_lt_of_le hk HB.out.size)⟩⟩
  · have Hd : Hid (decide (f = g) = false) := Lib.hid (decide_eq_false e)
    have hd := Hd.out
    rw [hd] at HC1
    clear hv hu hg hf hc hd e
    go_enter Tryd.func14, Tryd.ntmps14
    go_wp2_with (go_at_call 19; refine HC1.mono ?_; rintro e w' ⟨rfl, hb⟩; have HB := Lib.hid hb; clear hb)
    go_ret
    exact ⟨(congrArg (fun b => Ending.returned (.bool b)) Hd.out).symm, HB.out⟩
end Go.Proofs.YtdfialcaebjihaaDoor
