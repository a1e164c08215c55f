/- errors.As at a flaw: of an error of package fault the flaw is found; of one of errors.New's none is. -/
import Derived.Test.YtdfialcaebjihaaDoorFtWords
namespace Go.Proofs.YtdfialcaebjihaaDoor
open Go.RowKit Go.Extern.Stop Go.Stop Go.Extern
open Pt (Tx)

abbrev vlP (a : Nat) : Value := .agg #[hdl 58, .pointer (some ⟨a, 0, none⟩), .int .u64 150]

set_option maxHeartbeats 4000000 in
set_option maxRecDepth 100000 in
theorem as_any (f : Fl) (ws : List Tx) (v : Value) (t a : Nat) (o0 o1 o2 : Value) (w : World) (hv : Er w f ws v)
    (ha : w.cell? ⟨a, 0, none⟩ = some (.pointer (some ⟨t, 0, none⟩))) (ht : w.heap[t]? = some (.cells #[o0, o1, o2] 44 (0, 0))) :
    Calls Tryd.prog 29 #[v, .iface 58 (.pointer (some ⟨t, 0, none⟩)), vlP a, rty 44] w fun e w' =>
      e = .returned (.bool true) ∧ w'.heap[t]? = some (.cells #[.int .i64 f.c, .int .i64 f.l, .int .i64 f.k] 44 (0, 0)) ∧ Kp (· = t) w w' := by
  have h24 := @run_callFunc_extern Tryd.prog 24 _ ReflectliteType.typeOf Tryd.func24 (by kernel_rfl) (by kernel_rfl) (by kernel_rfl) (by kernel_rfl)
  have h26 := @run_callFunc_extern Tryd.prog 26 _ (fun args => ReflectliteValue.unpack (args.getD 0 (.tuple #[]))) Tryd.func26 (by kernel_rfl) (by kernel_rfl) (by kernel_rfl) (by kernel_rfl)
  have h30 := @run_callFunc_extern Tryd.prog 30 _ (ReflectliteValue.method (ReflectliteValue.valueError "reflectlite.Value.Elem" 0) ReflectliteValue.elem) Tryd.func30 (by kernel_rfl) (by kernel_rfl) (by kernel_rfl) (by kernel_rfl)
  have h31 := @run_callFunc_extern Tryd.prog 31 _ ReflectliteValue.set Tryd.func31 (by kernel_rfl) (by kernel_rfl) (by kernel_rfl) (by kernel_rfl)
  have hAs := @run_callFunc_extern Tryd.prog 76 _ (ReflectliteType.relation "AssignableTo" ReflectliteType.assignableTo) Tryd.func76 (by kernel_rfl) (by kernel_rfl) (by kernel_rfl) (by kernel_rfl)
  have tF := typeOfF
  have tL := typeOfL
  have mA := methodAssignableTo
  have aF := assignF
  have aL := assignL
  have vF := valueOfF
  have nA := noAsL
  have hU := hasUnwrapL
  have mU := methodUnwrap
  have htl := heap_lt' ht
  have hal := World.block_lt_of_cell? _ _ ha
  have HT := Lib.hid ht
  have HA := Lib.hid ha
  have HV := Lib.hid hv
  clear ht ha hv
  go_enter Tryd.func29, Tryd.ntmps29
  go_wp2
  obtain ⟨w1, hw1⟩ : ∃ w1, w1 = w.alloc (.cells #[hdl 58, .pointer (some ⟨a, 0, none⟩), .int .u64 150] 68) := ⟨_, rfl⟩
  have hbox : w1.heap[w.heap.size]? = some (.cells #[hdl 58, .pointer (some ⟨a, 0, none⟩), .int .u64 150] 68 (0, 0)) := by rw [hw1]; exact Go.Deep.blk_alloc_new _ _
  have hb1 : Below w.heap.size w w1 := by rw [hw1]; exact (Below.refl _ _).alloc (Nat.le_refl _) _
  have HT1 : Hid (w1.heap[t]? = some (.cells #[o0, o1, o2] 44 (0, 0))) := Lib.hid ((hb1.block t htl).trans HT.out)
  have HA1 : Hid (w1.cell? ⟨a, 0, none⟩ = some (.pointer (some ⟨t, 0, none⟩))) := Lib.hid ((hb1.cell (p := ⟨a, 0, none⟩) hal).trans HA.out)
  have HV1 : Hid (Er w1 f ws v) := Lib.hid (HV.out.old hb1)
  have HB1 := Lib.hid hb1
  have HX := Lib.hid hbox
  rw [← hw1]
  clear hb1 hbox hw1
  go_loopw [0] (fun v wr => ∃ ws, Hid (Er w1 f ws v) ∧ wr = w1) (fun v _ => rank v)
  case atStart => exact ⟨ws, HV1, rfl⟩
  case round =>
    obtain ⟨ws, HE, rfl⟩ := hrel
    have b0 : wr.cell? ⟨w.heap.size, 0, none⟩ = some (hdl 58) := cell_of HX.out 0
    have b1 : wr.cell? ⟨w.heap.size, 1, none⟩ = some (.pointer (some ⟨a, 0, none⟩)) := cell_of HX.out 1
    have b2 : wr.cell? ⟨w.heap.size, 2, none⟩ = some (.int .u64 150) := cell_of HX.out 2
    cases ws with
    | nil =>
      obtain rfl : u0 = .iface 44 (flv f) := HE.out
      have hlt1 := heap_lt' HT1.out
      have hn : (wr.alloc (.cells #[.int .i64 f.c, .int .i64 f.l, .int .i64 f.k] 44)).heap[wr.heap.size]? = some (.cells #[.int .i64 f.c, .int .i64 f.l, .int .i64 f.k] 44 (0, 0)) := Go.Deep.blk_alloc_new _ _
      have ht2 : (wr.alloc (.cells #[.int .i64 f.c, .int .i64 f.l, .int .i64 f.k] 44)).heap[t]? = some (.cells #[o0, o1, o2] 44 (0, 0)) := (Below.heap_alloc _ _ _ hlt1).trans HT1.out
      have el := elemVP ⟨a, 0, none⟩ ⟨t, 0, none⟩ wr HA1.out
      have st := setF t wr.heap.size f.c f.l f.k o0 o1 o2 (wr.alloc (.cells #[.int .i64 f.c, .int .i64 f.l, .int .i64 f.k] 44)) (cell_of hn 0) (cell_of hn 1) (cell_of hn 2) ht2
      clear hn ht2
      go_wp2
      go_ret
      refine ⟨rfl, ?_, ?_⟩
      · rw [Below.heap_alloc _ _ _ (by simpa [World.setCell] using heap_lt' HT1.out)]
        simp [World.setCell, Array.getElem?_modify, HT1.out]
      · exact ((((Kp.of_below (S := (· = t)) HB1.out).setCell (p := ⟨t, 0, none⟩) rfl _).setCell (p := ⟨t, 1, none⟩) rfl _).setCell (p := ⟨t, 2, none⟩) rfl _).alloc _
    | cons s r =>
      obtain ⟨b, rfl, hly⟩ := HE.out
      have HLY := Lib.hid hly
      clear hly
      go_wp2_with (go_at_call 66; (refine (unwrap_any f s r b _ HLY.out).mono ?_); rintro e w' ⟨⟨v', rfl, hev, hrk⟩, rfl⟩; have HEV := Lib.hid hev; obtain ⟨ti, xi, rfl⟩ := hev.iface)
      go_roundw
      case rel => exact ⟨r, HEV, trivial⟩
      case measure => exact hrk

set_option maxHeartbeats 4000000 in
set_option maxRecDepth 100000 in
/-- an error that wraps no flaw -/
theorem as_none (x : Value) (t a : Nat) (w : World) :
    Calls Tryd.prog 29 #[.iface 52 x, .iface 58 (.pointer (some ⟨t, 0, none⟩)), vlP a, rty 44] w fun e w' =>
      e = .returned (.bool false) ∧ Below w.heap.size w w' := by
  have h24 := @run_callFunc_extern Tryd.prog 24 _ ReflectliteType.typeOf Tryd.func24 (by kernel_rfl) (by kernel_rfl) (by kernel_rfl) (by kernel_rfl)
  have hAs := @run_callFunc_extern Tryd.prog 76 _ (ReflectliteType.relation "AssignableTo" ReflectliteType.assignableTo) Tryd.func76 (by kernel_rfl) (by kernel_rfl) (by kernel_rfl) (by kernel_rfl)
  have tE := typeOfE
  have mA := methodAssignableTo
  have aE := assignE
  have nA := noAsE
  have nU := noUnwrapE
  have nV := noUnwrapsE
  go_enter Tryd.func29, Tryd.ntmps29
  go_wp2
  refine wp_loop_rounds 1 ?_
  rw [rounds_succ]
  go_wp2
  go_ret
  exact ⟨rfl, (Below.refl _ _).alloc (Nat.le_refl _) _⟩

/-- what errors.As finds: the flaw that is wrapped, or none -/
def AsAny (t : Nat) (f : Option Fl) (w : World) (e : Ending) (w' : World) : Prop :=
  e = .returned (.bool f.isSome) ∧ w'.heap[t]? = some (.cells (match f with | some f => #[.int .i64 f.c, .int .i64 f.l, .int .i64 f.k] | none => #[.int .i64 0, .int .i64 0, .int .i64 0]) 44 (0, 0)) ∧ Kp (· = t) w w'
/-- an error: nil, one of errors.New's, or one of package fault's -/
def Err (w : World) (f : Option Fl) (v : Value) : Prop :=
  match f with
  | none => v = .nilIface ∨ ∃ x, v = .iface 52 x
  | some f => ∃ ws, Er w f ws v
theorem Err.old {w w' : World} {f : Option Fl} {v : Value} (h : Err w f v) (hb : Below w.heap.size w w') : Err w' f v := by
  cases f with
  | none => exact h
  | some f => obtain ⟨ws, h⟩ := h; exact ⟨ws, h.old hb⟩
/-- errors.errorType holds the handle of error -/
def Hg (w : World) : Prop := w.cell? ⟨0, 0, none⟩ = some (rty 27)
theorem Hg.old {w w' : World} (h : Hg w) (hb : Below w.heap.size w w') : Hg w' := (hb.cell (World.block_lt_of_cell? _ _ h)).trans h

set_option maxHeartbeats 4000000 in
set_option maxRecDepth 100000 in
theorem asAny (f : Option Fl) (v : Value) (t : Nat) (w : World) (hv : Err w f v) (hg : Hg w)
    (ht : w.heap[t]? = some (.cells #[.int .i64 0, .int .i64 0, .int .i64 0] 44 (0, 0))) :
    Calls Tryd.prog 23 #[v, .iface 58 (.pointer (some ⟨t, 0, none⟩))] w (AsAny t f w) := by
  by_cases hnil : v = .nilIface
  · subst hnil
    cases f with
    | some f => obtain ⟨ws, h⟩ := hv; obtain ⟨_, _, e⟩ := h.iface; cases e
    | none =>
      have HT := Lib.hid ht
      clear ht
      go_enter Tryd.func23, Tryd.ntmps23
      go_wp2
      go_ret
      exact ⟨rfl, HT.out, Kp.refl _ _⟩
  have h26 := @run_callFunc_extern Tryd.prog 26 _ (fun args => ReflectliteValue.unpack (args.getD 0 (.tuple #[]))) Tryd.func26 (by kernel_rfl) (by kernel_rfl) (by kernel_rfl) (by kernel_rfl)
  have h27 := @run_callFunc_extern Tryd.prog 27 _ (ReflectliteValue.methodAny (ReflectliteValue.valueError "reflectlite.Value.Type" 0) (fun t _ _ _ => ReflectliteType.toType t)) Tryd.func27 (by kernel_rfl) (by kernel_rfl) (by kernel_rfl) (by kernel_rfl)
  have h28 := @run_callFunc_extern Tryd.prog 28 _ (ReflectliteValue.method (ReflectliteValue.valueError "reflectlite.Value.IsNil" 0) ReflectliteValue.isNil) Tryd.func28 (by kernel_rfl) (by kernel_rfl) (by kernel_rfl) (by kernel_rfl)
  have hK := @run_callFunc_extern Tryd.prog 46 _ (ReflectliteType.abiMethod fun t => do pure (.int .u8 (← Rtype.kind t))) Tryd.func46 (by kernel_rfl) (by kernel_rfl) (by kernel_rfl) (by kernel_rfl)
  have hEl := @run_callFunc_extern Tryd.prog 78 _ (ReflectliteType.method ReflectliteType.elem) Tryd.func78 (by kernel_rfl) (by kernel_rfl) (by kernel_rfl) (by kernel_rfl)
  have hIm := @run_callFunc_extern Tryd.prog 79 _ (ReflectliteType.relation "Implements" ReflectliteType.implements_) Tryd.func79 (by kernel_rfl) (by kernel_rfl) (by kernel_rfl) (by kernel_rfl)
  have f6 := valueOfP
  have f7 := typeP
  have mK := methodKind
  have mE := methodElem
  have mI := methodImplements
  have kP := kindP
  have kF := kindF
  have eP := elemP
  have iF := implementsF
  have htl := heap_lt' ht
  obtain ⟨w1, hw1⟩ : ∃ w1, w1 = (w.alloc (.cells #[.pointer (some ⟨t, 0, none⟩)] 58)).alloc (.cells #[hdl 58, .pointer (some ⟨w.heap.size, 0, none⟩), .int .u64 150] 68) := ⟨_, rfl⟩
  have hb1 : Below w.heap.size w w1 := by rw [hw1]; exact ((Below.refl _ _).alloc (Nat.le_refl _) _).alloc (by simp) _
  have ha1 : w1.cell? ⟨w.heap.size, 0, none⟩ = some (.pointer (some ⟨t, 0, none⟩)) := by rw [hw1, World.cell?_alloc_lt _ _ ⟨w.heap.size, 0, none⟩ (by simp)]; simp
  have hn8 := isNilP ⟨w.heap.size, 0, none⟩ ⟨t, 0, none⟩ w1 ha1
  have hg1 : w1.cell? ⟨0, 0, none⟩ = some (rty 27) := hg.old hb1
  have HT1 : Hid (w1.heap[t]? = some (.cells #[.int .i64 0, .int .i64 0, .int .i64 0] 44 (0, 0))) := Lib.hid ((hb1.block t htl).trans ht)
  have HV1 : Hid (Err w1 f v) := Lib.hid (hv.old hb1)
  have HB1 := Lib.hid hb1
  have HA1 := Lib.hid ha1
  obtain ⟨ti, xi, rfl⟩ : ∃ t x, v = .iface t x := by
    cases f with
    | none => rcases hv with h | ⟨x, h⟩; exact absurd h hnil; exact ⟨_, _, h⟩
    | some f => obtain ⟨ws, h⟩ := hv; exact h.iface
  clear hv ht hg hb1 ha1
  rw [hw1] at hn8 hg1
  go_enter Tryd.func23, Tryd.ntmps23
  go_wp2_with fail
  rw [← hw1]
  cases f with
  | none =>
    obtain ⟨x, hx⟩ : ∃ x, Value.iface ti xi = .iface 52 x := by
      rcases HV1.out with h | h
      · cases h
      · exact h
    injection hx with e1 e2
    subst e1; subst e2
    refine (as_none _ t w.heap.size w1).mono ?_
    rintro e w' ⟨rfl, hb⟩
    go_wp2
    go_ret
    exact ⟨rfl, (hb.block t (heap_lt' HT1.out)).trans HT1.out, (Kp.of_below HB1.out).trans (Kp.of_below hb)⟩
  | some f =>
    obtain ⟨ws, h⟩ := HV1.out
    refine (as_any f ws _ t w.heap.size _ _ _ w1 h HA1.out HT1.out).mono ?_
    rintro e w' ⟨rfl, hc, hk⟩
    go_wp2
    go_ret
    exact ⟨rfl, hc, (Kp.of_below HB1.out).trans hk⟩
end Go.Proofs.YtdfialcaebjihaaDoor
