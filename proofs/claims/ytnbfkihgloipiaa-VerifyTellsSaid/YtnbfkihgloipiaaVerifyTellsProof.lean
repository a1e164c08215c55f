/- For all tapes that are few and any seal of at most 20 labels, the spots that package verify tells, and how many members it counts as lost, are those of the document's own answers. -/
import Derived.Test.YtnbfkihgloipiaaVfLawT
import Derived.WalkKit
import Derived.ProofKit
import Derived.OpenShut
import Derived.ShutString
import Derived.ChangeOld
import Derived.Below
namespace Go.Proofs.Ytnbfkihgloipiaa.verifyTells
open Go.ChangeShapes Go.WideShapes Go.ChangeAt Go.RowKit
set_option linter.unusedVariables false

theorem own : ownKnob Try.prog.godebug = none := by kernel_rfl
theorem laidOut : laidOutB Try.prog = true := by kernel_rfl

theorem walk (a0 : Option Addr) (ts0 : List St.T) (cap0 : Nat) (sn1 sx1 sd1 sp1 : Int) (a1 : Option Addr) (C1 : Nat) (z1 : List Int) (w : World) (l0 : ts0.length ≤ cap0) (m0 : cap0 ≤ maxLen) (s0 : ∀ t ∈ ts0, t.blocks.length ≤ maxLen) (w0 : RdT w a0 ts0 (fun _ => True)) (f0 : ∀ t ∈ ts0, wfZ t.label) (l1 : z1.length ≤ C1) (m1 : C1 ≤ maxLen) (n1 : a1 = none → z1.length = 0 ∧ C1 = 0) (w1 : RdZ w a1 z1 (fun _ => True)) (f1 : ∀ x ∈ z1, wfZ x) :
    Calls Try.prog 3 #[.slice a0 ts0.length cap0, .agg #[.int .i64 sn1, .int .i64 sx1, .int .i64 sd1, .int .i64 sp1, .slice a1 z1.length C1]] w fun e w' => e = .returned (.bool true) ∧ Below w.heap.size w w' := by
  exact verifyTells_walk a0 ts0 cap0 sn1 sx1 sd1 sp1 a1 C1 z1 w (Nat.le_trans l0 m0) w0 w1 (Nat.le_trans l1 m1) f0 f1

set_option maxRecDepth 100000 in
theorem lifted (os : Os) (started : os.Started) (H : Type) (enc : TypeId × Value → H) :
    ReturnsInHanded {} Try.checked os 3 .any (Rows.verifyTellsSpec.pre6 enc Try.prog Try.f3 Rows.verifyTellsRow.domain false) (Rows.verifyTellsSpec.post enc Try.prog Try.f3 false true false false) := by
  refine returnsInHanded_of_change (C := Try.checked) own started (by kernel_rfl) Try.func3
    (ChangeSpec.witness6 (enc := enc) (C := Try.checked) false ⟨#[], #[.slice none 0 0, .agg #[.int .i64 0, .int .i64 0, .int .i64 0, .int .i64 0, .slice none 0 0]], []⟩ 8 (by kernel_rfl) (by kernel_rfl) (by kernel_rfl) (by kernel_rfl)) ?_
  intro W base args ds gs before hval0 hW hcnd _
  have hval : ∀ (j : Nat) t v, Try.f3.params[j]? = some t → args[j]? = some v → Value.okWide Try.prog W .any base t v := hval0
  have hW' := hW
  obtain ⟨p, q, hA0, hV, rfl, hfz, hnd⟩ := hW
  have hA : DataW.TrodAll enc Try.prog W 0 (fun _ => true) true Try.f3.params.toList args.toList ds p := hA0
  rw [Try.params3] at hA hval
  obtain ⟨v0, vs0, d0, ds0, p0, q0, hargs, rfl, rfl, h0, rt0⟩ := trodAll_cons hA
  obtain ⟨v1, vs1, d1, ds1, p1, q1, rfl, rfl, rfl, h1, rt1⟩ := trodAll_cons rt0
  obtain ⟨rfl, rfl, rfl⟩ := trodAll_nil rt1
  obtain rfl : args = #[v0, v1] := by cases args; simp_all
  obtain ⟨rfl, rfl⟩ := trodVars_none hV
  obtain ⟨a0, len0, cap0, rfl⟩ := okWide_slice Try.underlying22 (hval 0 22 v0 rfl rfl)
  have k0 := h0
  have lt0 : ∀ x ∈ p0, x.block < W.heap.size := by obtain ⟨m, hm⟩ := k0; exact DataW.trod_lt m _ _ _ hm
  obtain ⟨fuel0, hf0⟩ := h0
  obtain ⟨l0, m0, ts0, rfl, s0, w0, f0⟩ := open_tapesW Try.underlying22 hf0
  have k1 := h1
  have lt1 : ∀ x ∈ p1, x.block < W.heap.size := by obtain ⟨m, hm⟩ := k1; exact DataW.trod_lt m _ _ _ hm
  obtain ⟨sn1, sx1, sd1, sp1, a1, C1, z1, rfl, l1, m1, n1, w1, f1⟩ := open_sealW (hval 1 25 v1 rfl rfl) h1
  clear hA0 hval0
  have hw := walk a0 ts0 cap0 sn1 sx1 sd1 sp1 a1 C1 z1 W l0 m0 s0 w0 f0 l1 m1 n1 w1 f1
  refine hw.mono fun e W' ⟨he, bel⟩ => ?_
  subst he
  exact ⟨_, rfl, _, _, _, [], _, [], hW', trodAll_mk1 (shut_bool Try.underlying4 _), (trodAll_cons_mk (Below.trod laidOut (by kernel_rfl) (of_decide_eq_true (by kernel_rfl)) k0 bel lt0) (trodAll_cons_mk (Below.trod laidOut (by kernel_rfl) (of_decide_eq_true (by kernel_rfl)) k1 bel lt1) trodAll_mk0)), rfl, bel.frame _, fun h => by cases h⟩

theorem over : Rows.verifyTellsRow.holds Try.pinned (OpenSpec.ofChange Rows.verifyTellsSpec) :=
  OpenClaim.holds_of_wide 3 Try.f3 rfl rfl rfl rfl rfl rfl rfl ⟨rfl, rfl, rfl, rfl, rfl⟩ rfl rfl rfl rfl rfl (by kernel_rfl) Try.func3 (by kernel_rfl)
    (of_decide_eq_true (by kernel_rfl)) (by unfold Func.isWrapper; first | (rw [if_pos (by decide +kernel)]; kernel_rfl) | (rw [if_neg (by decide +kernel)]; exact ⟨rfl, rfl⟩))
    (fun os started H enc _ => lifted os started H enc)

/-- the statement -/
theorem proved : Rows.VerifyTellsSaid := over
#print axioms proved
end Go.Proofs.Ytnbfkihgloipiaa.verifyTells
