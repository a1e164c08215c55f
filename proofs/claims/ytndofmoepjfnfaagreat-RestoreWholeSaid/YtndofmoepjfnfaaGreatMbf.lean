/- What the law of chapter 19 reads and turns: one step, one file, its bytes. Two spots that are alike are equal. No function of the program. Steps in a row that a call makes longer by append, each block a row of its own. No function of the program. How much fits: what the document's own Fits answers (parted from SpPlan). What the document's own Plan answers. -/
import Derived.Test.YtndofmoepjfnfaaGreatMam
import Derived.Test.YtndofmoepjfnfaaGreatMan
import Derived.Test.YtndofmoepjfnfaaGreatMax
import Derived.Test.YtndofmoepjfnfaaGreatMal
import Derived.Test.YtndofmoepjfnfaaGreatMbe
import Derived.Test.YtndofmoepjfnfaaGreatMap
import Derived.Test.YtndofmoepjfnfaaGreatMab
import Derived.Test.YtndofmoepjfnfaaGreatChecked
import Derived.Laws.StructEq
import Derived.Test.YtndofmoepjfnfaaGreatMbd
import Derived.Test.YtndofmoepjfnfaaGreatMah
import Derived.Handy
import Derived.WalkSpells
import Derived.WalkLawsBesides
import Derived.Lib.Hide
import Derived.Test.YtndofmoepjfnfaaGreatMak
import Derived.Test.YtndofmoepjfnfaaGreatMas
namespace Go.Proofs.YtndofmoepjfnfaaGreat
open Go.RowKit
open Pt (Tx)

theorem one_file {xs : List Fx} {f : Ct.F} (h : xs.map Fx.f = [f]) : ∃ A C, xs = [⟨f, A, C⟩] := by
  cases xs with
  | nil => cases h
  | cons x l =>
    cases l with
    | nil => obtain ⟨g, A, C⟩ := x; injection h with h _; cases h; exact ⟨A, C, rfl⟩
    | cons y l => simp at h
theorem seven_one {w : World} {A : Option Addr} {x : Fx} {G : Nat → Prop} (h : encF.Rd w A [x] G) : ∃ g o, A = some ⟨g, o, none⟩ ∧ G g ∧ Seven w g o x.f.path x.f.version x.f.size x.f.sum x.f.serial x.f.gone x.A x.f.parts.length x.C := by
  obtain ⟨b, off, e, hg, hc⟩ := h.at_ (i := 0) (by simp)
  exact ⟨b, off, e, hg, hc 0 _ rfl, hc 1 _ rfl, hc 2 _ rfl, hc 3 _ rfl, hc 4 _ rfl, hc 5 _ rfl, hc 6 _ rfl⟩
theorem Seven.kp {S : Nat → Prop} {w w' : World} {g o : Nat} {P : Tx} {v z s r : Int} {b : Bool} {A : Option Addr} {m C : Nat} (h : Seven w g o P v z s r b A m C) (hk : Kp S w w') (hs : ¬ S g) : Seven w' g o P v z s r b A m C := by
  obtain ⟨h0, h1, h2, h3, h4, h5, h6⟩ := h
  exact ⟨hk.cell h0 hs, hk.cell h1 hs, hk.cell h2 hs, hk.cell h3 hs, hk.cell h4 hs, hk.cell h5 hs, hk.cell h6 hs⟩
theorem got_blk {u : Fm.U} (h : Fm.Ok u) : Fm.got (Fm.blk u) = u ∧ Fm.gotE (Fm.blk u) = 0 :=
  ⟨(Fm.got_yes (Fm.good_blk h)).trans (Fm.parse_blk h), Fm.gotE_yes (Fm.good_blk h)⟩
/-- one step -/
theorem step_at {w : World} {A : Option Addr} {b : Tx} {ps : List Rs.Pc} {G : Nat → Prop} (h : StpR w A (Rs.up (Rs.laidSteps b ps)) G) {k : Nat} {x : Nat × Fm.U} (hx : (Rs.steps b ps)[k]? = some x) :
    ∃ g off A' C', A = some ⟨g, off, none⟩ ∧ w.cell? ⟨g, off + k * 2, none⟩ = some (.int .i64 (x.1 : Int)) ∧ w.cell? ⟨g, off + k * 2 + 1, none⟩ = some (.slice A' (Fm.blk x.2).length C') ∧ (Fm.blk x.2).length ≤ C' ∧ (A' = none → (Fm.blk x.2).length = 0 ∧ C' = 0) ∧ RdL w A' (Fm.blk x.2) G := by
  have hk : k < (Rs.steps b ps).length := (List.getElem?_eq_some_iff.1 hx).1
  have hl : k < (Rs.up (Rs.laidSteps b ps)).length := by unfold Rs.up Rs.laidSteps; simpa using hk
  have he : (Rs.up (Rs.laidSteps b ps))[k] = ((x.1 : Int), Fm.blk x.2) := by
    have : (Rs.up (Rs.laidSteps b ps))[k]? = some ((x.1 : Int), Fm.blk x.2) := by
      unfold Rs.up Rs.laidSteps
      rw [List.getElem?_map, List.getElem?_map, hx]; rfl
    rw [List.getElem?_eq_getElem hl] at this
    exact Option.some.inj this
  obtain ⟨g, off, A', C', e, -, h0, h1, h2, h3, h4⟩ := h.at_ hl
  rw [he] at h0 h1 h2 h3 h4
  exact ⟨g, off, A', C', e, h0, h1, h2, h3, h4⟩
/-- what holds of a step -/
theorem step_is {caps : List Int} {b : Tx} {ps : List Rs.Pc} (hb : b.length ≤ 2000) (hc : caps.length ≤ 1000) (h : Rs.Chain caps b.length 0 0 ps) {k : Nat} {x : Nat × Fm.U} (hx : (Rs.steps b ps)[k]? = some x) :
    x.1 < caps.length ∧ Fm.Ok x.2 ∧ x.2.label = (x.1 : Int) + 1 ∧ ∃ j : Nat, x.2.number = (j : Int) ∧ (Rs.on b ps x.1)[j]? = some (Fm.blk x.2) := by
  obtain ⟨p, hp, e, n, hn⟩ := Rs.mem_steps (List.mem_of_getElem? hx)
  have hin := (h.in_ p hp).1
  have hlt := hin.lt
  obtain ⟨h1, h2, -⟩ := Rs.us_at hn
  refine ⟨by rw [e]; exact hlt, Rs.us_ok hb hin (by omega) x.2 (List.mem_of_getElem? hn), by rw [e]; exact h1, n, h2, ?_⟩
  rw [e, Rs.on_piece h hp, List.getElem?_map, hn]; rfl
theorem now_turn {caps : List Int} {b : Tx} {ps : List Rs.Pc} (K : List Nat) {k : Nat} {x : Nat × Fm.U} (hx : (Rs.steps b ps)[k]? = some x) {j : Nat} (hj : x.2.number = (j : Int)) {s : Tx} (hs : (Rs.zed (Rs.zOf (Rs.steps b ps) K x.1) (Rs.on b ps x.1))[j]? = some s) :
    (Rs.now caps b ps (Rs.zOf (Rs.steps b ps) K)).set x.1 ⟨(x.1 : Int) + 1, caps.getD x.1 0, (Rs.zed (Rs.zOf (Rs.steps b ps) K x.1) (Rs.on b ps x.1)).set j (s.set 3 200), false⟩ = Rs.now caps b ps (Rs.zOf (Rs.steps b ps) (k :: K)) := by
  have hjn : x.2.number.toNat = j := by omega
  have hz : ∀ i n, Rs.zOf (Rs.steps b ps) (k :: K) i n = ((x.1 == i && x.2.number.toNat == n) || Rs.zOf (Rs.steps b ps) K i n) := fun i n => by rw [Rs.zOf_cons, hx]
  apply List.ext_getElem?
  intro a
  by_cases ha : a < caps.length
  · rw [Rs.now_get ha]
    by_cases e : x.1 = a
    · subst e
      rw [List.getElem?_set_self (by rw [Rs.now_len]; exact ha)]
      rw [Rs.zed_set (Z' := Rs.zOf (Rs.steps b ps) (k :: K) x.1) hs (by rw [hz, hjn]; simp) (fun n hn => by
        rw [hz, hjn, show (j == n) = false from beq_eq_false_iff_ne.2 fun h => hn h.symm, Bool.and_false, Bool.false_or])]
    · rw [List.getElem?_set_ne e, Rs.now_get ha]
      have : Rs.zOf (Rs.steps b ps) (k :: K) a = Rs.zOf (Rs.steps b ps) K a := by
        funext n
        rw [hz, show (x.1 == a) = false from beq_eq_false_iff_ne.2 e, Bool.false_and, Bool.false_or]
      rw [this]
  · rw [List.getElem?_eq_none (by rw [List.length_set, Rs.now_len]; omega), List.getElem?_eq_none (by rw [Rs.now_len]; omega)]
/-- what is read of the file -/
theorem bytes_laid {caps : List Int} {b : Tx} {ps : List Rs.Pc} (hb : b.length ≤ 2000) (hc : caps.length ≤ 10) (h : Rs.Chain caps b.length 0 0 ps) (Z : Nat → Nat → Bool) {A : Option Addr} {n C pn : Nat} {G Gp : Nat → Prop} {Ap : Option Addr} {pC : Nat} {w : World} (hn : n = caps.length) (hr : RdT w A (Rs.now caps b ps Z) G) (hpn : pn = (Rs.file b ps).parts.length) (hpr : encQ.Rd w Ap (Rs.file b ps).parts Gp) :
    Calls Tryz.prog 8 #[.slice A n C, .agg #[.string (tx [97]), .int .i64 1, .int .i64 (b.length : Int), .int .i64 (sumL b), .int .i64 1, .bool false, .slice Ap pn pC]] w (BytesA (match (Rs.steps b ps).find? (fun x => Rs.isData x && Z x.1 x.2.number.toNat) with | none => ⟨b, 0, 0, 0⟩ | some x => ⟨[], (x.1 : Int) + 1, x.2.number, 8⟩) w) := by
  have key : Calls Tryz.prog 8 #[.slice A n C, .agg #[.string (tx [97]), .int .i64 1, .int .i64 (b.length : Int), .int .i64 (sumL b), .int .i64 1, .bool false, .slice Ap pn pC]] w (BytesA (Rs.restore (Rs.now caps b ps Z) (Rs.file b ps)) w) := by
    refine bytes_anyR A (Rs.now caps b ps Z) n C G [97] 1 (b.length : Int) (sumL b) 1 false Ap (Rs.file b ps).parts pn pC Gp w (by rw [Rs.now_len]; exact hn) (by omega) hr (fun t ht => ?_) (Rs.find_now hb (by omega) h Z) hpn ?_ hpr (Rs.file_part hb h)
    · obtain ⟨h1, h2⟩ := Rs.now_short hb (by omega) h t ht
      exact ⟨by omega, fun s hs => by have := h2 s hs; omega⟩
    · rw [hpn, Rs.file_parts, List.length_map]
      have := Rs.chain_len h (Nat.zero_le _)
      omega
  have e := Rs.restore_laid hb (by omega) h Z
  rw [e] at key
  exact key
theorem bytes_turned {caps : List Int} {b : Tx} {ps : List Rs.Pc} (hb : b.length ≤ 2000) (hc : caps.length ≤ 10) (h : Rs.Chain caps b.length 0 0 ps) {K : List Nat} {z : Int} (hK : ∀ k ∈ K, ∃ hk : k < (Rs.steps b ps).length, Rs.isData (Rs.steps b ps)[k] = true) (hf : Rs.Fst K z) {a : Rs.A} (ha : (if z < 0 then (⟨b, 0, 0, 0⟩ : Rs.A) else match (Rs.steps b ps)[z.toNat]? with | none => ⟨b, 0, 0, 0⟩ | some x => ⟨[], (x.1 : Int) + 1, x.2.number, 8⟩) = a) {A : Option Addr} {n C pn : Nat} {G Gp : Nat → Prop} {Ap : Option Addr} {pC : Nat} {w : World} (hn : n = caps.length) (hr : RdT w A (Rs.now caps b ps (Rs.zOf (Rs.steps b ps) K)) G) (hpn : pn = (Rs.file b ps).parts.length) (hpr : encQ.Rd w Ap (Rs.file b ps).parts Gp) :
    Calls Tryz.prog 8 #[.slice A n C, .agg #[.string (tx [97]), .int .i64 1, .int .i64 (b.length : Int), .int .i64 (sumL b), .int .i64 1, .bool false, .slice Ap pn pC]] w (BytesA a w) := by
  have h' := bytes_laid hb hc h (Rs.zOf (Rs.steps b ps) K) (C := C) (pC := pC) hn hr hpn hpr
  rw [Rs.find_first h hK hf] at h'
  have e : (match (if z < 0 then none else (Rs.steps b ps)[z.toNat]?) with | none => (⟨b, 0, 0, 0⟩ : Rs.A) | some x => ⟨[], (x.1 : Int) + 1, x.2.number, 8⟩) = a := by
    rw [← ha]
    by_cases hz : z < 0
    · rw [if_pos hz, if_pos hz]
    · rw [if_neg hz, if_neg hz]
  rw [e] at h'
  exact h'
/-- and of the file that nobody turned -/
theorem bytes_clean {caps : List Int} {b : Tx} {ps : List Rs.Pc} (hb : b.length ≤ 2000) (hc : caps.length ≤ 10) (h : Rs.Chain caps b.length 0 0 ps) {A : Option Addr} {n C pn : Nat} {G Gp : Nat → Prop} {Ap : Option Addr} {pC : Nat} {w : World} (hn : n = caps.length) (hr : RdT w A (Rs.now caps b ps fun _ _ => false) G) (hpn : pn = (Rs.file b ps).parts.length) (hpr : encQ.Rd w Ap (Rs.file b ps).parts Gp) :
    Calls Tryz.prog 8 #[.slice A n C, .agg #[.string (tx [97]), .int .i64 1, .int .i64 (b.length : Int), .int .i64 (sumL b), .int .i64 1, .bool false, .slice Ap pn pC]] w (BytesA ⟨b, 0, 0, 0⟩ w) := by
  exact bytes_turned hb hc h (K := []) (z := -1) (fun _ hk => nomatch hk) Rs.Fst.nil (if_pos (by decide)) hn hr hpn hpr
theorem steps_pos {b : Tx} {ps : List Rs.Pc} (h : ps ≠ []) : 0 < (Rs.steps b ps).length := by
  cases ps with
  | nil => exact absurd rfl h
  | cons p ps =>
    unfold Rs.steps Rs.us
    rw [List.flatMap_cons, List.length_append, List.length_map, List.length_cons]
    omega
theorem up_len (b : Tx) (ps : List Rs.Pc) : (Rs.up (Rs.laidSteps b ps)).length = (Rs.steps b ps).length := by unfold Rs.up Rs.laidSteps; rw [List.length_map, List.length_map]
theorem tmod_of {N : Nat} (h0 : 0 < N) (q : Nat) : ∃ k : Nat, k < N ∧ ((q : Int)).tmod (N : Int) = (k : Int) :=
  ⟨q % N, Nat.mod_lt _ h0, by rw [Int.tmod_eq_emod_of_nonneg (by omega)]; exact (Int.natCast_emod q N).symm⟩
end Go.Proofs.YtndofmoepjfnfaaGreat
namespace Go.Proofs.YtndofmoepjfnfaaGreat
open Go.RowKit

theorem spotQ_fields : Tryz.prog.underlying 39 = some (.struct (Tryz.prog.fieldsOf 39)) := by kernel_rfl
theorem spotQ_plain : Tryz.prog.stoodInHeld 39 = false := by kernel_rfl
theorem spotQ_same (l n : Int) (w : World) : (Op.equalIn 10000 39 (.agg #[.int .i64 l, .int .i64 n]) (.agg #[.int .i64 l, .int .i64 n])).run Tryz.prog w = .ok true w := by
  rw [run_equalIn_agg w 9999 39 _ _ spotQ_fields spotQ_plain]
  simp [Program.fieldsOf, Tryz.underlying39, Op.eqFields, part, go_sem]
theorem spotQ_eql (l n : Int) (w : World) : (binOp .eql 39 (.agg #[.int .i64 l, .int .i64 n]) (.agg #[.int .i64 l, .int .i64 n])).run Tryz.prog w = .ok (.bool true) w := by
  rw [run_eql_struct, spotQ_same]; rfl
end Go.Proofs.YtndofmoepjfnfaaGreat
namespace Go.Proofs.YtndofmoepjfnfaaGreat
open Go.RowKit
open Pt (Tx)

/-- a step's two cells -/
structure Sv where
  tape : Int
  A : Option Addr
  n : Nat
  C : Nat
def encS : Enc Sv where
  k := 2
  pos := by decide
  enc s := [.int .i64 s.tape, .slice s.A s.n s.C]
  len _ := rfl
  one s u hu := by
    simp only [List.mem_cons, List.not_mem_nil, or_false] at hu
    rcases hu with rfl | rfl <;> rfl
theorem infoStep : (Tryz.prog.info? 52).map (fun i => (i.zero, i.size, i.bytes)) = some (some (.agg #[.int .i64 0, .slice none 0 0]), 2, 32) := by kernel_rfl
/-- what a step's cells point to -/
structure SvIs (x : World) (B : Nat) (s : Sv) (p : Int × Tx) : Prop where
  tape : s.tape = p.1
  n : s.n = p.2.length
  own : OwnL x B (.slice s.A s.n s.C) p.2
theorem SvIs.kp {x y : World} {B : Nat} {S : Nat → Prop} {s : Sv} {p : Int × Tx} (h : SvIs x B s p) (hk : Kp S x y) (hs : ∀ k c, S k → x.heap[k]? ≠ some (.cells c 5 (0, 0))) : SvIs y B s p :=
  ⟨h.tape, h.n, h.own.of_block fun k e => by
    obtain ⟨c, hc⟩ := h.own.block k e
    exact hk.block k (heap_lt hc) fun hs' => hs k c hs' hc⟩
/-- what is of another type stays as it was when steps grow -/
theorem grown_typed {x y z : World} {B : Nat} {v : Value} {svs : List Sv} (hown : encS.Own x B 52 v svs) (hb : Below x.heap.size x y) (hg : y.grownBy z v.ownBlock) : Kp (fun k => v.ownBlock = some k) x z ∧ (∀ (k : Nat) (c : Array Value) (t : TypeId), x.heap[k]? = some (.cells c t (0, 0)) → t ≠ 52 → z.heap[k]? = some (.cells c t (0, 0))) ∧ (∀ (k : Nat) (c : Array Value) (t : TypeId), v.ownBlock = some k → x.heap[k]? = some (.cells c t (0, 0)) → t = 52) := by
  have hk : Kp (fun k => v.ownBlock = some k) x z := (Kp.of_below hb).grown hg fun k e => e
  have ht : ∀ (k : Nat) (c : Array Value) (t : TypeId), v.ownBlock = some k → x.heap[k]? = some (.cells c t (0, 0)) → t = 52 := fun k c t e hc => by
    obtain ⟨c', hc'⟩ := hown.block k e
    rw [hc'] at hc
    injection hc with hc
    injection hc with _ e2
    exact e2.symm
  exact ⟨hk, fun k c t hc hne => (hk.block k (heap_lt hc) fun e => hne (ht k c t e hc)).trans hc, ht⟩
/-- steps in a row of the call's own -/
structure StO (B : Nat) (v : Value) (l : List (Int × Tx)) (x : World) : Prop where
  ex : ∃ svs, encS.Own x B 52 v svs ∧ svs.length = l.length ∧ ∀ i (hi : i < svs.length) (hi' : i < l.length), SvIs x B svs[i] l[i]
namespace StO
variable {x y z : World} {B : Nat} {v v' : Value} {l : List (Int × Tx)}
theorem start (x : World) (B : Nat) : StO B (.slice none 0 0) [] x := ⟨⟨[], Enc.Own.nil _ _ _, rfl, fun i hi => absurd hi (by simp)⟩⟩
/-- what is of another type may turn -/
theorem kp {S : Nat → Prop} (h : StO B v l x) (hk : Kp S x y) (hs : ∀ k c t, S k → x.heap[k]? = some (.cells c t (0, 0)) → t ≠ 52 ∧ t ≠ 5) : StO B v l y := by
  obtain ⟨svs, h1, h2, h3⟩ := h.ex
  refine ⟨⟨svs, h1.of_block fun k e => ?_, h2, fun i hi hi' => (h3 i hi hi').kp hk fun k c e hc => (hs k c _ e hc).2 rfl⟩⟩
  obtain ⟨c, hc⟩ := h1.block k e
  exact hk.block k (heap_lt hc) fun e' => (hs k c _ e' hc).1 rfl
theorem old (h : StO B v l x) (hb : Below x.heap.size x y) : StO B v l y := h.kp (S := fun _ => False) (Kp.of_below hb) (fun _ _ _ hs => hs.elim)
/-- one step more -/
theorem push2 {svs : List Sv} {t : Int} {A : Option Addr} {n C : Nat} {s : Tx} (hown : encS.Own x B 52 v svs) (hlen : svs.length = l.length) (hone : ∀ i (hi : i < svs.length) (hi' : i < l.length), SvIs x B svs[i] l[i])
    (hb : Below x.heap.size x y) (hn : n = s.length) (hs : OwnL y B (.slice A n C) s) (hg : y.grownBy z v.ownBlock) (ho : encS.Own z B 52 v' (svs ++ [⟨t, A, n, C⟩])) : StO B v' (l ++ [(t, s)]) z := by
  have hvb := hown.block
  have hk2 : Kp (fun k => v.ownBlock = some k) y z := (Kp.refl _ y).grown hg fun k e => e
  have hne : ∀ k c, v.ownBlock = some k → x.heap[k]? ≠ some (.cells c 5 (0, 0)) := fun k c e hc => by
    obtain ⟨c', hc'⟩ := hvb k e
    rw [hc'] at hc; injection hc with hc; injection hc with _ e2; exact absurd e2 (by decide)
  have hne2 : ∀ k c, v.ownBlock = some k → y.heap[k]? ≠ some (.cells c 5 (0, 0)) := fun k c e hc => by
    obtain ⟨c', hc'⟩ := hvb k e
    rw [hb.block k (heap_lt hc')] at hc
    exact hne k c e hc
  have hk : Kp (fun k => v.ownBlock = some k) x z := (Kp.of_below hb).trans hk2
  refine ⟨⟨_, ho, by simp [hlen], fun i hi hi' => ?_⟩⟩
  rw [List.length_append, List.length_singleton] at hi hi'
  by_cases h0 : i < l.length
  · rw [List.getElem_append_left (by omega), List.getElem_append_left h0]
    exact (hone i (by omega) h0).kp hk hne
  · have e : i = l.length := by omega
    subst e
    have e1 : (l ++ [(t, s)])[l.length] = (t, s) := by simp
    have e2 : (svs ++ [⟨t, A, n, C⟩])[l.length]'(by simp [hlen]) = ⟨t, A, n, C⟩ := by simp [← hlen]
    rw [e1, e2]
    exact SvIs.kp ⟨rfl, hn, hs⟩ hk2 hne2
/-- as what reads -/
theorem rd (h : StO B v l x) : ∃ A C, v = .slice A l.length C ∧ l.length ≤ C ∧ C ≤ maxLen ∧ (A = none → l.length = 0 ∧ C = 0) ∧ StpR x A l (B ≤ ·) := by
  obtain ⟨svs, h1, h2, h3⟩ := h.ex
  obtain ⟨A, C, hv, a, b, c, hr⟩ := h1.rd
  rw [h2] at hv a c
  refine ⟨A, C, hv, a, b, c, fun hn => ?_⟩
  obtain ⟨g, off, e, hg, hc⟩ := hr (by omega)
  refine ⟨g, off, e, hg.1, fun i hi => ?_⟩
  have hi' : i < svs.length := by omega
  have hs := h3 i hi' hi
  obtain ⟨A', C', hv', k1, k2, k3, k4⟩ := hs.own.rd
  injection hv' with x1 x2 x3
  refine ⟨svs[i].A, svs[i].C, ?_, ?_, ?_, ?_, ?_⟩
  · rw [← hs.tape]; exact hc i hi' 0 _ rfl
  · rw [← x2]; exact hc i hi' 1 _ rfl
  · rw [x3]; exact k1
  · rw [x1, x3]; exact k3
  · rw [x1]; exact k4.mono fun _ h => h.1
end StO
end Go.Proofs.YtndofmoepjfnfaaGreat
namespace Go.Proofs.YtndofmoepjfnfaaGreat
open Go.RowKit

theorem refFits_any (r : Int) (w : World) : Calls Tryz.prog 33 #[.int .i64 r] w fun e w' => e = .returned (.int .i64 (Sp.fits r)) ∧ w = w' := by
  by_cases h0 : r < 3
  · have H : Hid (Sp.fits r = 0) := Lib.hid (Sp.fits_small h0)
    go_enter Tryz.func33, Tryz.ntmps33
    go_wp2
    go_ret
    exact ⟨by rw [H.out]; first | done | rfl, rfl⟩
  · by_cases h1 : 1099511627776 < r
    · have H : Hid (Sp.fits r = 70368744177536) := Lib.hid (by unfold Sp.fits; rw [if_neg h0, if_pos h1]; rfl)
      go_enter Tryz.func33, Tryz.ntmps33
      go_wp2
      go_ret
      exact ⟨by rw [H.out]; first | done | rfl, rfl⟩
    · have H : Hid (Sp.fits r = 64 * (r - 2)) := Lib.hid (by unfold Sp.fits; rw [if_neg h0, if_neg h1])
      go_enter Tryz.func33, Tryz.ntmps33
      go_wp2
      go_ret
      exact ⟨by rw [H.out]; first | done | rfl | (exact congrArg (fun k : Int => Ending.returned (.int .i64 k)) (by omega)), rfl⟩

end Go.Proofs.YtndofmoepjfnfaaGreat
namespace Go.Proofs.YtndofmoepjfnfaaGreat
open Go.RowKit

/-- a piece's three cells -/
def encZ : Enc Sp.P where
  k := 3
  pos := by decide
  enc p := [.int .i64 (p.tape : Int), .int .i64 p.from_, .int .i64 p.len]
  len _ := rfl
  one p u hu := by
    simp only [List.mem_cons, List.not_mem_nil, or_false] at hu
    rcases hu with rfl | rfl | rfl <;> rfl
theorem infoPieceZ : (Tryz.prog.info? 62).map (fun i => (i.zero, i.size, i.bytes)) = some (some (.agg #[.int .i64 0, .int .i64 0, .int .i64 0]), 3, 24) := by kernel_rfl
/-- pieces and an error's number are answered, in new memory -/
def PlanZ (l : List Sp.P) (er : Int) (w : World) (e : Ending) (w' : World) : Prop :=
  ∃ A C, e = .returned (.tuple #[.slice A l.length C, .int .i64 er]) ∧ l.length ≤ C ∧ C ≤ maxLen ∧ (A = none → l.length = 0 ∧ C = 0) ∧ encZ.Rd w' A l (w.heap.size ≤ ·) ∧ Below w.heap.size w w'
theorem PlanZ.nil (er : Int) (w w' : World) (h : Below w.heap.size w w') : PlanZ [] er w (.returned (.tuple #[.slice none 0 0, .int .i64 er])) w' :=
  ⟨none, 0, rfl, Nat.le_refl _, by decide, fun _ => ⟨rfl, rfl⟩, Enc.Rd.nil _ _ _, h⟩
set_option maxRecDepth 100000 in
set_option maxHeartbeats 4000000 in
theorem refPlan_pos (rooms : List Int) (size : Int) (A : Option Addr) (n C : Nat) (G : Nat → Prop) (w : World) (hn : n = rooms.length) (hm : n ≤ 1000000) (h1 : 1 ≤ size) (h2 : size ≤ 4000) (hr : RdZ w A rooms G) :
    Calls Tryz.prog 11 #[.slice A n C, .int .i64 size] w (PlanZ (Sp.plan rooms size) (Sp.err rooms size) w) := by
  have HR := Lib.hid hr
  have HN := Lib.hid hn
  have s1 : decide (size < 0) = false := decide_eq_false (by omega)
  have s2 : decide (4000 < size) = false := decide_eq_false (by omega)
  have s3 : (size == 0) = false := by rw [beq_eq_false_iff_ne]; omega
  clear hr hn
  go_enter Tryz.func11, Tryz.ntmps11
  go_wp2
  go_loopw [8, 7, 6] (fun vi va vl wr => ∃ (k : Nat) (at_ : Int) (pre : List Sp.P), k ≤ n ∧ 0 ≤ at_ ∧ at_ ≤ size ∧ pre.length ≤ k ∧ vi = .int .i64 (k : Int) ∧ va = .int .i64 at_ ∧ Hid (Sp.upto size (rooms.take k) 0 = at_) ∧ Hid (Sp.go size (rooms.take k) 0 0 = pre) ∧ Hid (encZ.Own wr w.heap.size 62 vl pre) ∧ Hid (Below w.heap.size w wr)) (fun vi _ _ _ => n - (intOf vi).toNat)
  case atStart => exact ⟨0, 0, [], by omega, by omega, by omega, Nat.zero_le _, rfl, rfl, Lib.hid rfl, Lib.hid rfl, Lib.hid (Enc.Own.nil _ _ _), Lib.hid (Below.refl _ _)⟩
  case round =>
    obtain ⟨k, at_, pre, hk, h3, h4, h5, rfl, rfl, HU, HP, HO, HB⟩ := hrel
    by_cases hlt : k < n
    · have hltR : k < rooms.length := by rw [← HN.out]; exact hlt
      obtain ⟨b, off, rfl, -, hc⟩ := (HR.out.old HB.out).at_ hltR
      obtain ⟨r, hrr⟩ : ∃ r, r = rooms[k] := ⟨_, rfl⟩
      have hnext := Sp.take_next (size := size) hltR
      rw [HU.out, HP.out, ← hrr] at hnext
      rw [← hrr] at hc
      have hf := refFits_any r
      have hlo := Sp.fits_lo r
      have hhi := Sp.fits_hi r
      obtain ⟨F, hF⟩ : ∃ F, F = Sp.fits r := ⟨_, rfl⟩
      rw [← hF] at hnext hf hlo hhi
      obtain ⟨L, hL⟩ : ∃ L, L = min F (size - at_) := ⟨_, rfl⟩
      rw [← hL] at hnext
      have HNX := Lib.hid hnext
      have hL1 : L ≤ size - at_ := by omega
      have hL0 : 0 ≤ L := by omega
      have hway : (decide (size - at_ < F) = true ∧ size - at_ = L) ∨ (decide (size - at_ < F) = false ∧ F = L) := by
        by_cases h : size - at_ < F
        · exact .inl ⟨decide_eq_true h, by omega⟩
        · exact .inr ⟨decide_eq_false h, by omega⟩
      have hlow : w.heap.size ≤ wr.heap.size := HB.out.size
      clear hF hrr hltR hL hnext
      by_cases hz : L = 0
      · have HU2 : Hid (Sp.upto size (rooms.take (k + 1)) 0 = at_) := Lib.hid (HNX.out.1.trans (by omega))
        have HP2 : Hid (Sp.go size (rooms.take (k + 1)) 0 0 = pre) := Lib.hid (HNX.out.2.trans (by rw [if_neg (by omega), List.append_nil]))
        clear HNX
        rcases hway with ⟨d, e⟩ | ⟨d, e⟩
        · have e9 : size - at_ = 0 := by omega
          have hF1 : 0 < F := by have := of_decide_eq_true d; omega
          have d0 : decide (0 < F) = true := decide_eq_true hF1
          clear e d
          go_wp2_with (go_at_call 33; refine (hf _).mono ?_; rintro e w' ⟨rfl, hw⟩; subst hw)
          go_roundw
          case rel => exact ⟨k + 1, at_, pre, by omega, by omega, by omega, by omega, by go_num, by first | rfl | (congr 1; omega) | (simp; omega), HU2, HP2, HO, HB⟩
          case measure => simp [intOf]; omega
        · have hF0 : F = 0 := by omega
          subst hF0
          clear e
          go_wp2_with (go_at_call 33; refine (hf _).mono ?_; rintro e w' ⟨rfl, hw⟩; subst hw)
          go_roundw
          case rel => exact ⟨k + 1, at_, pre, by omega, by omega, by omega, by omega, by go_num, by first | rfl | (congr 1; omega) | simp, HU2, HP2, HO, HB⟩
          case measure => simp [intOf]; omega
      · have hLp : 0 < L := by omega
        have d9 : decide (0 < L) = true := decide_eq_true hLp
        have HU2 : Hid (Sp.upto size (rooms.take (k + 1)) 0 = at_ + L) := Lib.hid (HNX.out.1.trans (by omega))
        have HP2 : Hid (Sp.go size (rooms.take (k + 1)) 0 0 = pre ++ [⟨k, at_, L⟩]) := Lib.hid (HNX.out.2.trans (by rw [if_pos hLp]))
        clear HNX
        rcases hway with ⟨d, e⟩ | ⟨d, e⟩
        · have d8 : decide (0 < size - at_) = true := decide_eq_true (by omega)
          have HE := Lib.hid e
          clear e
          go_wp2_with (first | (go_at_call 33; refine (hf _).mono ?_; rintro e w' ⟨rfl, hw'⟩; subst hw') | (at_builtin; refine wpList_append_st' encZ _ rfl _ _ _ rfl w.heap.size 62 _ 24 Tryz.underlying55 infoPieceZ rfl _ pre rfl (HO.out.old ((Below.refl _ _).alloc (Nat.le_refl _) _)) ⟨wr.heap.size, 0, none⟩ 1 1 [⟨k, at_, size - at_⟩] rfl rfl (newCells _ [.int .i64 (k : Int), .int .i64 at_, .int .i64 (size - at_)] _) (by unfold maxLen; omega) (by omega) (by simp; omega) ?_; intro v' w3 hO3 hg3; rw [HE.out] at hO3; have HO3 := Lib.hid hO3; have HG3 := Lib.hid hg3; clear hO3 hg3))
          have HB3 := Lib.hid ((HB.out.alloc hlow _).grown HG3.out (by simp; omega) (fun x hx => (HO.out.lt x hx).1))
          go_roundw
          case rel => exact ⟨k + 1, at_ + L, _, by omega, by omega, by omega, by simp; omega, by go_num, by have := HE.out; first | rfl | (congr 1; omega) | (simp; omega), HU2, HP2, HO3, HB3⟩
          case measure => simp [intOf]; omega
        · subst e
          go_wp2_with (first | (go_at_call 33; refine (hf _).mono ?_; rintro e w' ⟨rfl, hw'⟩; subst hw') | (at_builtin; refine wpList_append_st' encZ _ rfl _ _ _ rfl w.heap.size 62 _ 24 Tryz.underlying55 infoPieceZ rfl _ pre rfl (HO.out.old ((Below.refl _ _).alloc (Nat.le_refl _) _)) ⟨wr.heap.size, 0, none⟩ 1 1 [⟨k, at_, F⟩] rfl rfl (newCells _ [.int .i64 (k : Int), .int .i64 at_, .int .i64 F] _) (by unfold maxLen; omega) (by omega) (by simp; omega) ?_; intro v' w3 hO3 hg3; have HO3 := Lib.hid hO3; have HG3 := Lib.hid hg3; clear hO3 hg3))
          have HB3 := Lib.hid ((HB.out.alloc hlow _).grown HG3.out (by simp; omega) (fun x hx => (HO.out.lt x hx).1))
          go_roundw
          case rel => exact ⟨k + 1, at_ + F, _, by omega, by omega, by omega, by simp; omega, by go_num, rfl, HU2, HP2, HO3, HB3⟩
          case measure => simp [intOf]; omega
    · have hall : rooms.take k = rooms := List.take_of_length_le (by rw [← HN.out]; omega)
      have hU := HU.out
      have hP := HP.out
      rw [hall] at hU hP
      obtain ⟨A', C', hv, g1, g2, g3, g4⟩ := HO.out.rd
      subst hv
      have H3 := Lib.hid g3
      have H4 := Lib.hid g4
      clear g3 g4 HU HP hall
      by_cases he : at_ < size
      · have d5 : decide (at_ < size) = true := decide_eq_true he
        obtain ⟨hq1, hq2⟩ := Sp.plan_none (rooms := rooms) (size := size) (by omega)
        have HQ := Lib.hid hq1
        have HE := Lib.hid hq2
        clear hq1 hq2 hU hP
        go_wp2
        go_ret2
        rw [HQ.out, HE.out]
        exact PlanZ.nil _ _ _ HB.out
      · have d5 : decide (at_ < size) = false := decide_eq_false he
        have hq1 : Sp.plan rooms size = pre := by unfold Sp.plan; rw [if_neg (by omega), hP]
        have hq2 : Sp.err rooms size = 0 := by unfold Sp.err; rw [if_neg (by omega)]
        have HQ := Lib.hid hq1
        have HE := Lib.hid hq2
        clear hq1 hq2 hU hP
        go_wp2
        go_ret2
        rw [HQ.out, HE.out]
        exact ⟨A', C', rfl, g1, g2, H3.out, H4.out.mono fun x hx => hx.1, HB.out⟩
set_option maxRecDepth 100000 in
set_option maxHeartbeats 4000000 in
theorem refPlan_zero (rooms : List Int) (A : Option Addr) (n C : Nat) (G : Nat → Prop) (w : World) (hn : n = rooms.length) (hm : n ≤ 1000000) (hr : RdZ w A rooms G) :
    Calls Tryz.prog 11 #[.slice A n C, .int .i64 0] w (PlanZ (Rs.planR rooms 0) (Rs.errR rooms 0) w) := by
  have HR := Lib.hid hr
  have HN := Lib.hid hn
  clear hr hn
  go_enter Tryz.func11, Tryz.ntmps11
  go_wp2
  go_loopw [8, 7, 6] (fun vi va vl wr => ∃ (k : Nat), k ≤ n ∧ vi = .int .i64 (k : Int) ∧ va = .int .i64 0 ∧ vl = .slice none 0 0 ∧ Hid (∀ j (h : j < rooms.length), j < k → rooms[j] < 2) ∧ Hid (Below w.heap.size w wr)) (fun vi _ _ _ => n - (intOf vi).toNat)
  case atStart => exact ⟨0, by omega, rfl, rfl, rfl, Lib.hid (fun j h hj => by omega), Lib.hid (Below.refl _ _)⟩
  case round =>
    obtain ⟨k, hk, rfl, rfl, rfl, HZ, HB⟩ := hrel
    by_cases hlt : k < n
    · have hltR : k < rooms.length := by rw [← HN.out]; exact hlt
      obtain ⟨b, off, rfl, -, hc⟩ := (HR.out.old HB.out).at_ hltR
      obtain ⟨r, hrr⟩ : ∃ r, r = rooms[k] := ⟨_, rfl⟩
      rw [← hrr] at hc
      have HLT := Lib.hid hltR
      have HRR : Hid (r = rooms[k]'HLT.out) := Lib.hid hrr
      have hf := refFits_any r
      clear hrr hltR
      have hlow : w.heap.size ≤ wr.heap.size := HB.out.size
      by_cases h2 : 2 ≤ r
      · have d2 : decide (2 ≤ r) = true := decide_eq_true h2
        have hfi : rooms.findIdx? (fun r => decide (2 ≤ r)) = some k := by
          rw [List.findIdx?_eq_some_iff_getElem]
          refine ⟨HLT.out, by rw [← HRR.out]; exact d2, fun j hj => ?_⟩
          have := HZ.out j (by have := HLT.out; omega) hj
          simpa using this
        have hp : Rs.planR rooms 0 = [⟨k, 0, 0⟩] := by unfold Rs.planR; rw [if_pos rfl, hfi]
        have he : Rs.errR rooms 0 = 0 := by unfold Rs.errR; rw [if_pos rfl, hfi]
        have HP := Lib.hid hp
        have HE := Lib.hid he
        clear hfi hp he
        go_wp2
        go_ret2
        rw [HP.out, HE.out]
        refine ⟨some ⟨wr.heap.size, 0, none⟩, 1, rfl, Nat.le_refl _, by decide, (fun h => by cases h), fun _ => ⟨wr.heap.size, 0, rfl, hlow, fun i hi j u hu => ?_⟩, HB.out.alloc hlow _⟩
        have hi0 : i = 0 := by simpa using hi
        subst hi0
        have := newCells wr (encZ.enc ⟨k, 0, 0⟩) 62 j u hu
        rw [addr_add] at this
        rw [show 0 + 0 * encZ.k + j = 0 + j by omega]
        exact this
      · have d2 : decide (2 ≤ r) = false := decide_eq_false h2
        have hf0 : Sp.fits r = 0 := Sp.fits_small (by omega)
        rw [hf0] at hf
        have HZ2 : Hid (∀ j (h : j < rooms.length), j < k + 1 → rooms[j] < 2) := Lib.hid fun j h hj => by
          by_cases e : j = k
          · subst e; have := HRR.out; omega
          · exact HZ.out j h (by omega)
        clear hf0
        go_wp2_with (go_at_call 33; refine (hf _).mono ?_; rintro e w' ⟨rfl, hw⟩; subst hw)
        go_roundw
        case rel => exact ⟨k + 1, by omega, by go_num, rfl, rfl, HZ2, HB⟩
        case measure => simp [intOf]; omega
    · have hfi : rooms.findIdx? (fun r => decide (2 ≤ r)) = none := by
        rw [List.findIdx?_eq_none_iff]
        intro x hx
        obtain ⟨j, hj, rfl⟩ := List.mem_iff_getElem.1 hx
        have := HZ.out j hj (by have := HN.out; omega)
        simpa using this
      have hp : Rs.planR rooms 0 = [] := by unfold Rs.planR; rw [if_pos rfl, hfi]
      have he : Rs.errR rooms 0 = 7 := by unfold Rs.errR; rw [if_pos rfl, hfi]
      have HP := Lib.hid hp
      have HE := Lib.hid he
      clear hfi hp he
      go_wp2
      go_ret2
      rw [HP.out, HE.out]
      exact PlanZ.nil _ _ _ HB.out
theorem refPlan_any (rooms : List Int) (size : Nat) (A : Option Addr) (n C : Nat) (G : Nat → Prop) (w : World) (hn : n = rooms.length) (hm : n ≤ 1000000) (h2 : size ≤ 4000) (hr : RdZ w A rooms G) :
    Calls Tryz.prog 11 #[.slice A n C, .int .i64 (size : Int)] w (PlanZ (Rs.planR rooms (size : Int)) (Rs.errR rooms (size : Int)) w) := by
  by_cases h : size = 0
  · subst h
    exact refPlan_zero rooms A n C G w hn hm hr
  · have e1 : Rs.planR rooms (size : Int) = Sp.plan rooms (size : Int) := by unfold Rs.planR; rw [if_neg (by omega)]
    have e2 : Rs.errR rooms (size : Int) = Sp.err rooms (size : Int) := by unfold Rs.errR; rw [if_neg (by omega)]
    rw [e1, e2]
    exact refPlan_pos rooms (size : Int) A n C G w hn hm (by omega) (by omega) hr
end Go.Proofs.YtndofmoepjfnfaaGreat
