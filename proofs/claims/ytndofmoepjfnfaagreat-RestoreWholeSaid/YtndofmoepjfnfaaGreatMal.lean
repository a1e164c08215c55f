/- Tapes in a row that a call makes longer by append: each in four cells. No function of the program. What the walk is told of a row of numbers, and the low bits of a number. No function of the program. Blank tapes that the law of chapter 19 lays. Tapes on which a file was laid tell of no group, whatever of them is turned. No program. Steps that are turned, by their numbers: which is told first. No program. -/
import Derived.Test.YtndofmoepjfnfaaGreatMak
import Derived.Test.YtndofmoepjfnfaaGreatMab
import Derived.Test.YtndofmoepjfnfaaGreatRows
import Derived.OpenShut
import Derived.Deep.Matrix
import Derived.Test.YtndofmoepjfnfaaGreatMag
import Derived.Test.YtndofmoepjfnfaaGreatMai
namespace Go.Proofs.YtndofmoepjfnfaaGreat
open Go.RowKit
open Pt (Tx)

/-- a tape's four cells -/
structure Tv where
  label : Int
  cap : Int
  A : Option Addr
  n : Nat
  C : Nat
  lost : Bool
def encT : Enc Tv where
  k := 4
  pos := by decide
  enc t := [.int .i64 t.label, .int .i64 t.cap, .slice t.A t.n t.C, .bool t.lost]
  len _ := rfl
  one t u hu := by
    simp only [List.mem_cons, List.not_mem_nil, or_false] at hu
    rcases hu with rfl | rfl | rfl | rfl <;> rfl
theorem infoTape : (Tryz.prog.info? 28).map (fun i => (i.zero, i.size, i.bytes)) = some (some (.agg #[.int .i64 0, .int .i64 0, .slice none 0 0, .bool false]), 4, 48) := by kernel_rfl
/-- the value that is handed on -/
def Tv.val (t : Tv) : Value := .agg #[.int .i64 t.label, .int .i64 t.cap, .slice t.A t.n t.C, .bool t.lost]
/-- a row of such cells and what they point to read as tapes -/
theorem RdT.of_rows {w : World} {A : Option Addr} {tvs : List Tv} {ts : List St.T} {G : Nat → Prop} (h : encT.Rd w A tvs G) (hl : tvs.length = ts.length)
    (hb : ∀ i (hi : i < tvs.length) (hi' : i < ts.length), tvs[i].label = ts[i].label ∧ tvs[i].cap = ts[i].cap ∧ tvs[i].n = ts[i].blocks.length ∧ tvs[i].lost = ts[i].lost ∧ RdB w tvs[i].A ts[i].blocks G) : RdT w A ts G := by
  intro hn
  obtain ⟨b, off, e, hg, hc⟩ := h (by omega)
  refine ⟨b, off, e, hg, fun i hi => ?_⟩
  have hi' : i < tvs.length := by omega
  obtain ⟨h1, h2, h3, h4, h5⟩ := hb i hi' hi
  refine ⟨tvs[i].A, tvs[i].C, ?_, ?_, ?_, ?_, h5⟩
  · rw [← h1]; exact hc i hi' 0 _ rfl
  · rw [← h2]; exact hc i hi' 1 _ rfl
  · rw [← h3]; exact hc i hi' 2 _ rfl
  · rw [← h4]; exact hc i hi' 3 _ rfl
/-- and the other way round -/
theorem RdT.rows {w : World} {A : Option Addr} {ts : List St.T} {G : Nat → Prop} (h : RdT w A ts G) : ∃ tvs : List Tv, tvs.length = ts.length ∧ encT.Rd w A tvs G
    ∧ ∀ i (hi : i < tvs.length) (hi' : i < ts.length), tvs[i].label = ts[i].label ∧ tvs[i].cap = ts[i].cap ∧ tvs[i].n = ts[i].blocks.length ∧ tvs[i].lost = ts[i].lost ∧ RdB w tvs[i].A ts[i].blocks G := by
  rcases Nat.eq_zero_or_pos ts.length with h0 | h0
  · exact ⟨[], by rw [h0]; rfl, Enc.Rd.nil _ _ _, fun i hi => absurd hi (by simp)⟩
  · obtain ⟨b, off, e, hg, hc⟩ := h h0
    have key : ∀ i, ∃ q : Option Addr × Nat, ∀ hi : i < ts.length, w.cell? ⟨b, off + i * 4 + 2, none⟩ = some (.slice q.1 ts[i].blocks.length q.2) ∧ RdB w q.1 ts[i].blocks G := fun i => by
      by_cases hi : i < ts.length
      · obtain ⟨A', C', _, _, h2, _, h4⟩ := hc i hi
        exact ⟨(A', C'), fun _ => ⟨h2, h4⟩⟩
      · exact ⟨(none, 0), fun h => absurd h hi⟩
    refine ⟨(List.range ts.length).map fun i => ⟨(ts.getD i ⟨0, 0, [], false⟩).label, (ts.getD i ⟨0, 0, [], false⟩).cap, (key i).choose.1, (ts.getD i ⟨0, 0, [], false⟩).blocks.length, (key i).choose.2, (ts.getD i ⟨0, 0, [], false⟩).lost⟩, by simp, fun _ => ⟨b, off, e, hg, fun i hi j u hu => ?_⟩, fun i hi hi' => ?_⟩
    · have hi' : i < ts.length := by simpa using hi
      obtain ⟨k1, k2⟩ := (key i).choose_spec hi'
      obtain ⟨A', C', g0, g1, _, g3, _⟩ := hc i hi'
      have ht : ts.getD i ⟨0, 0, [], false⟩ = ts[i] := by rw [List.getD_eq_getElem?_getD, List.getElem?_eq_getElem hi']; rfl
      simp only [List.getElem_map, List.getElem_range, ht] at hu
      match j, hu with
      | 0, hu => cases hu; exact g0
      | 1, hu => cases hu; exact g1
      | 2, hu => cases hu; exact k1
      | 3, hu => cases hu; exact g3
    · obtain ⟨k1, k2⟩ := (key i).choose_spec hi'
      have ht : ts.getD i ⟨0, 0, [], false⟩ = ts[i] := by rw [List.getD_eq_getElem?_getD, List.getElem?_eq_getElem hi']; rfl
      simp only [List.getElem_map, List.getElem_range, ht]
      exact ⟨trivial, trivial, trivial, trivial, k2⟩
end Go.Proofs.YtndofmoepjfnfaaGreat
namespace Go.Proofs.YtndofmoepjfnfaaGreat
open Go.RowKit Go.ChangeShapes Go.WideShapes

/-- the slice at A of n numbers reads as z -/
def RdI (w : World) (A : Option Addr) (n : Nat) (z : Nat → Int) : Prop :=
  0 < n → ∃ b off, A = some ⟨b, off, none⟩ ∧ ∀ j, j < n → w.cell? ⟨b, off + j, none⟩ = some (.int .i64 (z j))
theorem RdI.old {w w' : World} {A : Option Addr} {n : Nat} {z : Nat → Int} (h : RdI w A n z) (hb : Below w.heap.size w w') : RdI w' A n z := by
  intro hn
  obtain ⟨b, off, e, hc⟩ := h hn
  exact ⟨b, off, e, fun j hj => (hb.cell (World.block_lt_of_cell? _ _ (hc j hj))).trans (hc j hj)⟩
theorem RdI.at {w : World} {A : Option Addr} {n : Nat} {z : Nat → Int} (h : RdI w A n z) {j : Nat} (hj : j < n) : ∃ b off, A = some ⟨b, off, none⟩ ∧ w.cell? ⟨b, off + j, none⟩ = some (.int .i64 (z j)) := by
  obtain ⟨b, off, e, hc⟩ := h (by omega)
  exact ⟨b, off, e, hc j hj⟩
theorem open_rdI {H : Type} {enc : TypeId × Value → H} {w : World} {base fuel : Nat} {held : Bool} {a : Option Addr} {len cap : Nat} {x : DataW H × List MemPlace}
    (h : DataW.trod enc Tryz.prog w base (fun _ => true) held fuel 23 (Value.slice a len cap).cells.toList = some x) : len ≤ maxLen ∧ ∃ z, RdI w a len z := by
  rcases open_ints Tryz.underlying23 Tryz.underlying3 (by kernel_rfl) h with ⟨hcs, _⟩ | ⟨y, l, c, zs, hcs, _, hl, hm, hz, _, hcell, hwz⟩
  · simp [Value.cells] at hcs
    obtain ⟨rfl, rfl, rfl⟩ := hcs
    exact ⟨by decide, fun _ => 0, fun h => absurd h (by omega)⟩
  · simp [Value.cells] at hcs
    obtain ⟨rfl, rfl, rfl⟩ := hcs
    have hz' : zs.length = cap := by simpa using hz
    refine ⟨by omega, fun j => zs.getD j 0, fun h0 => ?_⟩
    obtain ⟨b, off, spot⟩ := y
    have hs : spot = none := by simpa [Addr.add] using World.cell?_spot (hcell 0 (by omega))
    subst hs
    refine ⟨b, off, rfl, fun j hj => ?_⟩
    have := hcell j (by omega)
    by_cases e : j = 0
    · subst e; simpa [Addr.add] using this
    · simpa [Addr.add, e] using this

theorem and_1023 (x : Int) : ∃ y : Nat, bits BinOp.and IntKind.i64 x 1023 = (y : Int) ∧ y ≤ 1023 := by
  have hx : (BitVec.ofInt 64 x &&& BitVec.ofInt 64 1023).toNat ≤ 1023 := by
    rw [BitVec.toNat_and]; exact Nat.and_le_right
  refine ⟨(BitVec.ofInt 64 x &&& BitVec.ofInt 64 1023).toNat, ?_, hx⟩
  show IntKind.i64.wrap ((BitVec.ofInt 64 x &&& BitVec.ofInt 64 1023).toNat : Int) = _
  rw [IntKind.wrap_i64]; omega
def low (z : Nat → Int) (j : Nat) : Nat := (bits BinOp.and IntKind.i64 (z j) 1023).toNat
theorem low_eq (z : Nat → Int) (j : Nat) : bits BinOp.and IntKind.i64 (z j) 1023 = (low z j : Int) ∧ low z j ≤ 1023 := by
  obtain ⟨y, h1, h2⟩ := and_1023 (z j)
  unfold low
  rw [h1]; simp; exact h2
end Go.Proofs.YtndofmoepjfnfaaGreat
namespace Go.Proofs.YtndofmoepjfnfaaGreat
open Go.RowKit
open Pt (Tx)

namespace Rs
noncomputable def lo5 (x : Int) : Nat := (bits BinOp.and IntKind.i64 x 31).toNat
theorem and_31 (x : Int) : bits BinOp.and IntKind.i64 x 31 = (lo5 x : Int) ∧ lo5 x ≤ 31 := by
  have hx : (BitVec.ofInt 64 x &&& BitVec.ofInt 64 31).toNat ≤ 31 := by
    rw [BitVec.toNat_and]; exact Nat.and_le_right
  have h : bits BinOp.and IntKind.i64 x 31 = ((BitVec.ofInt 64 x &&& BitVec.ofInt 64 31).toNat : Int) := by
    show IntKind.i64.wrap ((BitVec.ofInt 64 x &&& BitVec.ofInt 64 31).toNat : Int) = _
    rw [IntKind.wrap_i64]; omega
  unfold lo5
  rw [h, Int.toNat_natCast]
  exact ⟨rfl, hx⟩
noncomputable def lo12 (x : Int) : Nat := (bits BinOp.and IntKind.i64 x 4095).toNat
theorem and_4095 (x : Int) : bits BinOp.and IntKind.i64 x 4095 = (lo12 x : Int) ∧ lo12 x ≤ 4095 := by
  have hx : (BitVec.ofInt 64 x &&& BitVec.ofInt 64 4095).toNat ≤ 4095 := by
    rw [BitVec.toNat_and]; exact Nat.and_le_right
  have h : bits BinOp.and IntKind.i64 x 4095 = ((BitVec.ofInt 64 x &&& BitVec.ofInt 64 4095).toNat : Int) := by
    show IntKind.i64.wrap ((BitVec.ofInt 64 x &&& BitVec.ofInt 64 4095).toNat : Int) = _
    rw [IntKind.wrap_i64]; omega
  unfold lo12
  rw [h, Int.toNat_natCast]
  exact ⟨rfl, hx⟩
/-- a tape's room -/
noncomputable def cap (z : Nat → Int) (i : Nat) : Int := 3 + (lo5 (z i) : Int)
theorem cap_in (z : Nat → Int) (i : Nat) : 3 ≤ cap z i ∧ cap z i ≤ 34 := by unfold cap; have := (and_31 (z i)).2; omega
noncomputable def caps (z : Nat → Int) (m : Nat) : List Int := (List.range m).map (cap z)
theorem caps_len (z : Nat → Int) (m : Nat) : (caps z m).length = m := by unfold caps; simp
theorem caps_at {z : Nat → Int} {m i : Nat} (h : i < (caps z m).length) : (caps z m)[i] = cap z i := Option.some.inj ((List.getElem?_eq_getElem h).symm.trans (by unfold caps; rw [List.getElem?_map, List.getElem?_range (by rw [caps_len] at h; exact h)]; rfl))
theorem caps_getD {z : Nat → Int} {m i : Nat} (h : i < m) : (caps z m).getD i 0 = cap z i := by
  unfold caps
  rw [List.getD_eq_getElem?_getD, List.getElem?_map, List.getElem?_range h]; rfl
theorem caps_le (z : Nat → Int) (m i : Nat) : (caps z m).getD i 0 ≤ 64 := by
  by_cases h : i < m
  · rw [caps_getD h]; have := cap_in z i; omega
  · rw [List.getD_eq_getElem?_getD, List.getElem?_eq_none (by rw [caps_len]; omega)]; decide
/-- as they lie -/
noncomputable def tv (z : Nat → Int) (i : Nat) : Tv := ⟨(i : Int) + 1, cap z i, none, 0, 0, false⟩
noncomputable def tvs (z : Nat → Int) (m : Nat) : List Tv := (List.range m).map (tv z)
theorem tvs_len (z : Nat → Int) (m : Nat) : (tvs z m).length = m := by unfold tvs; simp
theorem tvs_succ (z : Nat → Int) (m : Nat) : tvs z (m + 1) = tvs z m ++ [tv z m] := by unfold tvs; rw [List.range_succ, List.map_append]; rfl
end Rs
theorem blank_rdT {w : World} {A : Option Addr} {z : Nat → Int} {m : Nat} {G : Nat → Prop} (h : encT.Rd w A (Rs.tvs z m) G) : RdT w A (Rs.tps (Rs.caps z m) fun _ => []) G := by
  refine RdT.of_rows h (by rw [Rs.tvs_len, Rs.tps_len, Rs.caps_len]) fun i hi hi' => ?_
  have hm : i < m := by rw [Rs.tvs_len] at hi; exact hi
  have e1 : (Rs.tvs z m)[i] = Rs.tv z i := Option.some.inj ((List.getElem?_eq_getElem hi).symm.trans (by unfold Rs.tvs; rw [List.getElem?_map, List.getElem?_range hm]; rfl))
  have e2 : (Rs.tps (Rs.caps z m) fun _ => [])[i] = ⟨(i : Int) + 1, (Rs.caps z m).getD i 0, [], false⟩ := Option.some.inj ((List.getElem?_eq_getElem _).symm.trans (Rs.tps_get (by rw [Rs.caps_len]; exact hm)))
  rw [e1, e2, Rs.caps_getD hm]
  exact ⟨rfl, rfl, rfl, rfl, RdB.empty _ _ _⟩
end Go.Proofs.YtndofmoepjfnfaaGreat
namespace Go.Proofs.YtndofmoepjfnfaaGreat.Rs
open Pt (Tx)

theorem us_kind {b : Tx} {p : Pc} {u : Fm.U} (hu : u ∈ us b p) : u.kind ≠ 5 := by
  rcases List.mem_cons.1 hu with rfl | hu
  · show (1 : Int) ≠ 5; decide
  · obtain ⟨j, hj, rfl⟩ := List.mem_iff_getElem.1 hu
    obtain ⟨-, -, -, h⟩ := Vo.units_at (List.getElem?_eq_getElem hj)
    omega
theorem find_on {b : Tx} {ps : List Pc} (i : Nat) : on b ps i = [] ∨ ∃ p ∈ ps, p.tape = i ∧ on b ps i = (us b p).map Fm.blk := by
  unfold on
  cases h : ps.find? (fun p => p.tape == i) with
  | none => exact .inl rfl
  | some p =>
    have h1 := List.find?_some h
    exact .inr ⟨p, List.mem_of_find?_eq_some h, by simpa using h1, rfl⟩
theorem cand_none {caps : List Int} {b : Tx} {ps : List Pc} {next at_ : Nat} (hb : b.length ≤ 2000) (hc : caps.length ≤ 1000) (h : Chain caps b.length next at_ ps) (Z : Nat → Bool) (c : Int) (i : Nat) : Gr.cand ⟨(i : Int) + 1, c, zed Z (on b ps i), false⟩ = none := by
  have key : Gr.sealed ⟨(i : Int) + 1, c, zed Z (on b ps i), false⟩ = none := by
    unfold Gr.sealed Gr.vo
    rcases find_on (b := b) (ps := ps) i with e | ⟨p, hp, rfl, e⟩
    · rw [e]
      have : Vo.good ⟨(i : Int) + 1, zed Z [], false⟩ ((zed Z []).length - 1) = none := Vo.good_end (by show (zed Z []).length ≤ _; rw [zed_len]; simp)
      show (match Vo.good ⟨(i : Int) + 1, zed Z [], false⟩ ((zed Z []).length - 1) with | none => none | some u => if u.kind = 5 ∧ Rc.SGood u.load then some (Rc.sparse u.load) else none) = none
      rw [this]
    · obtain ⟨hin, -⟩ := h.in_ p hp
      have hlt := hin.lt
      rw [e]
      show (match Vo.good ⟨(p.tape : Int) + 1, zed Z ((us b p).map Fm.blk), false⟩ ((zed Z ((us b p).map Fm.blk)).length - 1) with | none => none | some u => if u.kind = 5 ∧ Rc.SGood u.load then some (Rc.sparse u.load) else none) = none
      have hl : (zed Z ((us b p).map Fm.blk)).length - 1 < (us b p).length := by
        rw [zed_len, List.length_map, us_len hin.le]; omega
      obtain ⟨n, hn⟩ : ∃ n, n = (zed Z ((us b p).map Fm.blk)).length - 1 := ⟨_, rfl⟩
      rw [← hn] at hl ⊢
      have hu := List.getElem?_eq_getElem hl
      cases hz : Z n with
      | true => rw [good_rot (by omega) hu hz]
      | false =>
        rw [good_clean hb hin (by omega) hu hz]
        exact if_neg fun hh => us_kind (List.getElem_mem hl) hh.1
  unfold Gr.cand
  rw [key]
/-- no group is found -/
theorem find_now {caps : List Int} {b : Tx} {ps : List Pc} {next at_ : Nat} (hb : b.length ≤ 2000) (hc : caps.length ≤ 1000) (h : Chain caps b.length next at_ ps) (Z : Nat → Nat → Bool) : Gr.find (now caps b ps Z) = [] := by
  have key : Gr.cands (now caps b ps Z) = [] := by
    unfold Gr.cands now
    rw [List.filterMap_eq_nil_iff]
    intro t ht
    obtain ⟨i, -, rfl⟩ := List.mem_map.1 ht
    exact cand_none hb hc h (Z i) _ i
  unfold Gr.find
  rw [key]; rfl
end Go.Proofs.YtndofmoepjfnfaaGreat.Rs
namespace Go.Proofs.YtndofmoepjfnfaaGreat.Rs
open Pt (Tx)

/-- where a step lies -/
def pos (x : Nat × Fm.U) : Nat × Nat := (x.1, x.2.number.toNat)
theorem pos_us (b : Tx) (p : Pc) : (((us b p).map fun u => (p.tape, u)).map pos) = (List.range (us b p).length).map fun j => (p.tape, j) := by
  apply List.ext_getElem (by simp)
  intro j h1 h2
  simp only [List.length_map] at h1
  have h := us_at (List.getElem?_eq_getElem h1)
  simp only [List.getElem_map, List.getElem_range]
  show (p.tape, ((us b p)[j]).number.toNat) = (p.tape, j)
  rw [h.2.1, Int.toNat_natCast]
/-- no two lie in one place -/
theorem pos_nodup {caps : List Int} {b : Tx} : ∀ {ps : List Pc} {next at_ : Nat}, Chain caps b.length next at_ ps → ((steps b ps).map pos).Nodup ∧ ∀ q ∈ (steps b ps).map pos, next ≤ q.1
  | [], _, _, _ => ⟨List.nodup_nil, fun _ h => nomatch h⟩
  | p :: ps, next, at_, h => by
    obtain ⟨h1, h2, h3, h4, h5, h7⟩ := h
    obtain ⟨ih1, ih2⟩ := pos_nodup h7
    have e : (steps b (p :: ps)).map pos = ((List.range (us b p).length).map fun j => (p.tape, j)) ++ (steps b ps).map pos := by
      unfold steps
      rw [List.flatMap_cons, List.map_append, pos_us]
    rw [e]
    refine ⟨List.nodup_append.2 ⟨?_, ih1, ?_⟩, ?_⟩
    · refine List.pairwise_map.2 (List.nodup_range.imp fun {a c} hac he => hac ?_)
      exact congrArg Prod.snd he
    · intro x hx y hy he
      obtain ⟨j, -, rfl⟩ := List.mem_map.1 hx
      have := ih2 y hy
      rw [← he] at this
      have this' : p.tape + 1 ≤ p.tape := this
      omega
    · intro q hq
      rcases List.mem_append.1 hq with hq | hq
      · obtain ⟨j, -, rfl⟩ := List.mem_map.1 hq
        exact h1
      · have := ih2 q hq
        omega
theorem pos_inj {caps : List Int} {b : Tx} {ps : List Pc} {next at_ : Nat} (h : Chain caps b.length next at_ ps) {j k : Nat} (hj : j < (steps b ps).length) (hk : k < (steps b ps).length) (e : pos (steps b ps)[j] = pos (steps b ps)[k]) : j = k := by
  have hn := (pos_nodup h).1
  have hj' : j < ((steps b ps).map pos).length := by rw [List.length_map]; exact hj
  have hk' : k < ((steps b ps).map pos).length := by rw [List.length_map]; exact hk
  have he : ((steps b ps).map pos)[j] = ((steps b ps).map pos)[k] := by rw [List.getElem_map, List.getElem_map]; exact e
  exact (List.getElem_inj hn).1 he
/-- what is turned by the steps of these numbers -/
def zOf (S : List (Nat × Fm.U)) (K : List Nat) : Nat → Nat → Bool := fun i j => K.any fun k => match S[k]? with
  | some x => x.1 == i && x.2.number.toNat == j
  | none => false
theorem zOf_nil (S : List (Nat × Fm.U)) : zOf S [] = fun _ _ => false := rfl
theorem zOf_at {caps : List Int} {b : Tx} {ps : List Pc} {next at_ : Nat} (h : Chain caps b.length next at_ ps) {K : List Nat} (hK : ∀ k ∈ K, k < (steps b ps).length) {j : Nat} (hj : j < (steps b ps).length) :
    zOf (steps b ps) K ((steps b ps)[j]).1 ((steps b ps)[j]).2.number.toNat = true ↔ j ∈ K := by
  unfold zOf
  rw [List.any_eq_true]
  constructor
  · rintro ⟨k, hk, he⟩
    have hkl := hK k hk
    rw [List.getElem?_eq_getElem hkl] at he
    have he' : (((steps b ps)[k]).1 == ((steps b ps)[j]).1 && ((steps b ps)[k]).2.number.toNat == ((steps b ps)[j]).2.number.toNat) = true := he
    rw [Bool.and_eq_true, beq_iff_eq, beq_iff_eq] at he'
    have := pos_inj h hkl hj (Prod.ext he'.1 he'.2)
    rw [← this]; exact hk
  · intro hk
    refine ⟨j, hk, ?_⟩
    rw [List.getElem?_eq_getElem hj]
    show (_ == _ && _ == _) = true
    rw [beq_self_eq_true, beq_self_eq_true]; rfl
/-- the first of some numbers; below 0: none -/
def Fst (K : List Nat) (z : Int) : Prop := (K = [] ∧ z = -1) ∨ ∃ k ∈ K, z = (k : Int) ∧ ∀ j ∈ K, k ≤ j
theorem Fst.nil : Fst [] (-1) := .inl ⟨rfl, rfl⟩
theorem Fst.lo {K : List Nat} {z : Int} (h : Fst K z) : -1 ≤ z := by
  rcases h with ⟨-, rfl⟩ | ⟨k, -, rfl, -⟩ <;> omega
theorem Fst.less {K : List Nat} {z : Int} (h : Fst K z) {k : Nat} (hz : z < 0 ∨ (k : Int) < z) : Fst (k :: K) (k : Int) := by
  refine .inr ⟨k, List.mem_cons_self, rfl, fun j hj => ?_⟩
  rcases List.mem_cons.1 hj with rfl | hj
  · exact Nat.le_refl _
  · rcases h with ⟨rfl, -⟩ | ⟨m, hm, rfl, hall⟩
    · cases hj
    · have := hall j hj
      omega
theorem Fst.more {K : List Nat} {z : Int} (h : Fst K z) {k : Nat} (hz : ¬ (z < 0 ∨ (k : Int) < z)) : Fst (k :: K) z := by
  rcases h with ⟨-, rfl⟩ | ⟨m, hm, rfl, hall⟩
  · exact absurd (.inl (by decide)) hz
  · refine .inr ⟨m, List.mem_cons_of_mem _ hm, rfl, fun j hj => ?_⟩
    rcases List.mem_cons.1 hj with rfl | hj
    · omega
    · exact hall j hj
/-- what is told -/
theorem find_first {caps : List Int} {b : Tx} {ps : List Pc} {next at_ : Nat} (h : Chain caps b.length next at_ ps) {K : List Nat} {z : Int} (hK : ∀ k ∈ K, ∃ hk : k < (steps b ps).length, isData (steps b ps)[k] = true) (hf : Fst K z) :
    (steps b ps).find? (fun x => isData x && zOf (steps b ps) K x.1 x.2.number.toNat) = if z < 0 then none else (steps b ps)[z.toNat]? := by
  have hKl : ∀ k ∈ K, k < (steps b ps).length := fun k hk => (hK k hk).1
  rcases hf with ⟨rfl, rfl⟩ | ⟨k, hk, rfl, hall⟩
  · rw [if_pos (by decide), List.find?_eq_none]
    intro x _
    rw [zOf_nil]; simp
  · obtain ⟨hkl, hd⟩ := hK k hk
    rw [if_neg (by omega), Int.toNat_natCast, List.getElem?_eq_getElem hkl, List.find?_eq_some_iff_getElem]
    refine ⟨?_, k, hkl, rfl, fun j hj => ?_⟩
    · rw [hd, (zOf_at h hKl hkl).2 hk]; rfl
    · have hjl : j < (steps b ps).length := by omega
      have hno : zOf (steps b ps) K ((steps b ps)[j]).1 ((steps b ps)[j]).2.number.toNat = false := by
        cases hz : zOf (steps b ps) K ((steps b ps)[j]).1 ((steps b ps)[j]).2.number.toNat with
        | false => rfl
        | true =>
          have := hall j ((zOf_at h hKl hjl).1 hz)
          omega
      rw [hno, Bool.and_false]; rfl
/-- one more is turned -/
theorem zOf_cons (S : List (Nat × Fm.U)) (K : List Nat) (k i j : Nat) : zOf S (k :: K) i j = ((match S[k]? with | some x => x.1 == i && x.2.number.toNat == j | none => false) || zOf S K i j) := by
  unfold zOf; rw [List.any_cons]
end Go.Proofs.YtndofmoepjfnfaaGreat.Rs
