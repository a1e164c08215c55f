/- Which pieces a file's plan has on blank tapes: a chain of them. No program. Chapter 20's steps that lay a file: which blocks come on which tapes. No program. Tapes in memory: a slice of tapes that reads as a list, and parity as it is made, a slice of slices of rows. No function of the program. -/
import Derived.Test.YtndofmoepjfnfaaDoorMan
import Derived.Test.YtndofmoepjfnfaaDoorSpMath
import Derived.Test.YtndofmoepjfnfaaDoorMal
import Derived.Test.YtndofmoepjfnfaaDoorMam
import Derived.Test.YtndofmoepjfnfaaDoorMai
import Derived.Test.YtndofmoepjfnfaaDoorMad
namespace Go.Proofs.YtndofmoepjfnfaaDoor.Rs
open Pt (Tx)

def toPc (p : Sp.P) : Pc := ⟨p.tape, p.from_.toNat, p.len.toNat⟩
/-- the document's plan: a file of no bytes comes to the first tape with two blocks' room -/
def planR (rooms : List Int) (size : Int) : List Sp.P := if size = 0 then (match rooms.findIdx? fun r => decide (2 ≤ r) with
    | some i => [⟨i, 0, 0⟩]
    | none => []) else Sp.plan rooms size
def errR (rooms : List Int) (size : Int) : Int := if size = 0 then (match rooms.findIdx? fun r => decide (2 ≤ r) with
    | some _ => 0
    | none => 7) else Sp.err rooms size
theorem chain_valid {caps : List Int} {size : Nat} (hc : ∀ i (h : i < caps.length), 3 ≤ caps[i] ∧ caps[i] ≤ 64) : ∀ {l : List Sp.P} {next : Nat} {at_ : Int}, 0 ≤ at_ → Sp.Valid (caps.map fun c => c - 1) (size : Int) next at_ l → Chain caps size next at_.toNat (l.map toPc)
  | [], _, at_, h0, h => by
    have h' : at_ = (size : Int) := h
    show at_.toNat = size
    omega
  | p :: l, next, at_, h0, h => by
    have hle := Sp.valid_le (p :: l) next at_ h
    obtain ⟨h1, h2, h3, ⟨h4, h5, -⟩, -, h8⟩ := h
    have hle2 := Sp.valid_le l _ _ h8
    have h4' : p.tape < caps.length := by simpa using h4
    have hcap := hc p.tape h4'
    have hr : (caps.map fun c => c - 1)[p.tape] = caps[p.tape] - 1 := by rw [List.getElem_map]
    rw [hr] at h5
    unfold Sp.fits at h5
    have hlen : p.len ≤ 64 * (caps[p.tape] - 3) := by
      split at h5
      · omega
      · split at h5 <;> omega
    refine ⟨h1, by show p.from_.toNat = at_.toNat; rw [h2], by show at_.toNat + p.len.toNat ≤ size; omega, .inl (by show 0 < p.len.toNat; omega), ⟨h4', ?_⟩, ?_⟩
    · show ((Vo.data p.len.toNat + 3 : Nat) : Int) ≤ caps[p.tape]
      unfold Vo.data
      omega
    · have := chain_valid hc (by omega) h8
      rwa [show (at_ + p.len).toNat = at_.toNat + p.len.toNat by omega] at this
/-- a plan without an error is a chain that is not empty -/
theorem chain_plan {caps : List Int} {size : Nat} (hc : ∀ i (h : i < caps.length), 3 ≤ caps[i] ∧ caps[i] ≤ 64) (h : errR (caps.map fun c => c - 1) (size : Int) = 0) :
    Chain caps size 0 0 ((planR (caps.map fun c => c - 1) (size : Int)).map toPc) ∧ planR (caps.map fun c => c - 1) (size : Int) ≠ [] := by
  unfold errR at h
  unfold planR
  by_cases h0 : (size : Int) = 0
  · rw [if_pos h0] at h
    rw [if_pos h0]
    have hs : size = 0 := by omega
    cases hf : (caps.map fun c => c - 1).findIdx? (fun r => decide (2 ≤ r)) with
    | none => rw [hf] at h; exact absurd h (by decide)
    | some i =>
      obtain ⟨hi, -, -⟩ := List.findIdx?_eq_some_iff_getElem.1 hf
      have hi' : i < caps.length := by simpa using hi
      refine ⟨⟨Nat.zero_le _, rfl, by show 0 + 0 ≤ size; omega, .inr ⟨hs, rfl⟩, ⟨hi', ?_⟩, ?_⟩, by simp⟩
      · have := (hc i hi').1
        show ((Vo.data 0 + 3 : Nat) : Int) ≤ caps[i]
        rw [Vo.data_zero]; omega
      · show 0 + 0 = size
        omega
  · rw [if_neg h0] at h
    rw [if_neg h0]
    have hv := Sp.plan_valid (by omega) h
    refine ⟨chain_valid hc (Int.le_refl _) hv, fun e => ?_⟩
    rw [e] at hv
    have hv' : (0 : Int) = (size : Int) := hv
    omega
end Go.Proofs.YtndofmoepjfnfaaDoor.Rs
namespace Go.Proofs.YtndofmoepjfnfaaDoor.Wr
open Pt (Tx)

/-- a piece's head -/
def hdOf (h : Rc.H) (b : Tx) (p : Sp.P) : Rc.H := ⟨h.path, h.version, h.size, p.from_, p.len, h.serial, sumL b, h.gone⟩
/-- its bytes -/
def slc (b : Tx) (p : Sp.P) : Tx := (b.drop p.from_.toNat).take p.len.toNat
/-- from which block on -/
def at_ (t : St.T) : Int := if t.blocks.length = 0 then 1 else (t.blocks.length : Int)
/-- the tape's own first frame, if it is blank -/
def head (t : St.T) (k : Nat) : List (Int × Tx) := if t.blocks.length = 0 then [((k : Int), Fm.blk (Vo.first t.label [68]))] else []
/-- the steps of a piece -/
def lay (ts : List St.T) (h : Rc.H) (b : Tx) (p : Sp.P) : List (Int × Tx) := match ts[p.tape]? with
  | none => []
  | some t => head t p.tape ++ (Vo.put t.label (at_ t) (hdOf h b p) (slc b p)).map fun x => ((p.tape : Int), x)
def steps (ts : List St.T) (h : Rc.H) (b : Tx) (plan : List Sp.P) : List (Int × Tx) := plan.flatMap (lay ts h b)
/-- what is asked of a piece -/
structure Ok (ts : List St.T) (h : Rc.H) (b : Tx) (p : Sp.P) : Prop where
  lt : p.tape < ts.length
  from0 : 0 ≤ p.from_
  len0 : 0 ≤ p.len
  fits : p.from_ + p.len ≤ (b.length : Int)
  right : ∀ t, ts[p.tape]? = some t → Vo.Right t.label (at_ t) (hdOf h b p) (slc b p)
theorem slc_len {ts : List St.T} {h : Rc.H} {b : Tx} {p : Sp.P} (k : Ok ts h b p) : ((slc b p).length : Int) = p.len := by
  unfold slc
  have := k.from0
  have := k.len0
  have := k.fits
  rw [List.length_take, List.length_drop]
  omega
theorem steps_take {ts : List St.T} {h : Rc.H} {b : Tx} {plan : List Sp.P} {i : Nat} (hi : i < plan.length) : steps ts h b (plan.take (i + 1)) = steps ts h b (plan.take i) ++ lay ts h b plan[i] := by
  unfold steps
  rw [List.take_succ_eq_append_getElem hi, List.flatMap_append]
  simp
theorem lay_at {ts : List St.T} {h : Rc.H} {b : Tx} {p : Sp.P} {t : St.T} (ht : ts[p.tape]? = some t) : lay ts h b p = head t p.tape ++ (Vo.put t.label (at_ t) (hdOf h b p) (slc b p)).map fun x => ((p.tape : Int), x) := by
  unfold lay; rw [ht]
theorem plan_len (rooms : List Int) (size : Int) : (Rs.planR rooms size).length ≤ rooms.length + 1 := by
  unfold Rs.planR
  split
  · split
    · simp
    · simp
  · have := Sp.plan_len rooms size
    omega
end Go.Proofs.YtndofmoepjfnfaaDoor.Wr
namespace Go.Proofs.YtndofmoepjfnfaaDoor
open Go.RowKit
open Pt (Tx)

/-- the slice at A reads as these tapes; all lies in blocks of G -/
def RdT (w : World) (A : Option Addr) (ts : List St.T) (G : Nat → Prop) : Prop :=
  0 < ts.length → ∃ b off, A = some ⟨b, off, none⟩ ∧ G b ∧ ∀ i (hi : i < ts.length), ∃ A' C', w.cell? ⟨b, off + i * 4, none⟩ = some (.int .i64 ts[i].label) ∧ w.cell? ⟨b, off + i * 4 + 1, none⟩ = some (.int .i64 ts[i].cap) ∧ w.cell? ⟨b, off + i * 4 + 2, none⟩ = some (.slice A' ts[i].blocks.length C') ∧ w.cell? ⟨b, off + i * 4 + 3, none⟩ = some (.bool ts[i].lost) ∧ RdB w A' ts[i].blocks G
namespace RdT
variable {w w' : World} {A : Option Addr} {ts : List St.T} {G G' S : Nat → Prop}
theorem empty (w : World) (A : Option Addr) (G : Nat → Prop) : RdT w A [] G := fun h => absurd h (by simp)
theorem keep (h : RdT w A ts G) (hk : ∀ p v, G p.block → w.cell? p = some v → w'.cell? p = some v) : RdT w' A ts G := by
  intro hn
  obtain ⟨b, off, e, hg, hc⟩ := h hn
  refine ⟨b, off, e, hg, fun i hi => ?_⟩
  obtain ⟨A', C', h0, h1, h2, h3, h4⟩ := hc i hi
  exact ⟨A', C', hk _ _ hg h0, hk _ _ hg h1, hk _ _ hg h2, hk _ _ hg h3, h4.keep hk⟩
theorem mono (h : RdT w A ts G) (hg : ∀ b, G b → G' b) : RdT w A ts G' := by
  intro hn
  obtain ⟨b, off, e, hg', hc⟩ := h hn
  refine ⟨b, off, e, hg _ hg', fun i hi => ?_⟩
  obtain ⟨A', C', h0, h1, h2, h3, h4⟩ := hc i hi
  exact ⟨A', C', h0, h1, h2, h3, h4.mono hg⟩
theorem kp (h : RdT w A ts G) (hk : Kp S w w') (hs : ∀ b, G b → ¬ S b) : RdT w' A ts G := h.keep fun _ _ hg hc => hk.cell hc (hs _ hg)
theorem old (h : RdT w A ts G) (hb : Below w.heap.size w w') : RdT w' A ts G := h.keep fun _ _ _ hc => (hb.cell (World.block_lt_of_cell? _ _ hc)).trans hc
theorem in_ (h : RdT w A ts G) : RdT w A ts (fun b => G b ∧ b < w.heap.size) := by
  intro hn
  obtain ⟨b, off, e, hg, hc⟩ := h hn
  refine ⟨b, off, e, ⟨hg, ?_⟩, fun i hi => ?_⟩
  · obtain ⟨_, _, h0, _⟩ := hc 0 hn
    exact World.block_lt_of_cell? _ _ h0
  · obtain ⟨A', C', h0, h1, h2, h3, h4⟩ := hc i hi
    exact ⟨A', C', h0, h1, h2, h3, h4.in_⟩
theorem at_ (h : RdT w A ts G) {i : Nat} (hi : i < ts.length) : ∃ b off A' C', A = some ⟨b, off, none⟩ ∧ G b ∧ w.cell? ⟨b, off + i * 4, none⟩ = some (.int .i64 ts[i].label) ∧ w.cell? ⟨b, off + i * 4 + 1, none⟩ = some (.int .i64 ts[i].cap) ∧ w.cell? ⟨b, off + i * 4 + 2, none⟩ = some (.slice A' ts[i].blocks.length C') ∧ w.cell? ⟨b, off + i * 4 + 3, none⟩ = some (.bool ts[i].lost) ∧ RdB w A' ts[i].blocks G := by
  obtain ⟨b, off, e, hg, hc⟩ := h (by omega)
  obtain ⟨A', C', h0, h1, h2, h3, h4⟩ := hc i hi
  exact ⟨b, off, A', C', e, hg, h0, h1, h2, h3, h4⟩
end RdT
/-- a row of blocks as a matrix -/
theorem RdB.rdM {w : World} {A : Option Addr} {bs : List Tx} {G : Nat → Prop} (h : RdB w A bs G) : RdM w A bs.length (St.lens bs) (St.mat bs) G := fun hn => by
  obtain ⟨b, off, e, hg, hc⟩ := h hn
  refine ⟨b, off, e, hg, fun i hi => ?_⟩
  obtain ⟨A', C', h1, _, _, h4⟩ := hc i hi
  refine ⟨A', C', by rw [St.lens_at hi]; exact h1, ?_⟩
  rw [St.lens_at hi, St.mat_at hi]
  exact h4.rd
/-- the slice at A reads as p matrices, each of n rows of m elements -/
def RdP (w : World) (A : Option Addr) (p n m : Nat) (X : Nat → Mx.Mat) (G : Nat → Prop) : Prop :=
  0 < p → ∃ b off, A = some ⟨b, off, none⟩ ∧ G b ∧ ∀ j, j < p → ∃ A' C', w.cell? ⟨b, off + j, none⟩ = some (.slice A' n C') ∧ n ≤ C' ∧ (A' = none → n = 0 ∧ C' = 0) ∧ RdM w A' n (fun _ => m) (X j) G
namespace RdP
variable {w w' : World} {A : Option Addr} {p n m : Nat} {X Y : Nat → Mx.Mat} {G G' S : Nat → Prop}
theorem empty (w : World) (A : Option Addr) (n m : Nat) (X : Nat → Mx.Mat) (G : Nat → Prop) : RdP w A 0 n m X G := fun h => absurd h (by omega)
theorem keep (h : RdP w A p n m X G) (hk : ∀ p v, G p.block → w.cell? p = some v → w'.cell? p = some v) : RdP w' A p n m X G := by
  intro hn
  obtain ⟨b, off, e, hg, hc⟩ := h hn
  refine ⟨b, off, e, hg, fun j hj => ?_⟩
  obtain ⟨A', C', h1, h2, h3, h4⟩ := hc j hj
  exact ⟨A', C', hk _ _ hg h1, h2, h3, h4.keep hk⟩
theorem mono (h : RdP w A p n m X G) (hg : ∀ b, G b → G' b) : RdP w A p n m X G' := by
  intro hn
  obtain ⟨b, off, e, hg', hc⟩ := h hn
  refine ⟨b, off, e, hg _ hg', fun j hj => ?_⟩
  obtain ⟨A', C', h1, h2, h3, h4⟩ := hc j hj
  exact ⟨A', C', h1, h2, h3, h4.mono hg⟩
theorem congr (h : RdP w A p n m X G) (he : ∀ j, j < p → ∀ i, i < n → ∀ c, c < m → X j i c = Y j i c) : RdP w A p n m Y G := by
  intro hn
  obtain ⟨b, off, e, hg', hc⟩ := h hn
  refine ⟨b, off, e, hg', fun j hj => ?_⟩
  obtain ⟨A', C', h1, h2, h3, h4⟩ := hc j hj
  exact ⟨A', C', h1, h2, h3, h4.congr (fun _ _ => rfl) (he j hj)⟩
theorem old (h : RdP w A p n m X G) (hb : Below w.heap.size w w') : RdP w' A p n m X G := h.keep fun _ _ _ hc => (hb.cell (World.block_lt_of_cell? _ _ hc)).trans hc
theorem at_ (h : RdP w A p n m X G) {j : Nat} (hj : j < p) : ∃ b off A' C', A = some ⟨b, off, none⟩ ∧ G b ∧ w.cell? ⟨b, off + j, none⟩ = some (.slice A' n C') ∧ n ≤ C' ∧ (A' = none → n = 0 ∧ C' = 0) ∧ RdM w A' n (fun _ => m) (X j) G := by
  obtain ⟨b, off, e, hg, hc⟩ := h (by omega)
  obtain ⟨A', C', h1, h2, h3, h4⟩ := hc j hj
  exact ⟨b, off, A', C', e, hg, h1, h2, h3, h4⟩
end RdP
end Go.Proofs.YtndofmoepjfnfaaDoor
