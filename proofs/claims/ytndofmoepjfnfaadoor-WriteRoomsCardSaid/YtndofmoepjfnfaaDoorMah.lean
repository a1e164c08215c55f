/- A seal in its block. No function of the program. A row of numbers in memory as a list, and a seal in its block. No function of the program. Seals in a row: each in five cells, its labels in a row of their own. No function of the program. What membersOf of package write answers: of each label, how many members have it. A tape that lies in a block, or in a row of them. No function of the program. -/
import Derived.Test.YtndofmoepjfnfaaDoorKp
import Derived.Test.YtndofmoepjfnfaaDoorMac
import Derived.Test.YtndofmoepjfnfaaDoorRows
import Derived.Test.YtndofmoepjfnfaaDoorMae
import Derived.Test.YtndofmoepjfnfaaDoorMag
import Derived.Test.YtndofmoepjfnfaaDoorRdZ
import Derived.Test.YtndofmoepjfnfaaDoorMaf
import Derived.Test.YtndofmoepjfnfaaDoorStRow
import Derived.Test.YtndofmoepjfnfaaDoorMaa
import Derived.Deep.RegionHeld3
import Derived.Deep.DeepFit
import Derived.Deep.DeepCutAuto
import Derived.BigQuiet
import Derived.Deep.QuietTactic
import Derived.Test.YtndofmoepjfnfaaDoorChecked
import Derived.OwnWalk
import Derived.Handy
import Derived.WalkSpells
import Derived.WalkLawsBesides
namespace Go.Proofs.YtndofmoepjfnfaaDoor
open Go.RowKit
open Pt (Tx)

/-- the seal in a block -/
def sealObj (n x d p : Int) (A : Option Addr) (m C : Nat) : Obj := .cells #[.int .i64 n, .int .i64 x, .int .i64 d, .int .i64 p, .slice A m C] 43
theorem seal5 {w : World} {B : Nat} {n x d p : Int} {A : Option Addr} {m C : Nat} (h : w.heap[B]? = some (sealObj n x d p A m C)) :
    w.cell? ⟨B, 0, none⟩ = some (.int .i64 n) ∧ w.cell? ⟨B, 1, none⟩ = some (.int .i64 x) ∧ w.cell? ⟨B, 2, none⟩ = some (.int .i64 d) ∧ w.cell? ⟨B, 3, none⟩ = some (.int .i64 p) ∧ w.cell? ⟨B, 4, none⟩ = some (.slice A m C) :=
  ⟨heap_cell h, heap_cell h, heap_cell h, heap_cell h, heap_cell h⟩
theorem seal_free {w : World} {B : Nat} {n x d p : Int} {A : Option Addr} {m C : Nat} (h : w.heap[B]? = some (sealObj n x d p A m C)) :
    w.frozen? ⟨B, 0, none⟩ = false ∧ w.frozen? ⟨B, 1, none⟩ = false ∧ w.frozen? ⟨B, 2, none⟩ = false ∧ w.frozen? ⟨B, 3, none⟩ = false ∧ w.frozen? ⟨B, 4, none⟩ = false :=
  ⟨heap_frozen h, heap_frozen h, heap_frozen h, heap_frozen h, heap_frozen h⟩
theorem below_obj {o : Obj} {B : Nat} {x y : World} (hb : Below x.heap.size x y) (h : x.heap[B]? = some o) : y.heap[B]? = some o :=
  (hb.block B (by obtain ⟨hlt, _⟩ := Array.getElem?_eq_some_iff.1 h; exact hlt)).trans h
end Go.Proofs.YtndofmoepjfnfaaDoor

namespace Go.Proofs.YtndofmoepjfnfaaDoor
open Go.RowKit
open Pt (Tx)

/-- a seal as a value: where its labels lie, and how much room there is -/
structure Sx where
  s : Rc.S
  A : Option Addr
  C : Nat
def Sx.num (x : Sx) : Int := x.s.number
def Sx.enc (x : Sx) : List Value := [.int .i64 x.s.number, .int .i64 x.s.index, .int .i64 x.s.data, .int .i64 x.s.parity, .slice x.A x.s.labels.length x.C]
def Sx.val (x : Sx) : Value := .agg #[.int .i64 x.s.number, .int .i64 x.s.index, .int .i64 x.s.data, .int .i64 x.s.parity, .slice x.A x.s.labels.length x.C]
def encX : Enc Sx where
  k := 5
  pos := by decide
  enc := Sx.enc
  len _ := rfl
  one x u hu := by
    simp only [Sx.enc, List.mem_cons, List.not_mem_nil, or_false] at hu
    rcases hu with rfl | rfl | rfl | rfl | rfl <;> rfl
theorem infoSeal : (Tryd.prog.info? 43).map (fun i => (i.zero, i.size, i.bytes)) = some (some (.agg #[.int .i64 0, .int .i64 0, .int .i64 0, .int .i64 0, .slice none 0 0]), 5, 56) := by kernel_rfl
/-- its labels read, in a block of G -/
structure Sx.Ok (x : Sx) (w : World) (G : Nat → Prop) : Prop where
  le : x.s.labels.length ≤ x.C
  max : x.C ≤ maxLen
  nil : x.A = none → x.s.labels.length = 0 ∧ x.C = 0
  rd : RdZ w x.A x.s.labels G
theorem Sx.Ok.mono {x : Sx} {w : World} {G G' : Nat → Prop} (h : x.Ok w G) (hg : ∀ b, G b → G' b) : x.Ok w G' := ⟨h.le, h.max, h.nil, h.rd.mono hg⟩
theorem Sx.Ok.old {x : Sx} {w w' : World} {G : Nat → Prop} (h : x.Ok w G) (hb : Below w.heap.size w w') : x.Ok w' G := ⟨h.le, h.max, h.nil, h.rd.old hb⟩
theorem Sx.Ok.kp {x : Sx} {w w' : World} {G S : Nat → Prop} (h : x.Ok w G) (hk : Kp S w w') (hs : ∀ b, G b → ¬ S b) : x.Ok w' G := ⟨h.le, h.max, h.nil, h.rd.kp hk hs⟩
theorem Sx.Ok.in_ {x : Sx} {w : World} {G : Nat → Prop} (h : x.Ok w G) : x.Ok w (fun b => G b ∧ b < w.heap.size) := ⟨h.le, h.max, h.nil, h.rd.in_⟩
/-- in block g, from off on, lies this list of seals; it is no frozen one -/
def SitsX (w : World) (g off : Nat) (l : List Sx) : Prop :=
  ∃ cur : Array Value, w.heap[g]? = some (.cells cur 43 (0, 0)) ∧ off + l.length * 5 ≤ cur.size ∧ ∀ i (hi : i < l.length) j u, (l[i].enc)[j]? = some u → cur[off + i * 5 + j]? = some u
namespace SitsX
variable {w w' : World} {g off : Nat} {l : List Sx}
theorem at_ (h : SitsX w g off l) {i : Nat} (hi : i < l.length) : w.cell? ⟨g, off + i * 5, none⟩ = some (.int .i64 l[i].s.number) ∧ w.cell? ⟨g, off + i * 5 + 1, none⟩ = some (.int .i64 l[i].s.index) ∧ w.cell? ⟨g, off + i * 5 + 2, none⟩ = some (.int .i64 l[i].s.data)
    ∧ w.cell? ⟨g, off + i * 5 + 3, none⟩ = some (.int .i64 l[i].s.parity) ∧ w.cell? ⟨g, off + i * 5 + 4, none⟩ = some (.slice l[i].A l[i].s.labels.length l[i].C) := by
  obtain ⟨cur, hg, _, hc⟩ := h
  rw [heap_cell hg, heap_cell hg, heap_cell hg, heap_cell hg, heap_cell hg]
  exact ⟨hc i hi 0 _ rfl, hc i hi 1 _ rfl, hc i hi 2 _ rfl, hc i hi 3 _ rfl, hc i hi 4 _ rfl⟩
theorem free (h : SitsX w g off l) (k : Nat) : w.frozen? ⟨g, k, none⟩ = false := by
  obtain ⟨cur, hg, _⟩ := h
  exact heap_frozen hg
theorem lt (h : SitsX w g off l) : g < w.heap.size := by
  obtain ⟨cur, hg, _⟩ := h
  exact heap_lt hg
theorem block (h : SitsX w g off l) (e : w'.heap[g]? = w.heap[g]?) : SitsX w' g off l := by
  obtain ⟨cur, hg, hc⟩ := h
  exact ⟨cur, e.trans hg, hc⟩
theorem old (h : SitsX w g off l) (hb : Below w.heap.size w w') : SitsX w' g off l := h.block (hb.block g h.lt)
theorem drew (h : SitsX w g off l) : SitsX w.drew g off l := h
/-- one of them is stored into -/
theorem set (h : SitsX w g off l) {i : Nat} (hi : i < l.length) (x : Sx) :
    SitsX (((((w.setCell ⟨g, off + i * 5, none⟩ (.int .i64 x.s.number)).setCell ⟨g, off + i * 5 + 1, none⟩ (.int .i64 x.s.index)).setCell ⟨g, off + i * 5 + 2, none⟩ (.int .i64 x.s.data)).setCell ⟨g, off + i * 5 + 3, none⟩ (.int .i64 x.s.parity)).setCell ⟨g, off + i * 5 + 4, none⟩ (.slice x.A x.s.labels.length x.C)) g off (l.set i x) := by
  obtain ⟨cur, hg, hs, hc⟩ := h
  refine ⟨_, heap_set (heap_set (heap_set (heap_set (heap_set hg _) _) _) _) _, by simpa using hs, fun k hk j u hu => ?_⟩
  rw [List.length_set] at hk
  have hin : off + i * 5 + 5 ≤ cur.size := by
    have : (i + 1) * 5 ≤ l.length * 5 := Nat.mul_le_mul_right _ hi
    omega
  have hj : j < 5 := by
    have := (List.getElem?_eq_some_iff.1 hu).1
    simpa [Sx.enc] using this
  simp only [Array.getElem?_setIfInBounds, Array.size_setIfInBounds]
  by_cases e : k = i
  · subst e
    rw [List.getElem_set_self] at hu
    match j, hu, hj with
    | 0, hu, _ => cases hu; simp (disch := omega); omega
    | 1, hu, _ => cases hu; simp (disch := omega); omega
    | 2, hu, _ => cases hu; simp (disch := omega); omega
    | 3, hu, _ => cases hu; simp (disch := omega); omega
    | 4, hu, _ => cases hu; simp (disch := omega); omega
    | j + 5, _, hj => omega
  · rw [List.getElem_set_ne (fun h => e h.symm)] at hu
    rw [if_neg (by omega), if_neg (by omega), if_neg (by omega), if_neg (by omega), if_neg (by omega)]
    exact hc k hk j u hu
theorem kp_set (w : World) (g a b c d e : Nat) (u0 u1 u2 u3 u4 : Value) : Kp (· = g) w (((((w.setCell ⟨g, a, none⟩ u0).setCell ⟨g, b, none⟩ u1).setCell ⟨g, c, none⟩ u2).setCell ⟨g, d, none⟩ u3).setCell ⟨g, e, none⟩ u4) :=
  ((((Kp.store _ _ _ _).trans (Kp.store _ _ _ _)).trans (Kp.store _ _ _ _)).trans (Kp.store _ _ _ _)).trans (Kp.store _ _ _ _)
/-- as a row that reads -/
theorem rd (h : SitsX w g off l) {G : Nat → Prop} (hg : G g) : encX.Rd w (some ⟨g, off, none⟩) l G := fun hn => by
  obtain ⟨cur, hb, _, hc⟩ := h
  refine ⟨g, off, rfl, hg, fun i hi j u hu => ?_⟩
  rw [heap_cell hb]; exact hc i hi j u hu
theorem take (h : SitsX w g off l) (k : Nat) : SitsX w g off (l.take k) := by
  obtain ⟨cur, hb, hs, hc⟩ := h
  refine ⟨cur, hb, ?_, fun i hi j u hu => ?_⟩
  · rw [List.length_take]
    have : min k l.length * 5 ≤ l.length * 5 := Nat.mul_le_mul_right _ (Nat.min_le_right _ _)
    omega
  · rw [List.length_take] at hi
    rw [List.getElem_take] at hu
    exact hc i (by omega) j u hu
end SitsX
/-- a row that a call owns, as one that sits in a block -/
theorem sits_own {w : World} {base : Nat} {v : Value} {l : List Sx} (h : encX.Own w base 43 v l) : (v = .slice none 0 0 ∧ l = []) ∨ ∃ g C, v = .slice (some ⟨g, 0, none⟩) l.length C ∧ l.length ≤ C ∧ C ≤ maxLen ∧ base ≤ g ∧ SitsX w g 0 l := by
  rcases h.2 with ⟨rfl, h0⟩ | ⟨g, cap, cur, rfl, hb, hg, hnc, hcm, hs, ht⟩
  · exact .inl ⟨rfl, List.length_eq_zero_iff.1 h0⟩
  · refine .inr ⟨g, cap, rfl, hnc, hcm, hb, cur, hg, ?_, fun i hi j u hu => ?_⟩
    · rw [hs, Nat.zero_add]; exact Nat.mul_le_mul_right _ hnc
    · have hj : j < 5 := by
        have := (List.getElem?_eq_some_iff.1 hu).1
        simpa [Sx.enc] using this
      have hx := encX.cells_get l i j hj hi
      have hlt : i * 5 + j < l.length * 5 := by
        have h1 : (i + 1) * 5 ≤ l.length * 5 := Nat.mul_le_mul_right _ hi
        omega
      rw [← ht, List.getElem?_take] at hx
      have e5 : encX.k = 5 := rfl
      rw [e5, if_pos hlt, Array.getElem?_toList] at hx
      rw [Nat.zero_add, hx]; exact hu
end Go.Proofs.YtndofmoepjfnfaaDoor
namespace Go.Proofs.YtndofmoepjfnfaaDoor
open Go.RowKit
open Pt (Tx)

/-- how many have a label -/
def Wk.cnt (ls : List Int) (x : Int) : Int := (ls.count x : Int)
theorem Wk.cnt_snoc (ls : List Int) (y x : Int) : Wk.cnt (ls ++ [y]) x = if x = y then Wk.cnt ls y + 1 else Wk.cnt ls x := by
  unfold Wk.cnt
  rw [List.count_append]
  by_cases h : x = y
  · subst h; simp
  · rw [if_neg h, List.count_cons_of_ne (fun e => h e.symm)]; simp
theorem Wk.cnt_le (ls : List Int) (x : Int) : 0 ≤ Wk.cnt ls x ∧ Wk.cnt ls x ≤ (ls.length : Int) := by
  unfold Wk.cnt
  have := List.count_le_length (a := x) (l := ls)
  omega
/-- all labels of seals -/
def Wk.flat (ss : List Rc.S) : List Int := ss.flatMap Rc.S.labels
theorem Wk.flat_take {ss : List Rc.S} {k : Nat} (h : k < ss.length) : Wk.flat (ss.take (k + 1)) = Wk.flat (ss.take k) ++ ss[k].labels := by
  unfold Wk.flat
  rw [List.take_succ_eq_append_getElem h, List.flatMap_append]; simp
theorem Wk.flat_le (ss : List Rc.S) (k : Nat) : (Wk.flat (ss.take k)).length ≤ (Wk.flat ss).length := by
  have h : Wk.flat ss = Wk.flat (ss.take k) ++ Wk.flat (ss.drop k) := by unfold Wk.flat; rw [← List.flatMap_append, List.take_append_drop]
  rw [h, List.length_append]; omega
theorem Wk.wf_nat {n : Nat} (h : n ≤ 2000000) : wfZ (n : Int) := by unfold wfZ; exact WalkArith.wf_i64 (by omega)
def MemP (ss : List Rc.S) (w : World) (e : Ending) (w' : World) : Prop := ∃ b n, e = .returned (.map (some b)) ∧ MpZ w' b n (Wk.cnt (Wk.flat ss)) ∧ Below w.heap.size w w'
set_option maxRecDepth 100000 in
set_option maxHeartbeats 8000000 in
theorem membersOf_any (A : Option Addr) (xs : List Sx) (m C : Nat) (G : Nat → Prop) (w : World) (hm : m = xs.length) (hmm : m ≤ 1000) (hr : encX.Rd w A xs G) (hok : ∀ x ∈ xs, x.Ok w (fun _ => True)) (hwf : ∀ x ∈ xs, ∀ l ∈ x.s.labels, wfZ l) (hfl : (Wk.flat (xs.map Sx.s)).length ≤ 1000000) :
    Calls Tryd.prog 26 #[.slice A m C] w (MemP (xs.map Sx.s) w) := by
  have hmm' := @run_makeMap Tryd.prog
  obtain ⟨w1, hw1⟩ : ∃ x, x = w.alloc (.map #[] 0) := ⟨_, rfl⟩
  have b1 : Below w.heap.size w w1 := by rw [hw1]; exact (Below.refl _ _).alloc (Nat.le_refl _) _
  have HM0 : Hid (MpZ w1 w.heap.size (Wk.flat ((xs.map Sx.s).take 0)).length (Wk.cnt (Wk.flat ((xs.map Sx.s).take 0)))) := Lib.hid (by rw [hw1]; exact (MpZ.made w).congr fun k _ => rfl)
  have HB1 := Lib.hid b1
  have HW1 := Lib.hid hw1
  have HR := Lib.hid hr
  have HM := Lib.hid hm
  have HOK := Lib.hid hok
  have HWF := Lib.hid hwf
  have HFL := Lib.hid hfl
  clear hr hm hok hwf hfl hw1 b1
  go_enter Tryd.func26, Tryd.ntmps26
  go_wp2_with fail
  rw [← HW1.out]
  go_loopw [11] (fun vi wr => ∃ (k : Nat), k ≤ m ∧ vi = .int .i64 (k : Int) ∧ Hid (MpZ wr w.heap.size (Wk.flat ((xs.map Sx.s).take k)).length (Wk.cnt (Wk.flat ((xs.map Sx.s).take k)))) ∧ Hid (Below w.heap.size w wr)) (fun vi _ => m - (intOf vi).toNat)
  case atStart => exact ⟨0, Nat.zero_le _, rfl, HM0, HB1⟩
  case round =>
    obtain ⟨k, hk, rfl, HP, HB⟩ := hrel
    by_cases hlt : k < m
    · have e1 : decide (k < m) = true := decide_eq_true hlt
      have hlx : k < xs.length := by rw [← HM.out]; exact hlt
      have hlm : k < (xs.map Sx.s).length := by rw [List.length_map]; exact hlx
      obtain ⟨b, off, rfl, -, hc⟩ := (HR.out.old HB.out).at_ hlx
      have hok := HOK.out _ (List.getElem_mem hlx)
      have hwf := HWF.out _ (List.getElem_mem hlx)
      have hft := Wk.flat_take hlm
      have hfl := Wk.flat_le (xs.map Sx.s) (k + 1)
      rw [hft, List.length_append] at hfl
      have hflt := HFL.out
      have e2 : (xs.map Sx.s)[k] = xs[k].s := by rw [List.getElem_map]
      rw [e2] at hft hfl
      have c0 := hc 0 _ rfl
      have c1 := hc 1 _ rfl
      have c2 := hc 2 _ rfl
      have c3 := hc 3 _ rfl
      have c4 := hc 4 _ rfl
      obtain ⟨x, hx⟩ : ∃ x, x = xs[k] := ⟨_, rfl⟩
      rw [← hx] at c0 c1 c2 c3 c4 hok hwf hft hfl
      obtain ⟨⟨sn, si, sd, sp, labs⟩, Az, Cz⟩ := x
      have a0 : wr.cell? ⟨b, off + k * 5, none⟩ = some (.int .i64 sn) := c0
      have a1 : wr.cell? ⟨b, off + k * 5 + 1, none⟩ = some (.int .i64 si) := c1
      have a2 : wr.cell? ⟨b, off + k * 5 + 2, none⟩ = some (.int .i64 sd) := c2
      have a3 : wr.cell? ⟨b, off + k * 5 + 3, none⟩ = some (.int .i64 sp) := c3
      have a4 : wr.cell? ⟨b, off + k * 5 + 4, none⟩ = some (.slice Az labs.length Cz) := c4
      dsimp only at hok hwf hft hfl
      obtain ⟨N, hN⟩ : ∃ N, N = labs.length := ⟨_, rfl⟩
      obtain ⟨Q, hQ⟩ : ∃ Q, Q = (Wk.flat ((xs.map Sx.s).take k)).length := ⟨_, rfl⟩
      rw [← hN] at a4
      have hQN : Q + N ≤ 1000000 := by rw [hQ, hN]; omega
      obtain ⟨fl, hfl'⟩ : ∃ fl, fl = Wk.flat ((xs.map Sx.s).take k) := ⟨_, rfl⟩
      rw [← hfl'] at HP hft hQ
      rw [← hQ] at HP
      obtain ⟨wo, hwo⟩ : ∃ x, x = wr.alloc (sealObj sn si sd sp Az N Cz) := ⟨_, rfl⟩
      have hbo : Below wr.heap.size wr wo := by rw [hwo]; exact (Below.refl _ _).alloc (Nat.le_refl _) _
      have hko : wo.heap[wr.heap.size]? = some (sealObj sn si sd sp Az N Cz) := by rw [hwo]; exact Go.Deep.blk_alloc_new _ _
      have HWO : Hid (wo = wr.alloc (.cells #[.int .i64 sn, .int .i64 si, .int .i64 sd, .int .i64 sp, .slice Az N Cz] 43)) := Lib.hid hwo
      have HBO := Lib.hid (HB.out.trans (hbo.mono HB.out.size))
      have HPO := Lib.hid (HP.out.old hbo)
      have HRD := Lib.hid hok.rd
      have HWFL := Lib.hid hwf
      have HN := Lib.hid hN
      have HQ := Lib.hid hQ
      have HFT := Lib.hid hft
      obtain ⟨-, -, -, -, x4⟩ := seal5 hko
      clear hwo hbo hko hok hwf hN hQ hft hfl hflt c0 c1 c2 c3 c4 e2 hx hc hfl' hlx hlm
      go_upto_region 5 with fail
      rw [← HWO.out]
      clear a0 a1 a2 a3 a4
      go_wp2
      clear x4
      go_loopw [18] (fun vj wr => ∃ (j : Nat), j ≤ N ∧ vj = .int .i64 (j : Int) ∧ Hid (MpZ wr w.heap.size (Q + j) (Wk.cnt (fl ++ labs.take j))) ∧ Hid (Below w.heap.size w wr)) (fun vj _ => N - (intOf vj).toNat)
      case atStart => exact ⟨0, Nat.zero_le _, rfl, Lib.hid (by rw [List.take_zero, List.append_nil]; exact HPO.out), HBO⟩
      case round =>
        obtain ⟨j, hj, rfl, HPJ, HBJ⟩ := hrel
        by_cases hlj : j < N
        · have e2 : decide (j < N) = true := decide_eq_true hlj
          have hjl : j < labs.length := by rw [← HN.out]; exact hlj
          obtain ⟨b5, off5, rfl, -, d0⟩ := (HRD.out.old HBJ.out).at_ hjl
          obtain ⟨y, hy⟩ : ∃ y, y = labs[j] := ⟨_, rfl⟩
          have hwy : wfZ y := by rw [hy]; exact HWFL.out _ (List.getElem_mem hjl)
          rw [← hy] at d0
          obtain ⟨c, hc⟩ : ∃ c, c = Wk.cnt (fl ++ labs.take j) y := ⟨_, rfl⟩
          have hcb := Wk.cnt_le (fl ++ labs.take j) y
          rw [← hc, List.length_append, List.length_take, ← HQ.out] at hcb
          have hcl : 0 ≤ c ∧ c ≤ 1000000 := by omega
          have hwr : IntKind.i64.wrap (c + 1) = c + 1 := IntWalk.i64_in _ (by omega)
          have hwc : wfZ (c + 1) := by
            have := Wk.wf_nat (n := (c + 1).toNat) (by omega)
            rwa [show (((c + 1).toNat : Nat) : Int) = c + 1 by omega] at this
          have hlm : Q + j < maxLen := by unfold maxLen; omega
          have hlk : (Instr.lookup 71 (.map (some w.heap.size)) (.int .i64 y) false).run Tryd.prog wr = .ok (.int .i64 c) wr := by rw [hc]; exact HPJ.out.look hwy
          obtain ⟨w2, hup, hm2, hg2⟩ := HPJ.out.put hlm hwy hwc
          have HM2 : Hid (MpZ w2 w.heap.size (Q + (j + 1)) (Wk.cnt (fl ++ labs.take (j + 1)))) := Lib.hid (hm2.congr fun q _ => by
            rw [List.take_succ_eq_append_getElem hjl, ← List.append_assoc, ← hy, Wk.cnt_snoc, ← hc])
          have HB2 := Lib.hid (HBJ.out.grown hg2 HBJ.out.size fun q hq => by cases hq; exact Nat.le_refl _)
          clear hy hc hcb hcl hm2 hg2 hwy hwc hjl
          go_wp2
          go_roundw
          case rel => exact ⟨j + 1, by omega, by go_num, HM2, HB2⟩
          case measure => simp [intOf]; omega
        · have e2 : decide (j < N) = false := decide_eq_false hlj
          have hjn : j = N := by omega
          have HPN : Hid (MpZ wr w.heap.size (Wk.flat ((xs.map Sx.s).take (k + 1))).length (Wk.cnt (Wk.flat ((xs.map Sx.s).take (k + 1))))) := Lib.hid (by
            have h := HPJ.out
            rw [hjn, HN.out, List.take_length, ← HFT.out] at h
            have e3 : Q + labs.length = (Wk.flat ((xs.map Sx.s).take (k + 1))).length := by rw [HFT.out, List.length_append, HQ.out]
            rw [e3] at h
            exact h)
          clear hjn
          go_wp2
          go_roundw
          case rel => exact ⟨k + 1, by omega, by go_num, HPN, HBJ⟩
          case measure => simp [intOf]; omega
    · have e1 : decide (k < m) = false := decide_eq_false hlt
      have hall : (xs.map Sx.s).take k = xs.map Sx.s := List.take_of_length_le (by rw [List.length_map, ← HM.out]; omega)
      rw [hall] at HP
      go_wp2
      go_ret
      exact ⟨_, _, rfl, HP.out, HB.out⟩
end Go.Proofs.YtndofmoepjfnfaaDoor
namespace Go.Proofs.YtndofmoepjfnfaaDoor
open Go.RowKit

/-- a tape in a block -/
def tapeObj (lab cap : Int) (A : Option Addr) (n C : Nat) (lost : Bool) : Obj := .cells #[.int .i64 lab, .int .i64 cap, .slice A n C, .bool lost] 35
theorem tape4 {w : World} {g : Nat} {lab cap : Int} {A : Option Addr} {n C : Nat} {lost : Bool} (h : w.heap[g]? = some (tapeObj lab cap A n C lost)) :
    w.cell? ⟨g, 0, none⟩ = some (.int .i64 lab) ∧ w.cell? ⟨g, 1, none⟩ = some (.int .i64 cap) ∧ w.cell? ⟨g, 2, none⟩ = some (.slice A n C) ∧ w.cell? ⟨g, 3, none⟩ = some (.bool lost) := ⟨heap_cell h, heap_cell h, heap_cell h, heap_cell h⟩
theorem below_tape {lab cap : Int} {A : Option Addr} {n C : Nat} {lost : Bool} {B : Nat} {x y : World} (hb : Below x.heap.size x y) (h : x.heap[B]? = some (tapeObj lab cap A n C lost)) : y.heap[B]? = some (tapeObj lab cap A n C lost) :=
  (hb.block B (heap_lt h)).trans h
theorem tape_new (w : World) (lab cap : Int) (A : Option Addr) (n C : Nat) (lost : Bool) : Below w.heap.size w (w.alloc (tapeObj lab cap A n C lost)) ∧ (w.alloc (tapeObj lab cap A n C lost)).heap[w.heap.size]? = some (tapeObj lab cap A n C lost) :=
  ⟨(Below.refl _ _).alloc (Nat.le_refl _) _, Go.Deep.blk_alloc_new _ _⟩
end Go.Proofs.YtndofmoepjfnfaaDoor
