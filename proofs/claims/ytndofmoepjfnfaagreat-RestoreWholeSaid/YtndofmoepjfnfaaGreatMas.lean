/- Parts and files in a row: a part in ten cells, a file in seven, its parts in a row of their own. No function of the program. The spot of a file's first part, as restore tells it. A list sorted by a number, stably; and the first of each number alone: what a stable sort and a compaction make is what is put in one by one. No program. What between of package record answers. A row of numbers in memory as a list. No function of the program. -/
import Derived.Test.YtndofmoepjfnfaaGreatMaf
import Derived.Test.YtndofmoepjfnfaaGreatMar
import Derived.Test.YtndofmoepjfnfaaGreatMai
import Derived.Test.YtndofmoepjfnfaaGreatMad
import Derived.Test.YtndofmoepjfnfaaGreatChecked
import Derived.OwnWalk
import Derived.Handy
import Derived.WalkSpells
import Derived.WalkLawsBesides
import Derived.Test.YtndofmoepjfnfaaGreatMab
import Derived.Test.YtndofmoepjfnfaaGreatRows
namespace Go.Proofs.YtndofmoepjfnfaaGreat
open Go.RowKit
open Pt (Tx)

def encQ : Enc Ct.P where
  k := 10
  pos := by decide
  enc p := cells10 p.h p.lab p.at_
  len _ := rfl
  one q u hu := by
    simp only [cells10, List.mem_cons, List.not_mem_nil, or_false] at hu
    rcases hu with rfl | rfl | rfl | rfl | rfl | rfl | rfl | rfl | rfl | rfl <;> rfl
/-- the parts of one tape among those of any -/
theorem rdQ_of {w : World} {A : Option Addr} {lab : Int} {l : List (Rc.H × Nat)} {G : Nat → Prop} (h : (encP lab).Rd w A l G) : encQ.Rd w A (l.map fun q => (⟨q.1, lab, (q.2 : Int)⟩ : Ct.P)) G := fun hn => by
  rw [List.length_map] at hn
  obtain ⟨b, off, e, hg, hc⟩ := h hn
  refine ⟨b, off, e, hg, fun i hi j u hu => ?_⟩
  rw [List.length_map] at hi
  rw [List.getElem_map] at hu
  exact hc i hi j u hu
/-- the ten cells of a part -/
def Ten (w : World) (g o : Nat) (p : Ct.P) : Prop := w.cell? ⟨g, o, none⟩ = some (.string (tx p.h.path)) ∧ w.cell? ⟨g, o + 1, none⟩ = some (.int .i64 p.h.version) ∧ w.cell? ⟨g, o + 2, none⟩ = some (.int .i64 p.h.size) ∧ w.cell? ⟨g, o + 3, none⟩ = some (.int .i64 p.h.from_) ∧ w.cell? ⟨g, o + 4, none⟩ = some (.int .i64 p.h.len)
  ∧ w.cell? ⟨g, o + 5, none⟩ = some (.int .i64 p.h.serial) ∧ w.cell? ⟨g, o + 6, none⟩ = some (.int .i64 p.h.sum) ∧ w.cell? ⟨g, o + 7, none⟩ = some (.bool p.h.gone) ∧ w.cell? ⟨g, o + 8, none⟩ = some (.int .i64 p.lab) ∧ w.cell? ⟨g, o + 9, none⟩ = some (.int .i64 p.at_)
theorem Ten.old {w w' : World} {g o : Nat} {p : Ct.P} (h : Ten w g o p) (hb : Below w.heap.size w w') : Ten w' g o p := by
  obtain ⟨h0, h1, h2, h3, h4, h5, h6, h7, h8, h9⟩ := h
  have hl := World.block_lt_of_cell? _ _ h0
  exact ⟨(hb.cell hl).trans h0, (hb.cell (p := ⟨g, o + 1, none⟩) hl).trans h1, (hb.cell (p := ⟨g, o + 2, none⟩) hl).trans h2, (hb.cell (p := ⟨g, o + 3, none⟩) hl).trans h3, (hb.cell (p := ⟨g, o + 4, none⟩) hl).trans h4, (hb.cell (p := ⟨g, o + 5, none⟩) hl).trans h5, (hb.cell (p := ⟨g, o + 6, none⟩) hl).trans h6, (hb.cell (p := ⟨g, o + 7, none⟩) hl).trans h7, (hb.cell (p := ⟨g, o + 8, none⟩) hl).trans h8, (hb.cell (p := ⟨g, o + 9, none⟩) hl).trans h9⟩
theorem ten_of {w : World} {A : Option Addr} {l : List Ct.P} {G : Nat → Prop} (h : encQ.Rd w A l G) {i : Nat} (hi : i < l.length) : ∃ b off, A = some ⟨b, off, none⟩ ∧ G b ∧ Ten w b (off + i * 10) l[i] := by
  obtain ⟨b, off, e, hg, hc⟩ := h.at_ hi
  exact ⟨b, off, e, hg, hc 0 _ rfl, hc 1 _ rfl, hc 2 _ rfl, hc 3 _ rfl, hc 4 _ rfl, hc 5 _ rfl, hc 6 _ rfl, hc 7 _ rfl, hc 8 _ rfl, hc 9 _ rfl⟩
/-- a part in a block of its own -/
def partO (p : Ct.P) : Obj := partObj p.h.path p.h.version p.h.size p.h.from_ p.h.len p.h.serial p.h.sum p.h.gone p.lab p.at_
/-- a file as a value: where its parts lie, and how much room there is -/
structure Fx where
  f : Ct.F
  A : Option Addr
  C : Nat
def Fx.enc (x : Fx) : List Value := [.string (tx x.f.path), .int .i64 x.f.version, .int .i64 x.f.size, .int .i64 x.f.sum, .int .i64 x.f.serial, .bool x.f.gone, .slice x.A x.f.parts.length x.C]
def Fx.val (x : Fx) : Value := .agg #[.string (tx x.f.path), .int .i64 x.f.version, .int .i64 x.f.size, .int .i64 x.f.sum, .int .i64 x.f.serial, .bool x.f.gone, .slice x.A x.f.parts.length x.C]
def encF : Enc Fx where
  k := 7
  pos := by decide
  enc := Fx.enc
  len _ := rfl
  one x u hu := by
    simp only [Fx.enc, List.mem_cons, List.not_mem_nil, or_false] at hu
    rcases hu with rfl | rfl | rfl | rfl | rfl | rfl | rfl <;> rfl
def zeroF : Value := .agg #[.string ⟨#[]⟩, .int .i64 0, .int .i64 0, .int .i64 0, .int .i64 0, .bool false, .slice none 0 0]
theorem infoFile : (Tryz.prog.info? 45).map (fun i => (i.zero, i.size, i.bytes)) = some (some zeroF, 7, 80) := by kernel_rfl
/-- its parts read, in a block of G -/
structure Fx.Ok (x : Fx) (w : World) (G : Nat → Prop) : Prop where
  le : x.f.parts.length ≤ x.C
  max : x.C ≤ maxLen
  nil : x.A = none → x.f.parts.length = 0 ∧ x.C = 0
  rd : encQ.Rd w x.A x.f.parts G
theorem Fx.Ok.mono {x : Fx} {w : World} {G G' : Nat → Prop} (h : x.Ok w G) (hg : ∀ b, G b → G' b) : x.Ok w G' := ⟨h.le, h.max, h.nil, h.rd.mono hg⟩
theorem Fx.Ok.old {x : Fx} {w w' : World} {G : Nat → Prop} (h : x.Ok w G) (hb : Below w.heap.size w w') : x.Ok w' G := ⟨h.le, h.max, h.nil, h.rd.old hb⟩
theorem Fx.Ok.kp {x : Fx} {w w' : World} {G S : Nat → Prop} (h : x.Ok w G) (hk : Kp S w w') (hs : ∀ b, G b → ¬ S b) : x.Ok w' G := ⟨h.le, h.max, h.nil, h.rd.kp hk hs⟩
/-- in block g, from off on, lies this list of files; it is no frozen one -/
def SitsF (w : World) (g off : Nat) (l : List Fx) : Prop :=
  ∃ cur : Array Value, w.heap[g]? = some (.cells cur 45 (0, 0)) ∧ off + l.length * 7 ≤ cur.size ∧ ∀ i (hi : i < l.length) j u, (l[i].enc)[j]? = some u → cur[off + i * 7 + j]? = some u
/-- the seven cells of one of them -/
def Seven (w : World) (g o : Nat) (P : Tx) (v z s r : Int) (b : Bool) (A : Option Addr) (m C : Nat) : Prop := w.cell? ⟨g, o, none⟩ = some (.string (tx P)) ∧ w.cell? ⟨g, o + 1, none⟩ = some (.int .i64 v) ∧ w.cell? ⟨g, o + 2, none⟩ = some (.int .i64 z) ∧ w.cell? ⟨g, o + 3, none⟩ = some (.int .i64 s) ∧ w.cell? ⟨g, o + 4, none⟩ = some (.int .i64 r) ∧ w.cell? ⟨g, o + 5, none⟩ = some (.bool b) ∧ w.cell? ⟨g, o + 6, none⟩ = some (.slice A m C)
theorem Seven.old {w w' : World} {g o : Nat} {P : Tx} {v z s r : Int} {b : Bool} {A : Option Addr} {m C : Nat} (h : Seven w g o P v z s r b A m C) (hb : Below w.heap.size w w') : Seven w' g o P v z s r b A m C := by
  obtain ⟨h0, h1, h2, h3, h4, h5, h6⟩ := h
  have hl := World.block_lt_of_cell? _ _ h0
  exact ⟨(hb.cell hl).trans h0, (hb.cell (p := ⟨g, o + 1, none⟩) hl).trans h1, (hb.cell (p := ⟨g, o + 2, none⟩) hl).trans h2, (hb.cell (p := ⟨g, o + 3, none⟩) hl).trans h3, (hb.cell (p := ⟨g, o + 4, none⟩) hl).trans h4, (hb.cell (p := ⟨g, o + 5, none⟩) hl).trans h5, (hb.cell (p := ⟨g, o + 6, none⟩) hl).trans h6⟩
namespace SitsF
variable {w w' : World} {g off : Nat} {l : List Fx}
theorem seven (h : SitsF w g off l) {i : Nat} (hi : i < l.length) {x : Fx} (hx : l[i] = x) : Seven w g (off + i * 7) x.f.path x.f.version x.f.size x.f.sum x.f.serial x.f.gone x.A x.f.parts.length x.C := by
  subst hx
  obtain ⟨cur, hg, _, hc⟩ := h
  unfold Seven
  rw [heap_cell hg, heap_cell hg, heap_cell hg, heap_cell hg, heap_cell hg, heap_cell hg, heap_cell hg]
  exact ⟨hc i hi 0 _ rfl, hc i hi 1 _ rfl, hc i hi 2 _ rfl, hc i hi 3 _ rfl, hc i hi 4 _ rfl, hc i hi 5 _ rfl, hc i hi 6 _ rfl⟩
theorem free (h : SitsF w g off l) (k : Nat) : w.frozen? ⟨g, k, none⟩ = false := by
  obtain ⟨cur, hg, _⟩ := h
  exact heap_frozen hg
theorem lt (h : SitsF w g off l) : g < w.heap.size := by
  obtain ⟨cur, hg, _⟩ := h
  exact heap_lt hg
theorem block (h : SitsF w g off l) (e : w'.heap[g]? = w.heap[g]?) : SitsF w' g off l := by
  obtain ⟨cur, hg, hc⟩ := h
  exact ⟨cur, e.trans hg, hc⟩
theorem old (h : SitsF w g off l) (hb : Below w.heap.size w w') : SitsF w' g off l := h.block (hb.block g h.lt)
theorem drew (h : SitsF w g off l) : SitsF w.drew g off l := h
theorem some_ (h : SitsF w g off l) {k : Nat} (hk : k < off + l.length * 7) : (w.cell? ⟨g, k, none⟩).isSome = true := by
  obtain ⟨cur, hb, hs, _⟩ := h
  rw [heap_cell hb, Array.getElem?_eq_getElem (by omega)]; rfl
/-- one of them is stored into -/
theorem set (h : SitsF w g off l) {i : Nat} (hi : i < l.length) (x : Fx) :
    SitsF (((((((w.setCell ⟨g, off + i * 7, none⟩ (.string (tx x.f.path))).setCell ⟨g, off + i * 7 + 1, none⟩ (.int .i64 x.f.version)).setCell ⟨g, off + i * 7 + 2, none⟩ (.int .i64 x.f.size)).setCell ⟨g, off + i * 7 + 3, none⟩ (.int .i64 x.f.sum)).setCell ⟨g, off + i * 7 + 4, none⟩ (.int .i64 x.f.serial)).setCell ⟨g, off + i * 7 + 5, none⟩ (.bool x.f.gone)).setCell ⟨g, off + i * 7 + 6, none⟩ (.slice x.A x.f.parts.length x.C)) g off (l.set i x) := by
  obtain ⟨cur, hg, hs, hc⟩ := h
  refine ⟨_, heap_set (heap_set (heap_set (heap_set (heap_set (heap_set (heap_set hg _) _) _) _) _) _) _, by simpa using hs, fun k hk j u hu => ?_⟩
  rw [List.length_set] at hk
  have hin : off + i * 7 + 7 ≤ cur.size := by
    have : (i + 1) * 7 ≤ l.length * 7 := Nat.mul_le_mul_right _ hi
    omega
  have hj : j < 7 := by
    have := (List.getElem?_eq_some_iff.1 hu).1
    simpa [Fx.enc] using this
  simp only [Array.getElem?_setIfInBounds, Array.size_setIfInBounds]
  by_cases e : k = i
  · subst e
    rw [List.getElem_set_self] at hu
    match j, hu, hj with
    | 0, hu, _ => cases hu; simp (disch := omega); omega
    | 1, hu, _ => cases hu; simp (disch := omega); omega
    | 2, hu, _ => cases hu; simp (disch := omega); omega
    | 3, hu, _ => cases hu; simp (disch := omega); omega
    | 4, hu, _ => cases hu; simp (disch := omega); omega
    | 5, hu, _ => cases hu; simp (disch := omega); omega
    | 6, hu, _ => cases hu; simp (disch := omega); omega
    | j + 7, _, hj => omega
  · rw [List.getElem_set_ne (fun h => e h.symm)] at hu
    rw [if_neg (by omega), if_neg (by omega), if_neg (by omega), if_neg (by omega), if_neg (by omega), if_neg (by omega), if_neg (by omega)]
    exact hc k hk j u hu
theorem kp_set (w : World) (g a b c d e f h : Nat) (u0 u1 u2 u3 u4 u5 u6 : Value) : Kp (· = g) w (((((((w.setCell ⟨g, a, none⟩ u0).setCell ⟨g, b, none⟩ u1).setCell ⟨g, c, none⟩ u2).setCell ⟨g, d, none⟩ u3).setCell ⟨g, e, none⟩ u4).setCell ⟨g, f, none⟩ u5).setCell ⟨g, h, none⟩ u6) :=
  (((((((Kp.store _ _ _ _).trans (Kp.store _ _ _ _)).trans (Kp.store _ _ _ _)).trans (Kp.store _ _ _ _)).trans (Kp.store _ _ _ _)).trans (Kp.store _ _ _ _)).trans (Kp.store _ _ _ _))
/-- as a row that reads -/
theorem rd (h : SitsF w g off l) {G : Nat → Prop} (hg : G g) : encF.Rd w (some ⟨g, off, none⟩) l G := fun hn => by
  obtain ⟨cur, hb, _, hc⟩ := h
  refine ⟨g, off, rfl, hg, fun i hi j u hu => ?_⟩
  rw [heap_cell hb]; exact hc i hi j u hu
theorem take (h : SitsF w g off l) (k : Nat) : SitsF w g off (l.take k) := by
  obtain ⟨cur, hb, hs, hc⟩ := h
  refine ⟨cur, hb, ?_, fun i hi j u hu => ?_⟩
  · rw [List.length_take]
    have : min k l.length * 7 ≤ l.length * 7 := Nat.mul_le_mul_right _ (Nat.min_le_right _ _)
    omega
  · rw [List.length_take] at hi
    rw [List.getElem_take] at hu
    exact hc i (by omega) j u hu
end SitsF
/-- a row that a call owns, as one that sits in a block -/
theorem sitsF_own {w : World} {base : Nat} {v : Value} {l : List Fx} (h : encF.Own w base 45 v l) : (v = .slice none 0 0 ∧ l = []) ∨ ∃ g C, v = .slice (some ⟨g, 0, none⟩) l.length C ∧ l.length ≤ C ∧ C ≤ maxLen ∧ base ≤ g ∧ SitsF w g 0 l := by
  rcases h.2 with ⟨rfl, h0⟩ | ⟨g, cap, cur, rfl, hb, hg, hnc, hcm, hs, ht⟩
  · exact .inl ⟨rfl, List.length_eq_zero_iff.1 h0⟩
  · refine .inr ⟨g, cap, rfl, hnc, hcm, hb, cur, hg, ?_, fun i hi j u hu => ?_⟩
    · rw [hs, Nat.zero_add]; exact Nat.mul_le_mul_right _ hnc
    · have hj : j < 7 := by
        have := (List.getElem?_eq_some_iff.1 hu).1
        simpa [Fx.enc] using this
      have hx := encF.cells_get l i j hj hi
      have hlt : i * 7 + j < l.length * 7 := by
        have h1 : (i + 1) * 7 ≤ l.length * 7 := Nat.mul_le_mul_right _ hi
        omega
      rw [← ht, List.getElem?_take] at hx
      have e5 : encF.k = 7 := rfl
      rw [e5, if_pos hlt, Array.getElem?_toList] at hx
      rw [Nat.zero_add, hx]; exact hu
end Go.Proofs.YtndofmoepjfnfaaGreat
namespace Go.Proofs.YtndofmoepjfnfaaGreat
open Go.RowKit
open Pt (Tx)

def Rs.spotP (ps : List Ct.P) : Int × Int := match ps with
  | [] => (0, 0)
  | p :: _ => (p.lab, p.at_)
theorem spot_parts (f : Ct.F) : Rs.spot f = Rs.spotP f.parts := by
  unfold Rs.spot Rs.spotP
  cases f.parts <;> rfl
set_option maxRecDepth 100000 in
set_option maxHeartbeats 2000000 in
theorem firstHead_any (A : Option Addr) (ps : List Ct.P) (n C : Nat) (G : Nat → Prop) (w : World) (hn : n = ps.length) (hr : encQ.Rd w A ps G) :
    Calls Tryz.prog 26 #[.slice A n C] w (fun e w' => e = .returned (.agg #[.int .i64 (Rs.spotP ps).1, .int .i64 (Rs.spotP ps).2]) ∧ Below w.heap.size w w') := by
  obtain ⟨w0, hw0⟩ : ∃ w0, w0 = w.alloc (.cells #[.int .i64 0, .int .i64 0] 39) := ⟨_, rfl⟩
  have b0 : Below w.heap.size w w0 := by rw [hw0]; exact (Below.refl _ _).alloc (Nat.le_refl _) _
  have k0 : w0.heap[w.heap.size]? = some (.cells #[.int .i64 0, .int .i64 0] 39 (0, 0)) := by rw [hw0]; exact Go.Deep.blk_alloc_new _ _
  have HB := Lib.hid b0
  have HK := Lib.hid k0
  have HW : Hid (w0 = w.alloc (.cells #[.int .i64 0, .int .i64 0] 39)) := Lib.hid hw0
  have f0 : ∀ j, w0.frozen? ⟨w.heap.size, j, none⟩ = false := fun j => heap_frozen k0
  have c0 : w0.cell? ⟨w.heap.size, 0, none⟩ = some (.int .i64 0) := heap_cell k0
  have c1 : w0.cell? ⟨w.heap.size, 1, none⟩ = some (.int .i64 0) := heap_cell k0
  clear hw0 b0 k0
  cases ps with
  | nil =>
    have hn' : n = 0 := hn
    subst hn'
    clear hr hn
    show Calls _ _ _ _ (fun e w' => e = .returned (.agg #[.int .i64 0, .int .i64 0]) ∧ Below w.heap.size w w')
    go_enter Tryz.func26, Tryz.ntmps26
    go_upto_region 1 with fail
    rw [← HW.out]
    go_wp2
    have h := spot_set HK.out 0 0
    have z0 := heap_cell (j := 0) h
    have z1 := heap_cell (j := 1) h
    refine bodyPost_ret (v := .agg #[.int .i64 0, .int .i64 0]) (by simp [results, Tryz.results26, go_sem, z0, z1]) rfl ⟨rfl, HB.out.trans ((spot_kp w0 w.heap.size _ _).below HB.out.size fun j hj => by omega)⟩
  | cons p ps =>
    obtain ⟨b, off, rfl, -, t⟩ := ten_of hr (i := 0) (by simp)
    have t8 : w.cell? ⟨b, off + 8, none⟩ = some (.int .i64 p.lab) := by
      obtain ⟨-, -, -, -, -, -, -, -, h8, -⟩ := t
      simpa using h8
    have t9 : w.cell? ⟨b, off + 9, none⟩ = some (.int .i64 p.at_) := by
      obtain ⟨-, -, -, -, -, -, -, -, -, h9⟩ := t
      simpa using h9
    have hbl : b < w.heap.size := World.block_lt_of_cell? _ _ t8
    have e0 : ((n : Int) == 0) = false := beq_eq_false_iff_ne.2 (by rw [hn, List.length_cons]; omega)
    have i1 : (0 : Int) < (n : Int) := by rw [hn, List.length_cons]; omega
    have i2 : 0 < n := by omega
    obtain ⟨lab, hlab⟩ : ∃ x, x = p.lab := ⟨_, rfl⟩
    obtain ⟨at_, hat⟩ : ∃ x, x = p.at_ := ⟨_, rfl⟩
    show Calls _ _ _ _ (fun e w' => e = .returned (.agg #[.int .i64 p.lab, .int .i64 p.at_]) ∧ Below w.heap.size w w')
    rw [← hlab, ← hat]
    rw [← hlab] at t8
    rw [← hat] at t9
    have HS : Hid (∀ y, Below w.heap.size w y → y.cell? ⟨b, off + 8, none⟩ = some (.int .i64 lab) ∧ y.cell? ⟨b, off + 9, none⟩ = some (.int .i64 at_)) := Lib.hid fun y hy => ⟨(hy.cell hbl).trans t8, (hy.cell hbl).trans t9⟩
    have hx0 := HS.out _ HB.out.drew
    have hx1 := HS.out _ (HB.out.drew.trans ((spot_kp w0.drew w.heap.size (.int .i64 lab) (.int .i64 at_)).below HB.out.drew.size fun j hj => by omega))
    have f1 : ∀ j, w0.drew.frozen? ⟨w.heap.size, j, none⟩ = false := f0
    have d0 : w0.drew.cell? ⟨w.heap.size, 0, none⟩ = some (.int .i64 0) := c0
    have d1 : w0.drew.cell? ⟨w.heap.size, 1, none⟩ = some (.int .i64 0) := c1
    clear hn hr t t8 t9 hlab hat
    go_enter Tryz.func26, Tryz.ntmps26
    go_upto_region 1 with fail
    rw [← HW.out]
    go_upto_region 3 with fail
    go_region_held3 (fun y => y.cell? ⟨b, off + 8, none⟩ = some (.int .i64 lab) ∧ y.cell? ⟨b, off + 9, none⟩ = some (.int .i64 at_))
      (first
        | exact hx0
        | exact hx1)
      (fail)
    go_wp2
    have h := spot_set HK.out lab at_
    have z0 : ((w0.setCell ⟨w.heap.size, 0, none⟩ (.int .i64 lab)).setCell ⟨w.heap.size, 1, none⟩ (.int .i64 at_)).drew.cell? ⟨w.heap.size, 0, none⟩ = some (.int .i64 lab) := heap_cell h
    have z1 : ((w0.setCell ⟨w.heap.size, 0, none⟩ (.int .i64 lab)).setCell ⟨w.heap.size, 1, none⟩ (.int .i64 at_)).drew.cell? ⟨w.heap.size, 1, none⟩ = some (.int .i64 at_) := heap_cell h
    refine bodyPost_ret (v := .agg #[.int .i64 lab, .int .i64 at_]) (by simp [results, Tryz.results26, go_sem, z0, z1]) rfl ⟨rfl, HB.out.drew.trans ((spot_kp w0.drew w.heap.size _ _).below HB.out.drew.size fun j hj => by omega)⟩
end Go.Proofs.YtndofmoepjfnfaaGreat
namespace Go.Proofs.YtndofmoepjfnfaaGreat.So
variable {α β : Type}
/-- behind all that are not greater -/
def insR (f : α → Int) (x : α) : List α → List α
  | [] => [x]
  | a :: l => if f a ≤ f x then a :: insR f x l else x :: a :: l
def isort (f : α → Int) (l : List α) : List α := l.foldl (fun acc x => insR f x acc) []
def Asc (f : α → Int) (l : List α) : Prop := l.Pairwise fun a b => f a ≤ f b
theorem isort_snoc (f : α → Int) (l : List α) (x : α) : isort f (l ++ [x]) = insR f x (isort f l) := by unfold isort; rw [List.foldl_append]; rfl
theorem mem_insR {f : α → Int} {x y : α} : ∀ {l : List α}, y ∈ insR f x l ↔ y = x ∨ y ∈ l
  | [] => by simp [insR]
  | a :: l => by
    rw [insR]
    split
    · rw [List.mem_cons, mem_insR, List.mem_cons]
      constructor
      · rintro (h | h | h)
        · exact .inr (.inl h)
        · exact .inl h
        · exact .inr (.inr h)
      · rintro (h | h | h)
        · exact .inr (.inl h)
        · exact .inl h
        · exact .inr (.inr h)
    · rw [List.mem_cons]
theorem insR_len {f : α → Int} {x : α} : ∀ {l : List α}, (insR f x l).length = l.length + 1
  | [] => rfl
  | a :: l => by
    rw [insR]
    split
    · rw [List.length_cons, insR_len, List.length_cons]
    · rfl
theorem isort_len (f : α → Int) (l : List α) : (isort f l).length = l.length := by
  have key : ∀ (l acc : List α), (l.foldl (fun acc x => insR f x acc) acc).length = acc.length + l.length := by
    intro l
    induction l with
    | nil => intro acc; rfl
    | cons x l ih => intro acc; rw [List.foldl_cons, ih, insR_len, List.length_cons]; omega
  rw [isort, key]; simp
theorem mem_isort {f : α → Int} {l : List α} {y : α} : y ∈ isort f l ↔ y ∈ l := by
  have key : ∀ (l acc : List α), y ∈ l.foldl (fun acc x => insR f x acc) acc ↔ y ∈ acc ∨ y ∈ l := by
    intro l
    induction l with
    | nil => intro acc; simp
    | cons x l ih =>
      intro acc
      rw [List.foldl_cons, ih, mem_insR, List.mem_cons]
      constructor
      · rintro ((h | h) | h)
        · exact .inr (.inl h)
        · exact .inl h
        · exact .inr (.inr h)
      · rintro (h | h | h)
        · exact .inl (.inr h)
        · exact .inl (.inl h)
        · exact .inr h
  rw [isort, key]; simp
theorem insR_asc {f : α → Int} {x : α} : ∀ {l : List α}, Asc f l → Asc f (insR f x l)
  | [], _ => List.pairwise_singleton _ _
  | a :: l, h => by
    obtain ⟨h1, h2⟩ := List.pairwise_cons.1 h
    rw [insR]
    split
    · refine List.pairwise_cons.2 ⟨fun b hb => ?_, insR_asc h2⟩
      rcases mem_insR.1 hb with rfl | hb
      · assumption
      · exact h1 b hb
    · refine List.pairwise_cons.2 ⟨fun b hb => ?_, h⟩
      rcases List.mem_cons.1 hb with rfl | hb
      · omega
      · have := h1 b hb; omega
theorem isort_asc (f : α → Int) (l : List α) : Asc f (isort f l) := by
  have key : ∀ (l acc : List α), Asc f acc → Asc f (l.foldl (fun acc x => insR f x acc) acc) := by
    intro l
    induction l with
    | nil => intro acc h; exact h
    | cons x l ih => intro acc h; exact ih _ (insR_asc h)
  exact key l [] List.Pairwise.nil
/-- the place is told by what stands ahead of it and behind -/
theorem insR_at {f : α → Int} {x : α} : ∀ {l : List α} {j : Nat}, (∀ a ∈ l.take j, f a ≤ f x) → (∀ a ∈ l.drop j, f x < f a) → insR f x l = l.take j ++ x :: l.drop j
  | [], j, _, _ => by simp [insR]
  | a :: l, 0, _, h2 => by
    have := h2 a (by simp)
    rw [insR, if_neg (by omega)]; rfl
  | a :: l, j + 1, h1, h2 => by
    have := h1 a (by simp)
    rw [insR, if_pos this, insR_at (j := j) (fun b hb => h1 b (by rw [List.take_succ_cons]; exact List.mem_cons_of_mem _ hb)) (fun b hb => h2 b (by simpa using hb))]
    rfl
/-- in what rises all ahead of one that is not greater are not -/
theorem asc_take {f : α → Int} {l : List α} (h : Asc f l) {j : Nat} (hj : j < l.length) {x : α} (hx : f l[j] ≤ f x) : ∀ a ∈ l.take (j + 1), f a ≤ f x := by
  intro a ha
  obtain ⟨i, hi, rfl⟩ := List.mem_iff_getElem.1 ha
  rw [List.length_take] at hi
  rw [List.getElem_take]
  rcases Nat.lt_or_ge i j with h' | h'
  · have := List.pairwise_iff_getElem.1 h i j (by omega) hj h'; omega
  · have e : i = j := by omega
    subst e; exact hx
/-- each whose number is not that of the one ahead of it -/
def comp (f : α → Int) : Int → List α → List α
  | _, [] => []
  | p, a :: l => if f a = p then comp f (f a) l else a :: comp f (f a) l
def compact (f : α → Int) : List α → List α
  | [] => []
  | a :: l => a :: comp f (f a) l
/-- one is put in, if none has its number -/
def insU (f : α → Int) (x : α) : List α → List α
  | [] => [x]
  | a :: l => if f a < f x then a :: insU f x l else if f a = f x then a :: l else x :: a :: l
theorem comp_insR_same {f : α → Int} {x : α} : ∀ {l : List α}, (∀ a ∈ l, f x ≤ f a) → comp f (f x) (insR f x l) = comp f (f x) l
  | [], _ => by simp [insR, comp]
  | a :: l, h => by
    have h1 := h a List.mem_cons_self
    have h2 : ∀ b ∈ l, f x ≤ f b := fun b hb => h b (List.mem_cons_of_mem _ hb)
    rw [insR]
    split
    · have e : f a = f x := by omega
      rw [comp, if_pos e, comp, if_pos e, e, comp_insR_same h2]
    · rw [comp, if_pos rfl]
theorem comp_insR_more {f : α → Int} {x : α} : ∀ {l : List α} {p : Int}, p < f x → Asc f l → (∀ a ∈ l, p ≤ f a) → comp f p (insR f x l) = insU f x (comp f p l)
  | [], p, hp, _, _ => by simp [insR, comp, insU, show ¬ f x = p by omega]
  | a :: l, p, hp, hA, h => by
    obtain ⟨hA1, hA2⟩ := List.pairwise_cons.1 hA
    have h1 := h a List.mem_cons_self
    rw [insR]
    split
    · rename_i hle
      by_cases e : f a = p
      · rw [comp, if_pos e, comp, if_pos e, e]
        exact comp_insR_more hp hA2 fun b hb => h b (List.mem_cons_of_mem _ hb)
      · rw [comp, if_neg e, comp, if_neg e, insU]
        by_cases e2 : f a < f x
        · rw [if_pos e2, comp_insR_more e2 hA2 hA1]
        · have e3 : f a = f x := by omega
          rw [if_neg e2, if_pos e3, e3, comp_insR_same fun b hb => by have := hA1 b hb; omega]
    · have e : ¬ f a = p := by omega
      rw [comp, if_neg (by omega), comp, if_neg (by omega), comp, if_neg e, insU, if_neg (by omega), if_neg (by omega)]
theorem compact_insR {f : α → Int} {x : α} {l : List α} (hA : Asc f l) : compact f (insR f x l) = insU f x (compact f l) := by
  cases l with
  | nil => rfl
  | cons a l =>
    obtain ⟨hA1, hA2⟩ := List.pairwise_cons.1 hA
    rw [insR, compact, insU]
    split
    · rw [compact]
      by_cases e : f a < f x
      · rw [if_pos e, comp_insR_more e hA2 hA1]
      · have e3 : f a = f x := by omega
        rw [if_neg e, if_pos e3, e3, comp_insR_same fun b hb => by have := hA1 b hb; omega]
    · rw [if_neg (by omega), if_neg (by omega), compact, comp, if_neg (by omega)]
theorem insU_map {f : α → Int} {g : α → β} {f' : β → Int} (h : ∀ a, f' (g a) = f a) (x : α) : ∀ l : List α, (insU f x l).map g = insU f' (g x) (l.map g)
  | [] => rfl
  | a :: l => by
    rw [List.map_cons, insU, insU, h, h]
    split
    · rw [List.map_cons, insU_map h]
    · split <;> rfl
theorem insU_is (s : Rc.S) : ∀ l : List Rc.S, insU Rc.S.number s l = Gr.ins s l
  | [] => rfl
  | a :: l => by rw [insU, Gr.ins, insU_is s l]
/-- what a stable sort and a compaction make of the seals of these -/
theorem all_is {f : α → Int} {g : α → Rc.S} (h : ∀ a, (g a).number = f a) (l : List α) : (compact f (isort f l)).map g = Gr.all (l.map g) := by
  have key : ∀ n (l : List α), l.length = n → (compact f (isort f l)).map g = Gr.all (l.map g) := by
    intro n
    induction n with
    | zero => intro l hl; rw [List.length_eq_zero_iff.1 hl]; rfl
    | succ n ih =>
      intro l hl
      obtain ⟨l', x, rfl⟩ : ∃ l' x, l = l' ++ [x] := ⟨l.dropLast, l.getLast (by intro e; rw [e] at hl; cases hl), (List.dropLast_concat_getLast _).symm⟩
      rw [isort_snoc, compact_insR (isort_asc f l'), insU_map h, ih l' (by simpa using hl), insU_is, List.map_append]
      exact (Gr.all_snoc _ _).symm
  exact key l.length l rfl
/-- the last number -/
def lk (f : α → Int) : Int → List α → Int
  | p, [] => p
  | _, a :: l => lk f (f a) l
theorem comp_snoc {f : α → Int} {x : α} : ∀ {l : List α} {p : Int}, comp f p (l ++ [x]) = comp f p l ++ (if f x = lk f p l then [] else [x])
  | [], p => by
    rw [List.nil_append, comp, comp, comp, lk]
    split <;> rfl
  | a :: l, p => by
    rw [List.cons_append, comp, comp, lk]
    split
    · rw [comp_snoc]
    · rw [comp_snoc]; rfl
theorem lk_last {f : α → Int} : ∀ {l : List α} {p : Int} {j : Nat} (_ : j + 1 = l.length) (hj : j < l.length), lk f p l = f l[j]
  | [], _, j, h, _ => by cases h
  | [a], _, j, h, _ => by
    have e : j = 0 := by simpa using h
    subst e; rfl
  | a :: b :: l, _, j, h, hj => by
    obtain ⟨j, rfl⟩ : ∃ i, j = i + 1 := ⟨j - 1, by simp at h; omega⟩
    rw [lk]
    exact lk_last (by simpa using h) (by simpa using hj)
/-- one more is looked at -/
theorem compact_take {f : α → Int} {l : List α} {k : Nat} (hk : k + 1 < l.length) : compact f (l.take (k + 1 + 1)) = compact f (l.take (k + 1)) ++ (if f l[k + 1] = f l[k] then [] else [l[k + 1]]) := by
  rw [List.take_succ_eq_append_getElem hk]
  cases l with
  | nil => simp at hk
  | cons a m =>
    rw [List.take_succ_cons, List.cons_append, compact, compact, comp_snoc, List.cons_append]
    have e : lk f (f a) (m.take k) = f ((a :: m)[k]'(by omega)) := by
      cases k with
      | zero => rfl
      | succ k =>
        have hk' : k < m.length := by simpa using (show k + 1 < (a :: m).length by omega)
        have h1 : k + 1 = (m.take (k + 1)).length := by rw [List.length_take]; omega
        rw [lk_last (p := f a) h1 (by omega), List.getElem_take]; rfl
    rw [e]
theorem compact_one {f : α → Int} {l : List α} (h : 0 < l.length) : compact f (l.take 1) = l.take 1 := by
  cases l with
  | nil => simp at h
  | cons a m => rfl
theorem compact_all {f : α → Int} {l : List α} {k : Nat} (h : l.length ≤ k) : compact f (l.take k) = compact f l := by rw [List.take_of_length_le h]
theorem compact_le (f : α → Int) (l : List α) : (compact f l).length ≤ l.length := by
  have key : ∀ (l : List α) p, (comp f p l).length ≤ l.length := by
    intro l
    induction l with
    | nil => intro p; exact Nat.le_refl _
    | cons a l ih =>
      intro p
      rw [comp]
      have := ih (f a)
      split
      · rw [List.length_cons]; omega
      · rw [List.length_cons, List.length_cons]; omega
  cases l with
  | nil => exact Nat.le_refl _
  | cons a l => rw [compact, List.length_cons, List.length_cons]; have := key l (f a); omega
theorem mem_compact {f : α → Int} {l : List α} {x : α} (h : x ∈ compact f l) : x ∈ l := by
  have key : ∀ (l : List α) p, x ∈ comp f p l → x ∈ l := by
    intro l
    induction l with
    | nil => intro p h; exact h
    | cons a l ih =>
      intro p h
      rw [comp] at h
      split at h
      · exact List.mem_cons_of_mem _ (ih _ h)
      · rcases List.mem_cons.1 h with rfl | h
        · exact List.mem_cons_self
        · exact List.mem_cons_of_mem _ (ih _ h)
  cases l with
  | nil => exact h
  | cons a l =>
    rw [compact] at h
    rcases List.mem_cons.1 h with rfl | h
    · exact List.mem_cons_self
    · exact List.mem_cons_of_mem _ (key _ _ h)
end Go.Proofs.YtndofmoepjfnfaaGreat.So
namespace Go.Proofs.YtndofmoepjfnfaaGreat
open Go.RowKit

/-- a number from a to b -/
def btw (n a b : Int) : Bool := decide (a ≤ n) && decide (n ≤ b)
theorem btw_yes {n a b : Int} (h : btw n a b = true) : a ≤ n ∧ n ≤ b := by simpa [btw] using h
theorem btw_no {n a b : Int} (h : btw n a b = false) : n < a ∨ b < n := by
  have : ¬ (a ≤ n ∧ n ≤ b) := fun h' => by simp [btw, h'.1, h'.2] at h
  omega
theorem btw_of {n a b : Int} (h : a ≤ n ∧ n ≤ b) : btw n a b = true := by simp [btw, h.1, h.2]
theorem between_any (n a b : Int) (w : World) : Calls Tryz.prog 86 #[.int .i64 n, .int .i64 a, .int .i64 b] w fun e w' => e = .returned (.bool (btw n a b)) ∧ w = w' := by
  cases q1 : decide (a ≤ n) with
  | true =>
    have H : Hid (btw n a b = decide (n ≤ b)) := Lib.hid (by unfold btw; rw [q1]; rfl)
    go_enter Tryz.func86, Tryz.ntmps86
    go_wp2
    go_ret
    exact ⟨by rw [H.out]; rfl, rfl⟩
  | false =>
    have H : Hid (btw n a b = false) := Lib.hid (by unfold btw; rw [q1]; rfl)
    go_enter Tryz.func86, Tryz.ntmps86
    go_wp2
    go_ret
    exact ⟨by rw [H.out]; rfl, rfl⟩
end Go.Proofs.YtndofmoepjfnfaaGreat
namespace Go.Proofs.YtndofmoepjfnfaaGreat
open Go.RowKit

def cellsZ (l : List Int) : List Value := l.map fun x => .int .i64 x
theorem cellsZ_len (l : List Int) : (cellsZ l).length = l.length := by simp [cellsZ]
theorem cellsZ_get {l : List Int} {j : Nat} (h : j < l.length) : (cellsZ l)[j]? = some (.int .i64 l[j]) := by simp [cellsZ, h]
theorem cellsZ_append (a b : List Int) : cellsZ (a ++ b) = cellsZ a ++ cellsZ b := by simp [cellsZ]
/-- the slice at A reads as the numbers l, and lies in a block of G -/
def RdZ (w : World) (A : Option Addr) (l : List Int) (G : Nat → Prop) : Prop :=
  0 < l.length → ∃ b off, A = some ⟨b, off, none⟩ ∧ G b ∧ ∀ j (hj : j < l.length), w.cell? ⟨b, off + j, none⟩ = some (.int .i64 l[j])
namespace RdZ
variable {w w' : World} {A : Option Addr} {l : List Int} {G G' S : Nat → Prop}
theorem empty (w : World) (A : Option Addr) (G : Nat → Prop) : RdZ w A [] G := fun h => absurd h (by simp)
theorem keep (h : RdZ w A l G) (hk : ∀ p v, G p.block → w.cell? p = some v → w'.cell? p = some v) : RdZ w' A l G := by
  intro hn
  obtain ⟨b, off, e, hg, hc⟩ := h hn
  exact ⟨b, off, e, hg, fun j hj => hk _ _ hg (hc j hj)⟩
theorem mono (h : RdZ w A l G) (hg : ∀ b, G b → G' b) : RdZ w A l G' := by
  intro hn
  obtain ⟨b, off, e, hg', hc⟩ := h hn
  exact ⟨b, off, e, hg _ hg', hc⟩
theorem kp (h : RdZ w A l G) (hk : Kp S w w') (hs : ∀ b, G b → ¬ S b) : RdZ w' A l G := h.keep fun _ _ hg hc => hk.cell hc (hs _ hg)
theorem old (h : RdZ w A l G) (hb : Below w.heap.size w w') : RdZ w' A l G := h.keep fun _ _ _ hc => (hb.cell (World.block_lt_of_cell? _ _ hc)).trans hc
theorem in_ (h : RdZ w A l G) : RdZ w A l (fun b => G b ∧ b < w.heap.size) := by
  intro hn
  obtain ⟨b, off, e, hg, hc⟩ := h hn
  exact ⟨b, off, e, ⟨hg, World.block_lt_of_cell? _ _ (hc 0 hn)⟩, hc⟩
theorem at_ (h : RdZ w A l G) {j : Nat} (hj : j < l.length) : ∃ b off, A = some ⟨b, off, none⟩ ∧ G b ∧ w.cell? ⟨b, off + j, none⟩ = some (.int .i64 l[j]) := by
  obtain ⟨b, off, e, hg, hc⟩ := h (by omega)
  exact ⟨b, off, e, hg, hc j hj⟩
theorem take (h : RdZ w A l G) (k : Nat) : RdZ w A (l.take k) G := by
  intro hn
  rw [List.length_take] at hn
  obtain ⟨b, off, e, hg, hc⟩ := h (by omega)
  refine ⟨b, off, e, hg, fun j hj => ?_⟩
  rw [List.length_take] at hj
  rw [hc j (by omega), List.getElem_take]
theorem of_cells {b : Nat} {fr : Nat × Nat} {m : List Int} (h : w.heap[b]? = some (.cells (cellsZ (l ++ m)).toArray 3 fr)) : RdZ w (some ⟨b, 0, none⟩) l (· = b) := by
  intro hn
  refine ⟨b, 0, rfl, rfl, fun j hj => ?_⟩
  rw [Nat.zero_add, heap_cell h]
  rw [List.getElem?_toArray, cellsZ_append, List.getElem?_append_left (by rw [cellsZ_len]; exact hj)]
  exact cellsZ_get hj
end RdZ
end Go.Proofs.YtndofmoepjfnfaaGreat
