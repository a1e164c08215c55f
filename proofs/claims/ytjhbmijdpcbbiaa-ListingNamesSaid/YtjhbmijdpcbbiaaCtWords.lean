/- Parts and files in a row: a part in ten cells, a file in seven, its parts in a row of their own. No function of the program. -/
import Derived.Test.YtjhbmijdpcbbiaaCtMath
import Derived.Test.YtjhbmijdpcbbiaaVoCells
namespace Go.Proofs.Ytjhbmijdpcbbiaa
open Go.RowKit
open Pt (Tx)

def encQ : Enc Ct.P where
  k := 10
  pos := by decide
  enc p := cells10 p.h p.lab p.at_
  len _ := rfl
  one q u hu := by
    simp only [cells10, List.mem_cons, List.not_mem_nil, or_false] at hu
    rcases hu with rfl | rfl | rfl | rfl | rfl | rfl | rfl | rfl | rfl | rfl <;> rfl
/-- the parts of one tape among those of any -/
theorem rdQ_of {w : World} {A : Option Addr} {lab : Int} {l : List (Rc.H × Nat)} {G : Nat → Prop} (h : (encP lab).Rd w A l G) : encQ.Rd w A (l.map fun q => (⟨q.1, lab, (q.2 : Int)⟩ : Ct.P)) G := fun hn => by
  rw [List.length_map] at hn
  obtain ⟨b, off, e, hg, hc⟩ := h hn
  refine ⟨b, off, e, hg, fun i hi j u hu => ?_⟩
  rw [List.length_map] at hi
  rw [List.getElem_map] at hu
  exact hc i hi j u hu
/-- the ten cells of a part -/
def Ten (w : World) (g o : Nat) (p : Ct.P) : Prop := w.cell? ⟨g, o, none⟩ = some (.string (tx p.h.path)) ∧ w.cell? ⟨g, o + 1, none⟩ = some (.int .i64 p.h.version) ∧ w.cell? ⟨g, o + 2, none⟩ = some (.int .i64 p.h.size) ∧ w.cell? ⟨g, o + 3, none⟩ = some (.int .i64 p.h.from_) ∧ w.cell? ⟨g, o + 4, none⟩ = some (.int .i64 p.h.len)
  ∧ w.cell? ⟨g, o + 5, none⟩ = some (.int .i64 p.h.serial) ∧ w.cell? ⟨g, o + 6, none⟩ = some (.int .i64 p.h.sum) ∧ w.cell? ⟨g, o + 7, none⟩ = some (.bool p.h.gone) ∧ w.cell? ⟨g, o + 8, none⟩ = some (.int .i64 p.lab) ∧ w.cell? ⟨g, o + 9, none⟩ = some (.int .i64 p.at_)
theorem Ten.old {w w' : World} {g o : Nat} {p : Ct.P} (h : Ten w g o p) (hb : Below w.heap.size w w') : Ten w' g o p := by
  obtain ⟨h0, h1, h2, h3, h4, h5, h6, h7, h8, h9⟩ := h
  have hl := World.block_lt_of_cell? _ _ h0
  exact ⟨(hb.cell hl).trans h0, (hb.cell (p := ⟨g, o + 1, none⟩) hl).trans h1, (hb.cell (p := ⟨g, o + 2, none⟩) hl).trans h2, (hb.cell (p := ⟨g, o + 3, none⟩) hl).trans h3, (hb.cell (p := ⟨g, o + 4, none⟩) hl).trans h4, (hb.cell (p := ⟨g, o + 5, none⟩) hl).trans h5, (hb.cell (p := ⟨g, o + 6, none⟩) hl).trans h6, (hb.cell (p := ⟨g, o + 7, none⟩) hl).trans h7, (hb.cell (p := ⟨g, o + 8, none⟩) hl).trans h8, (hb.cell (p := ⟨g, o + 9, none⟩) hl).trans h9⟩
theorem ten_of {w : World} {A : Option Addr} {l : List Ct.P} {G : Nat → Prop} (h : encQ.Rd w A l G) {i : Nat} (hi : i < l.length) : ∃ b off, A = some ⟨b, off, none⟩ ∧ G b ∧ Ten w b (off + i * 10) l[i] := by
  obtain ⟨b, off, e, hg, hc⟩ := h.at_ hi
  exact ⟨b, off, e, hg, hc 0 _ rfl, hc 1 _ rfl, hc 2 _ rfl, hc 3 _ rfl, hc 4 _ rfl, hc 5 _ rfl, hc 6 _ rfl, hc 7 _ rfl, hc 8 _ rfl, hc 9 _ rfl⟩
/-- a part in a block of its own -/
def partO (p : Ct.P) : Obj := partObj p.h.path p.h.version p.h.size p.h.from_ p.h.len p.h.serial p.h.sum p.h.gone p.lab p.at_
/-- a file as a value: where its parts lie, and how much room there is -/
structure Fx where
  f : Ct.F
  A : Option Addr
  C : Nat
def Fx.enc (x : Fx) : List Value := [.string (tx x.f.path), .int .i64 x.f.version, .int .i64 x.f.size, .int .i64 x.f.sum, .int .i64 x.f.serial, .bool x.f.gone, .slice x.A x.f.parts.length x.C]
def Fx.val (x : Fx) : Value := .agg #[.string (tx x.f.path), .int .i64 x.f.version, .int .i64 x.f.size, .int .i64 x.f.sum, .int .i64 x.f.serial, .bool x.f.gone, .slice x.A x.f.parts.length x.C]
def encF : Enc Fx where
  k := 7
  pos := by decide
  enc := Fx.enc
  len _ := rfl
  one x u hu := by
    simp only [Fx.enc, List.mem_cons, List.not_mem_nil, or_false] at hu
    rcases hu with rfl | rfl | rfl | rfl | rfl | rfl | rfl <;> rfl
def zeroF : Value := .agg #[.string ⟨#[]⟩, .int .i64 0, .int .i64 0, .int .i64 0, .int .i64 0, .bool false, .slice none 0 0]
theorem infoFile : (Try.prog.info? 26).map (fun i => (i.zero, i.size, i.bytes)) = some (some zeroF, 7, 80) := by kernel_rfl
/-- its parts read, in a block of G -/
structure Fx.Ok (x : Fx) (w : World) (G : Nat → Prop) : Prop where
  le : x.f.parts.length ≤ x.C
  max : x.C ≤ maxLen
  nil : x.A = none → x.f.parts.length = 0 ∧ x.C = 0
  rd : encQ.Rd w x.A x.f.parts G
theorem Fx.Ok.mono {x : Fx} {w : World} {G G' : Nat → Prop} (h : x.Ok w G) (hg : ∀ b, G b → G' b) : x.Ok w G' := ⟨h.le, h.max, h.nil, h.rd.mono hg⟩
theorem Fx.Ok.old {x : Fx} {w w' : World} {G : Nat → Prop} (h : x.Ok w G) (hb : Below w.heap.size w w') : x.Ok w' G := ⟨h.le, h.max, h.nil, h.rd.old hb⟩
theorem Fx.Ok.kp {x : Fx} {w w' : World} {G S : Nat → Prop} (h : x.Ok w G) (hk : Kp S w w') (hs : ∀ b, G b → ¬ S b) : x.Ok w' G := ⟨h.le, h.max, h.nil, h.rd.kp hk hs⟩
/-- in block g, from off on, lies this list of files; it is no frozen one -/
def SitsF (w : World) (g off : Nat) (l : List Fx) : Prop :=
  ∃ cur : Array Value, w.heap[g]? = some (.cells cur 26 (0, 0)) ∧ off + l.length * 7 ≤ cur.size ∧ ∀ i (hi : i < l.length) j u, (l[i].enc)[j]? = some u → cur[off + i * 7 + j]? = some u
/-- the seven cells of one of them -/
def Seven (w : World) (g o : Nat) (P : Tx) (v z s r : Int) (b : Bool) (A : Option Addr) (m C : Nat) : Prop := w.cell? ⟨g, o, none⟩ = some (.string (tx P)) ∧ w.cell? ⟨g, o + 1, none⟩ = some (.int .i64 v) ∧ w.cell? ⟨g, o + 2, none⟩ = some (.int .i64 z) ∧ w.cell? ⟨g, o + 3, none⟩ = some (.int .i64 s) ∧ w.cell? ⟨g, o + 4, none⟩ = some (.int .i64 r) ∧ w.cell? ⟨g, o + 5, none⟩ = some (.bool b) ∧ w.cell? ⟨g, o + 6, none⟩ = some (.slice A m C)
theorem Seven.old {w w' : World} {g o : Nat} {P : Tx} {v z s r : Int} {b : Bool} {A : Option Addr} {m C : Nat} (h : Seven w g o P v z s r b A m C) (hb : Below w.heap.size w w') : Seven w' g o P v z s r b A m C := by
  obtain ⟨h0, h1, h2, h3, h4, h5, h6⟩ := h
  have hl := World.block_lt_of_cell? _ _ h0
  exact ⟨(hb.cell hl).trans h0, (hb.cell (p := ⟨g, o + 1, none⟩) hl).trans h1, (hb.cell (p := ⟨g, o + 2, none⟩) hl).trans h2, (hb.cell (p := ⟨g, o + 3, none⟩) hl).trans h3, (hb.cell (p := ⟨g, o + 4, none⟩) hl).trans h4, (hb.cell (p := ⟨g, o + 5, none⟩) hl).trans h5, (hb.cell (p := ⟨g, o + 6, none⟩) hl).trans h6⟩
namespace SitsF
variable {w w' : World} {g off : Nat} {l : List Fx}
theorem seven (h : SitsF w g off l) {i : Nat} (hi : i < l.length) {x : Fx} (hx : l[i] = x) : Seven w g (off + i * 7) x.f.path x.f.version x.f.size x.f.sum x.f.serial x.f.gone x.A x.f.parts.length x.C := by
  subst hx
  obtain ⟨cur, hg, _, hc⟩ := h
  unfold Seven
  rw [heap_cell hg, heap_cell hg, heap_cell hg, heap_cell hg, heap_cell hg, heap_cell hg, heap_cell hg]
  exact ⟨hc i hi 0 _ rfl, hc i hi 1 _ rfl, hc i hi 2 _ rfl, hc i hi 3 _ rfl, hc i hi 4 _ rfl, hc i hi 5 _ rfl, hc i hi 6 _ rfl⟩
theorem free (h : SitsF w g off l) (k : Nat) : w.frozen? ⟨g, k, none⟩ = false := by
  obtain ⟨cur, hg, _⟩ := h
  exact heap_frozen hg
theorem lt (h : SitsF w g off l) : g < w.heap.size := by
  obtain ⟨cur, hg, _⟩ := h
  exact heap_lt hg
theorem block (h : SitsF w g off l) (e : w'.heap[g]? = w.heap[g]?) : SitsF w' g off l := by
  obtain ⟨cur, hg, hc⟩ := h
  exact ⟨cur, e.trans hg, hc⟩
theorem old (h : SitsF w g off l) (hb : Below w.heap.size w w') : SitsF w' g off l := h.block (hb.block g h.lt)
theorem drew (h : SitsF w g off l) : SitsF w.drew g off l := h
theorem some_ (h : SitsF w g off l) {k : Nat} (hk : k < off + l.length * 7) : (w.cell? ⟨g, k, none⟩).isSome = true := by
  obtain ⟨cur, hb, hs, _⟩ := h
  rw [heap_cell hb, Array.getElem?_eq_getElem (by omega)]; rfl
/-- one of them is stored into -/
theorem set (h : SitsF w g off l) {i : Nat} (hi : i < l.length) (x : Fx) :
    SitsF (((((((w.setCell ⟨g, off + i * 7, none⟩ (.string (tx x.f.path))).setCell ⟨g, off + i * 7 + 1, none⟩ (.int .i64 x.f.version)).setCell ⟨g, off + i * 7 + 2, none⟩ (.int .i64 x.f.size)).setCell ⟨g, off + i * 7 + 3, none⟩ (.int .i64 x.f.sum)).setCell ⟨g, off + i * 7 + 4, none⟩ (.int .i64 x.f.serial)).setCell ⟨g, off + i * 7 + 5, none⟩ (.bool x.f.gone)).setCell ⟨g, off + i * 7 + 6, none⟩ (.slice x.A x.f.parts.length x.C)) g off (l.set i x) := by
  obtain ⟨cur, hg, hs, hc⟩ := h
  refine ⟨_, heap_set (heap_set (heap_set (heap_set (heap_set (heap_set (heap_set hg _) _) _) _) _) _) _, by simpa using hs, fun k hk j u hu => ?_⟩
  rw [List.length_set] at hk
  have hin : off + i * 7 + 7 ≤ cur.size := by
    have : (i + 1) * 7 ≤ l.length * 7 := Nat.mul_le_mul_right _ hi
    omega
  have hj : j < 7 := by
    have := (List.getElem?_eq_some_iff.1 hu).1
    simpa [Fx.enc] using this
  simp only [Array.getElem?_setIfInBounds, Array.size_setIfInBounds]
  by_cases e : k = i
  · subst e
    rw [List.getElem_set_self] at hu
    match j, hu, hj with
    | 0, hu, _ => cases hu; simp (disch := omega); omega
    | 1, hu, _ => cases hu; simp (disch := omega); omega
    | 2, hu, _ => cases hu; simp (disch := omega); omega
    | 3, hu, _ => cases hu; simp (disch := omega); omega
    | 4, hu, _ => cases hu; simp (disch := omega); omega
    | 5, hu, _ => cases hu; simp (disch := omega); omega
    | 6, hu, _ => cases hu; simp (disch := omega); omega
    | j + 7, _, hj => omega
  · rw [List.getElem_set_ne (fun h => e h.symm)] at hu
    rw [if_neg (by omega), if_neg (by omega), if_neg (by omega), if_neg (by omega), if_neg (by omega), if_neg (by omega), if_neg (by omega)]
    exact hc k hk j u hu
theorem kp_set (w : World) (g a b c d e f h : Nat) (u0 u1 u2 u3 u4 u5 u6 : Value) : Kp (· = g) w (((((((w.setCell ⟨g, a, none⟩ u0).setCell ⟨g, b, none⟩ u1).setCell ⟨g, c, none⟩ u2).setCell ⟨g, d, none⟩ u3).setCell ⟨g, e, none⟩ u4).setCell ⟨g, f, none⟩ u5).setCell ⟨g, h, none⟩ u6) :=
  (((((((Kp.store _ _ _ _).trans (Kp.store _ _ _ _)).trans (Kp.store _ _ _ _)).trans (Kp.store _ _ _ _)).trans (Kp.store _ _ _ _)).trans (Kp.store _ _ _ _)).trans (Kp.store _ _ _ _))
/-- as a row that reads -/
theorem rd (h : SitsF w g off l) {G : Nat → Prop} (hg : G g) : encF.Rd w (some ⟨g, off, none⟩) l G := fun hn => by
  obtain ⟨cur, hb, _, hc⟩ := h
  refine ⟨g, off, rfl, hg, fun i hi j u hu => ?_⟩
  rw [heap_cell hb]; exact hc i hi j u hu
theorem take (h : SitsF w g off l) (k : Nat) : SitsF w g off (l.take k) := by
  obtain ⟨cur, hb, hs, hc⟩ := h
  refine ⟨cur, hb, ?_, fun i hi j u hu => ?_⟩
  · rw [List.length_take]
    have : min k l.length * 7 ≤ l.length * 7 := Nat.mul_le_mul_right _ (Nat.min_le_right _ _)
    omega
  · rw [List.length_take] at hi
    rw [List.getElem_take] at hu
    exact hc i (by omega) j u hu
end SitsF
/-- a row that a call owns, as one that sits in a block -/
theorem sitsF_own {w : World} {base : Nat} {v : Value} {l : List Fx} (h : encF.Own w base 26 v l) : (v = .slice none 0 0 ∧ l = []) ∨ ∃ g C, v = .slice (some ⟨g, 0, none⟩) l.length C ∧ l.length ≤ C ∧ C ≤ maxLen ∧ base ≤ g ∧ SitsF w g 0 l := by
  rcases h.2 with ⟨rfl, h0⟩ | ⟨g, cap, cur, rfl, hb, hg, hnc, hcm, hs, ht⟩
  · exact .inl ⟨rfl, List.length_eq_zero_iff.1 h0⟩
  · refine .inr ⟨g, cap, rfl, hnc, hcm, hb, cur, hg, ?_, fun i hi j u hu => ?_⟩
    · rw [hs, Nat.zero_add]; exact Nat.mul_le_mul_right _ hnc
    · have hj : j < 7 := by
        have := (List.getElem?_eq_some_iff.1 hu).1
        simpa [Fx.enc] using this
      have hx := encF.cells_get l i j hj hi
      have hlt : i * 7 + j < l.length * 7 := by
        have h1 : (i + 1) * 7 ≤ l.length * 7 := Nat.mul_le_mul_right _ hi
        omega
      rw [← ht, List.getElem?_take] at hx
      have e5 : encF.k = 7 := rfl
      rw [e5, if_pos hlt, Array.getElem?_toList] at hx
      rw [Nat.zero_add, hx]; exact hu
end Go.Proofs.Ytjhbmijdpcbbiaa
