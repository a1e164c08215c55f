/- Parts and files in a row: a part in ten cells, a file in seven, its parts in a row of their own. No function of the program. A slice of slices of bytes: what its element is. No function of the program. A slice of slices of the law's own, made by append, each row its own. No function of the program. Lists of parts in a slice that a call makes longer, each list its own. No function of the program. How lists of parts grow, part by part. No program. -/
import Derived.Test.YtbijjgicjkmopaaDoorMaf
import Derived.Test.YtbijjgicjkmopaaDoorMao
import Derived.Test.YtbijjgicjkmopaaDoorMad
import Derived.Test.YtbijjgicjkmopaaDoorChecked
import Derived.Test.YtbijjgicjkmopaaDoorMaj
import Derived.Deep.AppendLies
namespace Go.Proofs.YtbijjgicjkmopaaDoor
open Go.RowKit
open Pt (Tx)

def encQ : Enc Ct.P where
  k := 10
  pos := by decide
  enc p := cells10 p.h p.lab p.at_
  len _ := rfl
  one q u hu := by
    simp only [cells10, List.mem_cons, List.not_mem_nil, or_false] at hu
    rcases hu with rfl | rfl | rfl | rfl | rfl | rfl | rfl | rfl | rfl | rfl <;> rfl
/-- the parts of one tape among those of any -/
theorem rdQ_of {w : World} {A : Option Addr} {lab : Int} {l : List (Rc.H × Nat)} {G : Nat → Prop} (h : (encP lab).Rd w A l G) : encQ.Rd w A (l.map fun q => (⟨q.1, lab, (q.2 : Int)⟩ : Ct.P)) G := fun hn => by
  rw [List.length_map] at hn
  obtain ⟨b, off, e, hg, hc⟩ := h hn
  refine ⟨b, off, e, hg, fun i hi j u hu => ?_⟩
  rw [List.length_map] at hi
  rw [List.getElem_map] at hu
  exact hc i hi j u hu
/-- the ten cells of a part -/
def Ten (w : World) (g o : Nat) (p : Ct.P) : Prop := w.cell? ⟨g, o, none⟩ = some (.string (tx p.h.path)) ∧ w.cell? ⟨g, o + 1, none⟩ = some (.int .i64 p.h.version) ∧ w.cell? ⟨g, o + 2, none⟩ = some (.int .i64 p.h.size) ∧ w.cell? ⟨g, o + 3, none⟩ = some (.int .i64 p.h.from_) ∧ w.cell? ⟨g, o + 4, none⟩ = some (.int .i64 p.h.len)
  ∧ w.cell? ⟨g, o + 5, none⟩ = some (.int .i64 p.h.serial) ∧ w.cell? ⟨g, o + 6, none⟩ = some (.int .i64 p.h.sum) ∧ w.cell? ⟨g, o + 7, none⟩ = some (.bool p.h.gone) ∧ w.cell? ⟨g, o + 8, none⟩ = some (.int .i64 p.lab) ∧ w.cell? ⟨g, o + 9, none⟩ = some (.int .i64 p.at_)
theorem Ten.old {w w' : World} {g o : Nat} {p : Ct.P} (h : Ten w g o p) (hb : Below w.heap.size w w') : Ten w' g o p := by
  obtain ⟨h0, h1, h2, h3, h4, h5, h6, h7, h8, h9⟩ := h
  have hl := World.block_lt_of_cell? _ _ h0
  exact ⟨(hb.cell hl).trans h0, (hb.cell (p := ⟨g, o + 1, none⟩) hl).trans h1, (hb.cell (p := ⟨g, o + 2, none⟩) hl).trans h2, (hb.cell (p := ⟨g, o + 3, none⟩) hl).trans h3, (hb.cell (p := ⟨g, o + 4, none⟩) hl).trans h4, (hb.cell (p := ⟨g, o + 5, none⟩) hl).trans h5, (hb.cell (p := ⟨g, o + 6, none⟩) hl).trans h6, (hb.cell (p := ⟨g, o + 7, none⟩) hl).trans h7, (hb.cell (p := ⟨g, o + 8, none⟩) hl).trans h8, (hb.cell (p := ⟨g, o + 9, none⟩) hl).trans h9⟩
theorem ten_of {w : World} {A : Option Addr} {l : List Ct.P} {G : Nat → Prop} (h : encQ.Rd w A l G) {i : Nat} (hi : i < l.length) : ∃ b off, A = some ⟨b, off, none⟩ ∧ G b ∧ Ten w b (off + i * 10) l[i] := by
  obtain ⟨b, off, e, hg, hc⟩ := h.at_ hi
  exact ⟨b, off, e, hg, hc 0 _ rfl, hc 1 _ rfl, hc 2 _ rfl, hc 3 _ rfl, hc 4 _ rfl, hc 5 _ rfl, hc 6 _ rfl, hc 7 _ rfl, hc 8 _ rfl, hc 9 _ rfl⟩
/-- a part in a block of its own -/
def partO (p : Ct.P) : Obj := partObj p.h.path p.h.version p.h.size p.h.from_ p.h.len p.h.serial p.h.sum p.h.gone p.lab p.at_
/-- a file as a value: where its parts lie, and how much room there is -/
structure Fx where
  f : Ct.F
  A : Option Addr
  C : Nat
def Fx.enc (x : Fx) : List Value := [.string (tx x.f.path), .int .i64 x.f.version, .int .i64 x.f.size, .int .i64 x.f.sum, .int .i64 x.f.serial, .bool x.f.gone, .slice x.A x.f.parts.length x.C]
def Fx.val (x : Fx) : Value := .agg #[.string (tx x.f.path), .int .i64 x.f.version, .int .i64 x.f.size, .int .i64 x.f.sum, .int .i64 x.f.serial, .bool x.f.gone, .slice x.A x.f.parts.length x.C]
def encF : Enc Fx where
  k := 7
  pos := by decide
  enc := Fx.enc
  len _ := rfl
  one x u hu := by
    simp only [Fx.enc, List.mem_cons, List.not_mem_nil, or_false] at hu
    rcases hu with rfl | rfl | rfl | rfl | rfl | rfl | rfl <;> rfl
def zeroF : Value := .agg #[.string ⟨#[]⟩, .int .i64 0, .int .i64 0, .int .i64 0, .int .i64 0, .bool false, .slice none 0 0]
theorem infoFile : (Tryd.prog.info? 46).map (fun i => (i.zero, i.size, i.bytes)) = some (some zeroF, 7, 80) := by kernel_rfl
/-- its parts read, in a block of G -/
structure Fx.Ok (x : Fx) (w : World) (G : Nat → Prop) : Prop where
  le : x.f.parts.length ≤ x.C
  max : x.C ≤ maxLen
  nil : x.A = none → x.f.parts.length = 0 ∧ x.C = 0
  rd : encQ.Rd w x.A x.f.parts G
theorem Fx.Ok.mono {x : Fx} {w : World} {G G' : Nat → Prop} (h : x.Ok w G) (hg : ∀ b, G b → G' b) : x.Ok w G' := ⟨h.le, h.max, h.nil, h.rd.mono hg⟩
theorem Fx.Ok.old {x : Fx} {w w' : World} {G : Nat → Prop} (h : x.Ok w G) (hb : Below w.heap.size w w') : x.Ok w' G := ⟨h.le, h.max, h.nil, h.rd.old hb⟩
theorem Fx.Ok.kp {x : Fx} {w w' : World} {G S : Nat → Prop} (h : x.Ok w G) (hk : Kp S w w') (hs : ∀ b, G b → ¬ S b) : x.Ok w' G := ⟨h.le, h.max, h.nil, h.rd.kp hk hs⟩
/-- in block g, from off on, lies this list of files; it is no frozen one -/
def SitsF (w : World) (g off : Nat) (l : List Fx) : Prop :=
  ∃ cur : Array Value, w.heap[g]? = some (.cells cur 46 (0, 0)) ∧ off + l.length * 7 ≤ cur.size ∧ ∀ i (hi : i < l.length) j u, (l[i].enc)[j]? = some u → cur[off + i * 7 + j]? = some u
/-- the seven cells of one of them -/
def Seven (w : World) (g o : Nat) (P : Tx) (v z s r : Int) (b : Bool) (A : Option Addr) (m C : Nat) : Prop := w.cell? ⟨g, o, none⟩ = some (.string (tx P)) ∧ w.cell? ⟨g, o + 1, none⟩ = some (.int .i64 v) ∧ w.cell? ⟨g, o + 2, none⟩ = some (.int .i64 z) ∧ w.cell? ⟨g, o + 3, none⟩ = some (.int .i64 s) ∧ w.cell? ⟨g, o + 4, none⟩ = some (.int .i64 r) ∧ w.cell? ⟨g, o + 5, none⟩ = some (.bool b) ∧ w.cell? ⟨g, o + 6, none⟩ = some (.slice A m C)
theorem Seven.old {w w' : World} {g o : Nat} {P : Tx} {v z s r : Int} {b : Bool} {A : Option Addr} {m C : Nat} (h : Seven w g o P v z s r b A m C) (hb : Below w.heap.size w w') : Seven w' g o P v z s r b A m C := by
  obtain ⟨h0, h1, h2, h3, h4, h5, h6⟩ := h
  have hl := World.block_lt_of_cell? _ _ h0
  exact ⟨(hb.cell hl).trans h0, (hb.cell (p := ⟨g, o + 1, none⟩) hl).trans h1, (hb.cell (p := ⟨g, o + 2, none⟩) hl).trans h2, (hb.cell (p := ⟨g, o + 3, none⟩) hl).trans h3, (hb.cell (p := ⟨g, o + 4, none⟩) hl).trans h4, (hb.cell (p := ⟨g, o + 5, none⟩) hl).trans h5, (hb.cell (p := ⟨g, o + 6, none⟩) hl).trans h6⟩
namespace SitsF
variable {w w' : World} {g off : Nat} {l : List Fx}
theorem seven (h : SitsF w g off l) {i : Nat} (hi : i < l.length) {x : Fx} (hx : l[i] = x) : Seven w g (off + i * 7) x.f.path x.f.version x.f.size x.f.sum x.f.serial x.f.gone x.A x.f.parts.length x.C := by
  subst hx
  obtain ⟨cur, hg, _, hc⟩ := h
  unfold Seven
  rw [heap_cell hg, heap_cell hg, heap_cell hg, heap_cell hg, heap_cell hg, heap_cell hg, heap_cell hg]
  exact ⟨hc i hi 0 _ rfl, hc i hi 1 _ rfl, hc i hi 2 _ rfl, hc i hi 3 _ rfl, hc i hi 4 _ rfl, hc i hi 5 _ rfl, hc i hi 6 _ rfl⟩
theorem free (h : SitsF w g off l) (k : Nat) : w.frozen? ⟨g, k, none⟩ = false := by
  obtain ⟨cur, hg, _⟩ := h
  exact heap_frozen hg
theorem lt (h : SitsF w g off l) : g < w.heap.size := by
  obtain ⟨cur, hg, _⟩ := h
  exact heap_lt hg
theorem block (h : SitsF w g off l) (e : w'.heap[g]? = w.heap[g]?) : SitsF w' g off l := by
  obtain ⟨cur, hg, hc⟩ := h
  exact ⟨cur, e.trans hg, hc⟩
theorem old (h : SitsF w g off l) (hb : Below w.heap.size w w') : SitsF w' g off l := h.block (hb.block g h.lt)
theorem drew (h : SitsF w g off l) : SitsF w.drew g off l := h
theorem some_ (h : SitsF w g off l) {k : Nat} (hk : k < off + l.length * 7) : (w.cell? ⟨g, k, none⟩).isSome = true := by
  obtain ⟨cur, hb, hs, _⟩ := h
  rw [heap_cell hb, Array.getElem?_eq_getElem (by omega)]; rfl
/-- one of them is stored into -/
theorem set (h : SitsF w g off l) {i : Nat} (hi : i < l.length) (x : Fx) :
    SitsF (((((((w.setCell ⟨g, off + i * 7, none⟩ (.string (tx x.f.path))).setCell ⟨g, off + i * 7 + 1, none⟩ (.int .i64 x.f.version)).setCell ⟨g, off + i * 7 + 2, none⟩ (.int .i64 x.f.size)).setCell ⟨g, off + i * 7 + 3, none⟩ (.int .i64 x.f.sum)).setCell ⟨g, off + i * 7 + 4, none⟩ (.int .i64 x.f.serial)).setCell ⟨g, off + i * 7 + 5, none⟩ (.bool x.f.gone)).setCell ⟨g, off + i * 7 + 6, none⟩ (.slice x.A x.f.parts.length x.C)) g off (l.set i x) := by
  obtain ⟨cur, hg, hs, hc⟩ := h
  refine ⟨_, heap_set (heap_set (heap_set (heap_set (heap_set (heap_set (heap_set hg _) _) _) _) _) _) _, by simpa using hs, fun k hk j u hu => ?_⟩
  rw [List.length_set] at hk
  have hin : off + i * 7 + 7 ≤ cur.size := by
    have : (i + 1) * 7 ≤ l.length * 7 := Nat.mul_le_mul_right _ hi
    omega
  have hj : j < 7 := by
    have := (List.getElem?_eq_some_iff.1 hu).1
    simpa [Fx.enc] using this
  simp only [Array.getElem?_setIfInBounds, Array.size_setIfInBounds]
  by_cases e : k = i
  · subst e
    rw [List.getElem_set_self] at hu
    match j, hu, hj with
    | 0, hu, _ => cases hu; simp (disch := omega); omega
    | 1, hu, _ => cases hu; simp (disch := omega); omega
    | 2, hu, _ => cases hu; simp (disch := omega); omega
    | 3, hu, _ => cases hu; simp (disch := omega); omega
    | 4, hu, _ => cases hu; simp (disch := omega); omega
    | 5, hu, _ => cases hu; simp (disch := omega); omega
    | 6, hu, _ => cases hu; simp (disch := omega); omega
    | j + 7, _, hj => omega
  · rw [List.getElem_set_ne (fun h => e h.symm)] at hu
    rw [if_neg (by omega), if_neg (by omega), if_neg (by omega), if_neg (by omega), if_neg (by omega), if_neg (by omega), if_neg (by omega)]
    exact hc k hk j u hu
theorem kp_set (w : World) (g a b c d e f h : Nat) (u0 u1 u2 u3 u4 u5 u6 : Value) : Kp (· = g) w (((((((w.setCell ⟨g, a, none⟩ u0).setCell ⟨g, b, none⟩ u1).setCell ⟨g, c, none⟩ u2).setCell ⟨g, d, none⟩ u3).setCell ⟨g, e, none⟩ u4).setCell ⟨g, f, none⟩ u5).setCell ⟨g, h, none⟩ u6) :=
  (((((((Kp.store _ _ _ _).trans (Kp.store _ _ _ _)).trans (Kp.store _ _ _ _)).trans (Kp.store _ _ _ _)).trans (Kp.store _ _ _ _)).trans (Kp.store _ _ _ _)).trans (Kp.store _ _ _ _))
/-- as a row that reads -/
theorem rd (h : SitsF w g off l) {G : Nat → Prop} (hg : G g) : encF.Rd w (some ⟨g, off, none⟩) l G := fun hn => by
  obtain ⟨cur, hb, _, hc⟩ := h
  refine ⟨g, off, rfl, hg, fun i hi j u hu => ?_⟩
  rw [heap_cell hb]; exact hc i hi j u hu
theorem take (h : SitsF w g off l) (k : Nat) : SitsF w g off (l.take k) := by
  obtain ⟨cur, hb, hs, hc⟩ := h
  refine ⟨cur, hb, ?_, fun i hi j u hu => ?_⟩
  · rw [List.length_take]
    have : min k l.length * 7 ≤ l.length * 7 := Nat.mul_le_mul_right _ (Nat.min_le_right _ _)
    omega
  · rw [List.length_take] at hi
    rw [List.getElem_take] at hu
    exact hc i (by omega) j u hu
end SitsF
/-- a row that a call owns, as one that sits in a block -/
theorem sitsF_own {w : World} {base : Nat} {v : Value} {l : List Fx} (h : encF.Own w base 46 v l) : (v = .slice none 0 0 ∧ l = []) ∨ ∃ g C, v = .slice (some ⟨g, 0, none⟩) l.length C ∧ l.length ≤ C ∧ C ≤ maxLen ∧ base ≤ g ∧ SitsF w g 0 l := by
  rcases h.2 with ⟨rfl, h0⟩ | ⟨g, cap, cur, rfl, hb, hg, hnc, hcm, hs, ht⟩
  · exact .inl ⟨rfl, List.length_eq_zero_iff.1 h0⟩
  · refine .inr ⟨g, cap, rfl, hnc, hcm, hb, cur, hg, ?_, fun i hi j u hu => ?_⟩
    · rw [hs, Nat.zero_add]; exact Nat.mul_le_mul_right _ hnc
    · have hj : j < 7 := by
        have := (List.getElem?_eq_some_iff.1 hu).1
        simpa [Fx.enc] using this
      have hx := encF.cells_get l i j hj hi
      have hlt : i * 7 + j < l.length * 7 := by
        have h1 : (i + 1) * 7 ≤ l.length * 7 := Nat.mul_le_mul_right _ hi
        omega
      rw [← ht, List.getElem?_take] at hx
      have e5 : encF.k = 7 := rfl
      rw [e5, if_pos hlt, Array.getElem?_toList] at hx
      rw [Nat.zero_add, hx]; exact hu
end Go.Proofs.YtbijjgicjkmopaaDoor
namespace Go.Proofs.YtbijjgicjkmopaaDoor
open Go.RowKit

theorem infoRowT : (Tryd.prog.info? 28).map (fun i => (i.zero, i.size, i.bytes)) = some (some (.slice none 0 0), 1, 24) := by kernel_rfl
end Go.Proofs.YtbijjgicjkmopaaDoor
namespace Go.Proofs.YtbijjgicjkmopaaDoor
open Go.RowKit
open Pt (Tx)

/-- v is a slice of the call's own whose rows us are the call's own, hold bs, and lie in blocks of G, no two in one -/
structure TopB (w : World) (B : Nat) (G : Nat → Prop) (v : Value) (us : List Value) (bs : List Tx) : Prop where
  top : w.ownsRow B 28 1 v us.length us
  len : us.length = bs.length
  rows : ∀ i (h : i < us.length) (h' : i < bs.length), OwnL w B us[i] bs[i]
  gs : ∀ i (h : i < us.length) k, us[i].ownBlock = some k → G k
  inj : ∀ i j (hi : i < us.length) (hj : j < us.length) k, us[i].ownBlock = some k → us[j].ownBlock = some k → i = j
theorem own_blk {w : World} {B : Nat} {t : TypeId} {v : Value} {n : Nat} {xs : List Value} (h : w.ownsRow B t 1 v n xs) : ∀ k, v.ownBlock = some k → ∃ c, w.heap[k]? = some (.cells c t (0, 0)) := by
  intro k hk
  rcases h.2 with ⟨rfl, _⟩ | ⟨g, cap, cur, rfl, _, hg, _⟩
  · cases hk
  · cases hk; exact ⟨cur, hg⟩
theorem own_of {w w' : World} {B : Nat} {t : TypeId} {v : Value} {n : Nat} {xs : List Value} (h : w.ownsRow B t 1 v n xs) (hb : ∀ k, v.ownBlock = some k → w'.heap[k]? = w.heap[k]?) : w'.ownsRow B t 1 v n xs := by
  refine ⟨h.1, ?_⟩
  rcases h.2 with h0 | ⟨g, cap, cur, rfl, hb', hg, hr⟩
  · exact .inl h0
  · exact .inr ⟨g, cap, cur, rfl, hb', (hb g rfl).trans hg, hr⟩
namespace TopB
variable {w w' : World} {B : Nat} {G G' : Nat → Prop} {v : Value} {us : List Value} {bs : List Tx}
theorem nil (w : World) (B : Nat) (G : Nat → Prop) : TopB w B G (.slice none 0 0) [] [] :=
  ⟨World.ownsRow_nil _ _ _ _, rfl, fun i h => absurd h (by simp), fun i h => absurd h (by simp), fun i j h => absurd h (by simp)⟩
/-- what is not touched is as it was -/
theorem kp {S : Nat → Prop} (h : TopB w B G v us bs) (hk : Kp S w w') (h1 : ∀ k c, S k → w.heap[k]? ≠ some (.cells c 28 (0, 0))) (h2 : ∀ k, S k → ¬ G k) : TopB w' B G v us bs := by
  refine ⟨own_of h.top fun k e => ?_, h.len, fun i hi hi' => (h.rows i hi hi').kp hk fun k e hs => h2 k hs (h.gs i hi k e), h.gs, h.inj⟩
  obtain ⟨c, hc⟩ := own_blk h.top k e
  exact hk.block k (heap_lt hc) fun hs => h1 k c hs hc
/-- the same, told by what lies there -/
theorem kpT {S : Nat → Prop} (h : TopB w B G v us bs) (hk : Kp S w w') (h1 : ∀ k c, S k → w.heap[k]? ≠ some (.cells c 28 (0, 0))) (h2 : ∀ k c, S k → w.heap[k]? ≠ some (.cells c 5 (0, 0))) : TopB w' B G v us bs := by
  refine ⟨own_of h.top fun k e => ?_, h.len, fun i hi hi' => (h.rows i hi hi').kp hk fun k e hs => ?_, h.gs, h.inj⟩
  · obtain ⟨c, hc⟩ := own_blk h.top k e
    exact hk.block k (heap_lt hc) fun hs => h1 k c hs hc
  · obtain ⟨c, hc⟩ := (h.rows i hi hi').block k e
    exact h2 k c hs hc
theorem old (h : TopB w B G v us bs) (hb : Below w.heap.size w w') : TopB w' B G v us bs :=
  h.kp (S := fun _ => False) (Kp.of_below hb) (fun _ _ h => h.elim) (fun _ h => h.elim)
theorem mono (h : TopB w B G v us bs) (hg : ∀ k, G k → G' k) : TopB w B G' v us bs := ⟨h.top, h.len, h.rows, fun i hi k e => hg k (h.gs i hi k e), h.inj⟩
/-- all its rows are there -/
theorem there (h : TopB w B G v us bs) : TopB w B (fun k => G k ∧ k < w.heap.size) v us bs :=
  ⟨h.top, h.len, h.rows, fun i hi k e => ⟨h.gs i hi k e, (h.rows i hi (by rw [← h.len]; exact hi)).lt k e⟩, h.inj⟩
/-- as a value -/
theorem val (h : TopB w B G v us bs) : ∃ A C, v = .slice A bs.length C ∧ bs.length ≤ C ∧ C ≤ maxLen ∧ (A = none → bs.length = 0 ∧ C = 0) := by
  rcases h.top.2 with ⟨rfl, h0⟩ | ⟨g, cap, cur, rfl, _, _, hnc, hcm, _⟩
  · have : bs.length = 0 := by rw [← h.len, h0]
    exact ⟨none, 0, by rw [this], by omega, by decide, fun _ => ⟨this, rfl⟩⟩
  · exact ⟨_, cap, by rw [← h.len], by rw [← h.len]; exact hnc, hcm, fun h => by cases h⟩
/-- as what reads -/
theorem rdB {A : Option Addr} {n C : Nat} (h : TopB w B G (.slice A n C) us bs) : RdB w A bs (fun k => B ≤ k) := by
  intro hn
  rcases h.top.2 with ⟨e, h0⟩ | ⟨g, cap, cur, e, hb, hg, hnc, _, hs, ht⟩
  · have := h.len; omega
  · injection e with e1 e2 e3
    subst e1
    refine ⟨g, 0, rfl, hb, fun i hi => ?_⟩
    have hi' : i < us.length := by rw [h.len]; exact hi
    obtain ⟨A', C', hv, h1, -, h2, h3⟩ := (h.rows i hi' hi).rd
    refine ⟨A', C', ?_, h1, h2, h3.mono fun _ h => h.1⟩
    have hx : us[i]? = some (.slice A' bs[i].length C') := by rw [List.getElem?_eq_getElem hi', hv]
    rw [← ht, List.getElem?_take, if_pos (by omega), Array.getElem?_toList] at hx
    rw [Nat.zero_add, heap_cell hg, hx]
/-- a row is appended -/
theorem push (h : TopB w B G v us bs) {w1 : World} (hw : Below w.heap.size w w1) {u : Value} {s : Tx} (hu : OwnL w1 B u s) (hun : ∀ k, u.ownBlock = some k → w.heap.size ≤ k) (hG : ∀ k, u.ownBlock = some k → G k) {v' : Value} (ho : w'.ownsRow B 28 1 v' (us.length + 1) (us ++ [u])) (hg : w1.grownBy w' v.ownBlock) :
    TopB w' B G v' (us ++ [u]) (bs ++ [s]) := by
  have keep : ∀ {x : Value} {l : Tx}, OwnL w1 B x l → OwnL w' B x l := fun {x l} hx => hx.of_block fun k e => by
    refine hg.block k (hx.lt k e) fun e' => ?_
    obtain ⟨c, hc⟩ := own_blk h.top k e'.symm
    obtain ⟨c', hc'⟩ := hx.block k e
    rw [hw.block k (heap_lt hc), hc] at hc'
    injection hc' with hc'
    injection hc' with _ e2
    exact absurd e2 (by decide)
  have oldlt : ∀ i (hi : i < us.length) k, us[i].ownBlock = some k → k < w.heap.size := fun i hi k e => (h.rows i hi (by rw [← h.len]; exact hi)).lt k e
  refine ⟨by simpa using ho, by simp [h.len], fun i hi hi' => ?_, fun i hi k e => ?_, fun i j hi hj k e e' => ?_⟩
  · rcases Nat.lt_or_ge i us.length with hl | hl
    · rw [List.getElem_append_left hl, List.getElem_append_left (by rw [← h.len]; exact hl)]
      exact keep ((h.rows i hl (by rw [← h.len]; exact hl)).of_block fun k e => hw.block k (oldlt i hl k e))
    · have : i = us.length := by simp at hi; omega
      subst this
      have e2 : (bs ++ [s])[us.length] = s := by simp [h.len]
      rw [e2]
      simp only [List.getElem_concat_length]
      exact keep hu
  · rcases Nat.lt_or_ge i us.length with hl | hl
    · rw [List.getElem_append_left hl] at e
      exact h.gs i hl k e
    · have : i = us.length := by simp at hi; omega
      subst this
      simp only [List.getElem_concat_length] at e
      exact hG k e
  · rcases Nat.lt_or_ge i us.length with hl | hl <;> rcases Nat.lt_or_ge j us.length with hm | hm
    · rw [List.getElem_append_left hl] at e
      rw [List.getElem_append_left hm] at e'
      exact h.inj i j hl hm k e e'
    · have : j = us.length := by simp at hj; omega
      subst this
      rw [List.getElem_append_left hl] at e
      simp only [List.getElem_concat_length] at e'
      have := oldlt i hl k e
      have := hun k e'
      omega
    · have : i = us.length := by simp at hi; omega
      subst this
      rw [List.getElem_append_left hm] at e'
      simp only [List.getElem_concat_length] at e
      have := oldlt j hm k e'
      have := hun k e
      omega
    · simp at hi hj; omega
end TopB
/-- append of one row -/
theorem wpList_append_tp (w : World) {ops : Array Oper} {rest : List Oper} {o : Oper} {a : Act} {Q : Exit → Act → World → Prop} (hgd : o.guard = none) (s x : Operand)
    (ho : o.op = .call { callee := .builtin .append, args := #[s, x], argTypes := #[25, 25] })
    (base : Nat) (v : Value) (us : List Value) (hs : a.eval s = v) (hown : w.ownsRow base 28 1 v us.length us) (hl : us.length ≤ 1000000)
    (b off c : Nat) (A : Option Addr) (L C : Nat) (hx : a.eval x = .slice (some ⟨b, off, none⟩) 1 c) (hc : w.cell? ⟨b, off, none⟩ = some (.slice A L C)) (hbase : base ≤ w.heap.size)
    (h : ∀ v' w', w'.ownsRow base 28 1 v' (us.length + 1) (us ++ [.slice A L C]) → w.grownBy w' v.ownBlock → wpList Tryd.prog ops Q rest (a.put o.dst v') w') : wpList Tryd.prog ops Q (o :: rest) a w := by
  obtain ⟨i0, hi, hz0, hz1, hz2⟩ := info_parts infoRowT
  refine wpList_append_opt w hgd s x 25 ho base 28 i0 (.slice none 0 0) 24 Tryd.underlying25 hi hz0 hz1 hz2 rfl v us.length us hs hown (some ⟨b, off, none⟩) 1 c [.slice A L C] hx (fun h => by cases h) rfl (fun ad had j u hu => ?_) (fun u hu => by rw [List.mem_singleton.1 hu]; rfl) (by unfold maxLen; omega) (by omega) hbase h
  cases had
  have hj : j = 0 := by
    rcases Nat.eq_zero_or_pos j with h0 | h0
    · exact h0
    · rw [List.getElem?_eq_none (by simp; omega)] at hu; cases hu
  subst hj
  cases hu
  exact hc
end Go.Proofs.YtbijjgicjkmopaaDoor
namespace Go.Proofs.YtbijjgicjkmopaaDoor
open Go.RowKit
open Pt (Tx)

/-- one cell of an own row is set -/
theorem own_put {w : World} {base g C n : Nat} {t : TypeId} {xs : List Value} (h : w.ownsRow base t 1 (.slice (some ⟨g, 0, none⟩) n C) n xs) {j : Nat} (hj : j < n) (u : Value) : (w.setCell ⟨g, j, none⟩ u).ownsRow base t 1 (.slice (some ⟨g, 0, none⟩) n C) n (xs.set j u) := by
  refine ⟨by rw [List.length_set]; exact h.1, ?_⟩
  rcases h.2 with ⟨e, _⟩ | ⟨g', cap, cur, e, hb, hg, hnc, hcm, hs, ht⟩
  · cases e
  · cases e
    refine .inr ⟨g, C, cur.setIfInBounds j u, rfl, hb, heap_set hg _, hnc, hcm, by simpa using hs, ?_⟩
    rw [Nat.mul_one] at ht ⊢
    rw [← ht]
    apply List.ext_getElem?
    intro i
    simp only [List.getElem?_take, Array.getElem?_toList, Array.getElem?_setIfInBounds, List.getElem?_set, List.length_take, Array.length_toList]
    by_cases hi : i < n
    · by_cases e : j = i
      · subst e
        rw [if_pos hi, if_pos rfl, if_pos rfl, if_pos (by omega), if_pos (by rw [Nat.min_def]; split <;> omega)]
      · rw [if_pos hi, if_neg e, if_neg e, if_pos hi]
    · have : j ≠ i := by omega
      rw [if_neg hi, if_neg this, if_neg hi]
/-- v is a slice of the call's own whose lists us are the call's own, and no two in one block -/
structure Gs (w : World) (base : Nat) (v : Value) (us : List Value) (ls : List (List Ct.P)) : Prop where
  top : w.ownsRow base 42 1 v us.length us
  len : us.length = ls.length
  rows : ∀ i (h : i < us.length) (h' : i < ls.length), encQ.Own w base 44 us[i] ls[i]
  inj : ∀ i j (hi : i < us.length) (hj : j < us.length) k, us[i].ownBlock = some k → us[j].ownBlock = some k → i = j
namespace Gs
variable {w x y z : World} {base : Nat} {v v' : Value} {us : List Value} {ls : List (List Ct.P)}
theorem nil (w : World) (base : Nat) : Gs w base (.slice none 0 0) [] [] :=
  ⟨World.ownsRow_nil _ _ _ _, rfl, fun i h => absurd h (by simp), fun i j h => absurd h (by simp)⟩
theorem old (h : Gs x base v us ls) (hb : Below x.heap.size x y) : Gs y base v us ls := by
  refine ⟨own_of h.top fun k e => hb.block k (h.top.lt k e).2, h.len, fun i hi hi' => (h.rows i hi hi').old hb, h.inj⟩
theorem lo (h : Gs x base v us ls) {k : Nat} (e : v.ownBlock = some k) : base ≤ k ∧ k < x.heap.size := h.top.lt k e
/-- what turns no cells turns none of it -/
theorem keep (h : Gs x base v us ls) (hb : ∀ (k : Nat) (c : Array Value) (t : TypeId), x.heap[k]? = some (.cells c t (0, 0)) → y.heap[k]? = x.heap[k]?) : Gs y base v us ls := by
  refine ⟨own_of h.top fun k e => ?_, h.len, fun i hi hi' => (h.rows i hi hi').of_block fun k e => ?_, h.inj⟩
  · obtain ⟨c, hc⟩ := own_blk h.top k e
    exact hb k c _ hc
  · obtain ⟨c, hc⟩ := (h.rows i hi hi').block k e
    exact hb k c _ hc
/-- what grows is no list of parts -/
theorem apart (h : Gs x base v us ls) {k : Nat} (e : v.ownBlock = some k) {i : Nat} (hi : i < us.length) (e' : us[i].ownBlock = some k) : False := by
  obtain ⟨c, hc⟩ := own_blk h.top k e
  obtain ⟨c', hc'⟩ := (h.rows i hi (by rw [← h.len]; exact hi)).block k e'
  rw [hc] at hc'
  injection hc' with hc'
  injection hc' with _ e2
  exact absurd e2 (by decide)
/-- an empty list more -/
theorem snoc (h : Gs x base v us ls) (hb : Below x.heap.size x y) (ho : z.ownsRow base 42 1 v' (us.length + 1) (us ++ [.slice none 0 0])) (hg : y.grownBy z v.ownBlock) : Gs z base v' (us ++ [.slice none 0 0]) (ls ++ [[]]) := by
  refine ⟨by rw [List.length_append]; exact ho, by simp [h.len], fun i hi hi' => ?_, fun i j hi hj k e e' => ?_⟩
  · rcases Nat.lt_or_ge i us.length with hl | hl
    · rw [List.getElem_append_left hl, List.getElem_append_left (by rw [← h.len]; exact hl)]
      refine (h.rows i hl (by rw [← h.len]; exact hl)).of_block fun k e => ?_
      have hk := (h.rows i hl (by rw [← h.len]; exact hl)).lt k e
      exact (hg.block k (Nat.lt_of_lt_of_le hk.2 hb.size) (fun e' => h.apart e'.symm hl e)).trans (hb.block k hk.2)
    · have : i = us.length := by simp at hi; omega
      subst this
      have e2 : (ls ++ [[]])[us.length] = ([] : List Ct.P) := by simp [h.len]
      rw [e2, List.getElem_concat_length rfl]
      exact Enc.Own.nil _ _ _
  · rcases Nat.lt_or_ge i us.length with hl | hl <;> rcases Nat.lt_or_ge j us.length with hm | hm
    · rw [List.getElem_append_left hl] at e
      rw [List.getElem_append_left hm] at e'
      exact h.inj i j hl hm k e e'
    · rw [List.getElem_append_right hm] at e'
      simp [Value.ownBlock] at e'
    · rw [List.getElem_append_right hl] at e
      simp [Value.ownBlock] at e
    · simp at hi hj; omega
/-- one of the lists has a part more, and is stored -/
theorem push {g C j : Nat} {u : Value} {p : Ct.P} {gu Nu Cu : Nat} (h : Gs x base (.slice (some ⟨g, 0, none⟩) us.length C) us ls) (hj : j < us.length) (hj' : j < ls.length) (hb : Below x.heap.size x y) (hu : u = .slice (some ⟨gu, 0, none⟩) Nu Cu) (ho : encQ.Own z base 44 u (ls[j] ++ [p])) (hg : y.grownBy z us[j].ownBlock) (hat : us[j].ownBlock = some gu ∨ x.heap.size ≤ gu) :
    Gs (z.setCell ⟨g, j, none⟩ u) base (.slice (some ⟨g, 0, none⟩) us.length C) (us.set j u) (ls.set j (ls[j] ++ [p])) := by
  have hgb := (h.lo (k := g) rfl).2
  have hng : us[j].ownBlock ≠ some g := fun e => h.apart rfl hj e
  have hzg : z.heap[g]? = x.heap[g]? := (hg.block g (Nat.lt_of_lt_of_le hgb hb.size) (fun e => hng e.symm)).trans (hb.block g hgb)
  have htop : z.ownsRow base 42 1 (.slice (some ⟨g, 0, none⟩) us.length C) us.length us := own_of h.top fun k e => by cases e; exact hzg
  have hug : u.ownBlock ≠ some g := fun e => by
    obtain ⟨c, hc⟩ := own_blk htop g rfl
    obtain ⟨c', hc'⟩ := ho.block g e
    rw [hc] at hc'
    injection hc' with hc'
    injection hc' with _ e2
    exact absurd e2 (by decide)
  have hset : ∀ k, k ≠ g → (z.setCell ⟨g, j, none⟩ u).heap[k]? = z.heap[k]? := fun k hk => Below.heap_setCell _ _ _ _ (fun e => hk e)
  have keep : ∀ i (hi : i < us.length) (hi' : i < ls.length), i ≠ j → encQ.Own (z.setCell ⟨g, j, none⟩ u) base 44 us[i] ls[i] := fun i hi hi' hne => by
    refine (h.rows i hi hi').of_block fun k e => ?_
    have hk := (h.rows i hi hi').lt k e
    have h1 : k ≠ g := fun e' => h.apart rfl hi (by rw [e, e'])
    exact (hset k h1).trans ((hg.block k (Nat.lt_of_lt_of_le hk.2 hb.size) (fun e' => hne (h.inj i j hi hj k e e'.symm))).trans (hb.block k hk.2))
  refine ⟨by rw [List.length_set]; exact own_put htop hj u, by rw [List.length_set, List.length_set, h.len], fun i hi hi' => ?_, fun a b ha hb' k e e' => ?_⟩
  · rw [List.length_set] at hi hi'
    by_cases e : i = j
    · subst e
      rw [List.getElem_set_self, List.getElem_set_self]
      exact ho.of_block fun k ek => hset k fun e2 => hug (by rw [ek, e2])
    · rw [List.getElem_set_ne (Ne.symm e), List.getElem_set_ne (Ne.symm e)]
      exact keep i hi hi' e
  · rw [List.length_set] at ha hb'
    have key : ∀ i (hi : i < us.length), i ≠ j → us[i].ownBlock ≠ some gu := fun i hi hne ei => by
      rcases hat with hat | hat
      · exact hne (h.inj i j hi hj gu ei hat)
      · have := ((h.rows i hi (by rw [← h.len]; exact hi)).lt gu ei).2; omega
    have hub : u.ownBlock = some gu := by rw [hu]; rfl
    by_cases ea : a = j <;> by_cases eb : b = j
    · omega
    · subst ea
      rw [List.getElem_set_self, hub] at e
      cases e
      rw [List.getElem_set_ne (Ne.symm eb)] at e'
      exact absurd e' (key b (by simpa using hb') eb)
    · subst eb
      rw [List.getElem_set_self, hub] at e'
      cases e'
      rw [List.getElem_set_ne (Ne.symm ea)] at e
      exact absurd e (key a (by simpa using ha) ea)
    · rw [List.getElem_set_ne (Ne.symm ea)] at e
      rw [List.getElem_set_ne (Ne.symm eb)] at e'
      exact h.inj a b (by simpa using ha) (by simpa using hb') k e e'
/-- as a value -/
theorem form (h : Gs x base v us ls) (h0 : 0 < us.length) : ∃ g C, v = .slice (some ⟨g, 0, none⟩) us.length C ∧ us.length ≤ C ∧ base ≤ g ∧ g < x.heap.size ∧ (∀ j u, us[j]? = some u → x.cell? ⟨g, j, none⟩ = some u) ∧ (∀ k, x.frozen? ⟨g, k, none⟩ = false) := by
  rcases h.top.2 with ⟨_, e⟩ | ⟨g, cap, cur, e, hb, hg, hnc, _, hs, ht⟩
  · omega
  · refine ⟨g, cap, e, hnc, hb, heap_lt hg, fun j u hx => ?_, fun k => heap_frozen hg⟩
    have hj : j < us.length := (List.getElem?_eq_some_iff.1 hx).1
    rw [← ht, List.getElem?_take, if_pos (by omega), Array.getElem?_toList] at hx
    rw [heap_cell hg, hx]
/-- each as what reads -/
theorem rd (h : Gs x base v us ls) {j : Nat} (hj : j < us.length) (hj' : j < ls.length) : ∃ A C, us[j] = .slice A ls[j].length C ∧ ls[j].length ≤ C ∧ (A = none → ls[j].length = 0 ∧ C = 0) ∧ encQ.Rd x A ls[j] (fun _ => True) := by
  obtain ⟨A, C, e, h1, _, h3, h4⟩ := (h.rows j hj hj').rd
  exact ⟨A, C, e, h1, h3, h4.mono fun _ _ => trivial⟩
end Gs
/-- a part appended to a list, as an equation, and where it lies -/
theorem apQ_run (w : World) (base : Nat) (v : Value) (l : List Ct.P) (hown : encQ.Own w base 44 v l) (hl : l.length ≤ 1000000) (ad : Addr) (p : Ct.P) (hnews : ∀ j u, (encQ.cells [p])[j]? = some u → w.cell? (ad.add j) = some u) (hbase : base ≤ w.heap.size) (c : Nat) :
    ∃ g C w', (∀ ty, (Builtin.append_ #[42, 42] ty #[v, .slice (some ad) 1 c]).run Tryd.prog w = .ok (.slice (some ⟨g, 0, none⟩) (l.length + 1) C) w') ∧ encQ.Own w' base 44 (.slice (some ⟨g, 0, none⟩) (l.length + 1) C) (l ++ [p]) ∧ w.grownBy w' v.ownBlock ∧ (v.ownBlock = some g ∨ g = w.heap.size) := by
  obtain ⟨i0, hi, hz0, hz1, hz2⟩ := info_parts infoPart
  obtain ⟨g, cap, z, hr, ho, hg, hat, hlt⟩ := run_append_lies (P := Tryd.prog) (w := w) 42 3 base 44 i0 _ 10 88 Tryd.underlying42 hi hz0 hz1 hz2 rfl (by decide) v l.length (encQ.cells l) hown ad 1 c (encQ.cells [p]) (Enc.cells_len encQ [p]) hnews (Enc.cells_all encQ [p]) (by decide) (by unfold maxLen; omega) (by omega) hbase w.heap.size rfl
  refine ⟨g, cap, z, fun ty => hr, ?_, hg, hat⟩
  unfold Enc.Own
  rw [Enc.cells_append, List.length_append]
  exact ho
end Go.Proofs.YtbijjgicjkmopaaDoor
namespace Go.Proofs.YtbijjgicjkmopaaDoor.Ct
open Pt (Tx)

theorem put_map (gs : G) (i : Nat) (p : P) : (put gs i p).map (·.2) = (gs.map (·.2)).modify i (· ++ [p]) := by
  apply List.ext_getElem?
  intro j
  unfold put
  rw [List.getElem?_map, List.getElem?_modify, List.getElem?_modify, List.getElem?_map]
  cases gs[j]? with
  | none => rfl
  | some g => by_cases e : i = j <;> simp [e]
theorem add_some {gs : G} {p : P} {i : Nat} (h : idx gs (common p.h) = some i) : (add gs p).map (·.2) = (gs.map (·.2)).modify i (· ++ [p]) := by
  unfold add; rw [h]; exact put_map gs i p
theorem add_none {gs : G} {p : P} (h : idx gs (common p.h) = none) : (add gs p).map (·.2) = (gs.map (fun g : Rc.H × List P => g.2) ++ [[]]).modify gs.length (fun l => l ++ [p]) := by
  unfold add; rw [h]
  show (put (gs ++ [(common p.h, [])]) gs.length p).map (·.2) = _
  rw [put_map, List.map_append]; rfl
theorem idx_add_some {gs : G} {p : P} {i : Nat} (h : idx gs (common p.h) = some i) (k : Rc.H) : idx (add gs p) k = idx gs k := by
  unfold add; rw [h]; exact idx_put gs i p k
theorem idx_add_none {gs : G} {p : P} (h : idx gs (common p.h) = none) (k : Rc.H) : idx (add gs p) k = if k = common p.h then some gs.length else idx gs k := by
  unfold add; rw [h]
  show idx (put (gs ++ [(common p.h, [])]) gs.length p) k = _
  rw [idx_put, idx_snoc]
  by_cases e : k = common p.h
  · subst e
    rw [h, if_pos rfl]
  · rw [if_neg e]
    cases idx gs k with
    | none => simp [Ne.symm e]
    | some i => rfl
theorem add_len_some {gs : G} {p : P} {i : Nat} (h : idx gs (common p.h) = some i) : (add gs p).length = gs.length := by
  unfold add; rw [h]; exact put_len gs i p
theorem add_len_none {gs : G} {p : P} (h : idx gs (common p.h) = none) : (add gs p).length = gs.length + 1 := by
  unfold add; rw [h]
  show (put (gs ++ [(common p.h, [])]) gs.length p).length = _
  rw [put_len]; simp
theorem set_modify {α : Type} (l : List α) (i : Nat) (f : α → α) (h : i < l.length) : l.set i (f l[i]) = l.modify i f := by
  apply List.ext_getElem?
  intro j
  rw [List.getElem?_set, List.getElem?_modify]
  by_cases e : i = j
  · subst e
    rw [if_pos rfl, if_pos h, List.getElem?_eq_getElem h]
    simp
  · rw [if_neg e]
    cases l[j]? <;> simp [e]
theorem scan_ok {t : Vo.T} : ∀ (f n : Nat), ∀ q ∈ Vo.scan t f n, Rc.Ok q.1 := by
  intro f
  induction f with
  | zero => intro n q hq; cases hq
  | succ f ih =>
    intro n q hq
    rw [Vo.scan] at hq
    split at hq
    · split at hq
      · rename_i h hp
        rcases List.mem_cons.1 hq with rfl | hq
        · exact (Vo.part_in hp).2
        · exact ih _ q hq
      · exact ih _ q hq
    · cases hq
theorem parts_ok {t : St.T} {p : P} (h : p ∈ partsOf t) : Rc.Ok p.h := by
  unfold partsOf at h
  obtain ⟨q, hq, rfl⟩ := List.mem_map.1 h
  exact scan_ok _ _ q hq
theorem all_ok {ts : List St.T} {p : P} (h : p ∈ all ts) : Rc.Ok p.h := by
  unfold all at h
  obtain ⟨t, _, ht⟩ := List.mem_flatMap.1 h
  exact parts_ok ht
/-- the parts of the first i tapes, and of the next one the first j -/
def upto (ts : List St.T) (l : List P) (i j : Nat) : List P := all (ts.take i) ++ l.take j
theorem upto_zero (ts : List St.T) (l : List P) (i : Nat) : upto ts l i 0 = all (ts.take i) := by unfold upto; simp
theorem upto_succ {ts : List St.T} {l : List P} {i j : Nat} (hj : j < l.length) : upto ts l i (j + 1) = upto ts l i j ++ [l[j]] := by
  unfold upto
  rw [List.take_succ_eq_append_getElem hj, List.append_assoc]
theorem upto_all {ts : List St.T} {i : Nat} (hi : i < ts.length) {j : Nat} (hj : (partsOf ts[i]).length ≤ j) : upto ts (partsOf ts[i]) i j = all (ts.take (i + 1)) := by
  unfold upto
  rw [List.take_of_length_le hj, all_take hi]
theorem upto_le {ts : List St.T} {i j : Nat} (hi : i < ts.length) : (upto ts (partsOf ts[i]) i j).length ≤ (all ts).length := by
  have h1 : (upto ts (partsOf ts[i]) i j).length ≤ (all (ts.take (i + 1))).length := by
    rw [all_take hi]
    unfold upto
    rw [List.length_append, List.length_append, List.length_take]
    omega
  have h2 : all ts = all (ts.take (i + 1)) ++ all (ts.drop (i + 1)) := by
    unfold all
    rw [← List.flatMap_append, List.take_append_drop]
  rw [h2, List.length_append]; omega
end Go.Proofs.YtbijjgicjkmopaaDoor.Ct
