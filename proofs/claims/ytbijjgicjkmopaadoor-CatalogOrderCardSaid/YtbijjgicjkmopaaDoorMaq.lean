/- Maps of whole numbers that a call makes, by numbers and by heads, as functions that may tell nothing. No function of the program. What common and behind of package catalog answer: what a head says of its file, and the byte behind a part. What firstAt of package catalog answers: a map of the first part at each byte. What inRow of package catalog answers: the parts that lie one behind the other from byte 0 to the end. Tapes in memory: a slice of tapes that reads as a list, and parity as it is made, a slice of slices of rows. No function of the program. -/
import Derived.Test.YtbijjgicjkmopaaDoorMaf
import Derived.Test.YtbijjgicjkmopaaDoorMab
import Derived.Test.YtbijjgicjkmopaaDoorMac
import Derived.Test.YtbijjgicjkmopaaDoorRows
import Derived.Maps.OwnSet
import Derived.Maps.OwnOps
import Derived.Maps.Views
import Derived.DeepKeys4
import Derived.Test.YtbijjgicjkmopaaDoorMap
import Derived.BigQuiet
import Derived.Deep.QuietTactic
import Derived.Test.YtbijjgicjkmopaaDoorMaj
namespace Go.Proofs.YtbijjgicjkmopaaDoor
open Go.RowKit Go.Maps
open Pt (Tx)

def wfI (k : Int) : Prop := (Lit.int .i64 k).wf = true
theorem wfI_of {k : Int} (h : -9223372036854775808 ≤ k ∧ k ≤ 9223372036854775807) : wfI k := by unfold wfI; exact WalkArith.wf_i64 (by omega)
/-- a kind of keys: how each is a value -/
structure Ks (κ : Type) where
  k : TypeId
  m : TypeId
  val : κ → Value
  ok : κ → Prop
  keyed : Keyed Tryd.prog k
  map : Tryd.prog.underlying m = some (.map k 3)
  key : ∀ x, ok x → ∃ l, keyOf Tryd.prog k (val x) = some l
  inj : ∀ x y, val x = val y → x = y
theorem zeroI17 (w : World) : (zeroValue 3).run Tryd.prog w = .ok (.int .i64 0) w := by kernel_rfl
/-- block b holds a map of at most n entries that tells f x at x -/
def MpO {κ : Type} (K : Ks κ) (w : World) (b n : Nat) (f : κ → Option Int) : Prop :=
  ∃ D : DataW Unit, w.ownsMap Tryd.prog K.k (plainElem Tryd.prog 3) b n D ∧ ∀ x, K.ok x → ∀ l, keyOf Tryd.prog K.k (K.val x) = some l → Maps.has D l = (f x).isSome ∧ D.atKey l (.lit (.int .i64 0)) = .lit (.int .i64 ((f x).getD 0))
namespace MpO
variable {κ : Type} {K : Ks κ} {w w' : World} {b n : Nat} {f g : κ → Option Int}
theorem made (w : World) : MpO K (w.alloc (.map #[] 0)) w.heap.size 0 (fun _ => none) := ⟨.map [], World.ownsMap_made _ _ _ _, fun _ _ _ _ => ⟨rfl, rfl⟩⟩
theorem lt (h : MpO K w b n f) : b < w.heap.size := by obtain ⟨D, ho, _⟩ := h; exact ho.lt
theorem old (h : MpO K w b n f) (hb : Below w.heap.size w w') : MpO K w' b n f := by
  obtain ⟨D, ho, hd⟩ := h
  exact ⟨D, ho.kept (⟨hb.os, hb.tape, hb.output, hb.size, fun k hk _ => hb.block k hk⟩ : w.grownBy w' none) (by simp), hd⟩
theorem grown (h : MpO K w b n f) {row : Option Nat} (hg : w.grownBy w' row) (hne : some b ≠ row) : MpO K w' b n f := by
  obtain ⟨D, ho, hd⟩ := h
  exact ⟨D, ho.kept hg hne, hd⟩
theorem cell (h : MpO K w b n f) (g i : Nat) (v : Value) (hne : b ≠ g) : MpO K (w.setCell ⟨g, i, none⟩ v) b n f := by
  obtain ⟨D, ho, hd⟩ := h
  exact ⟨D, ho.setCell (a := ⟨g, i, none⟩) hne v, hd⟩
theorem congr (h : MpO K w b n f) (e : ∀ x, K.ok x → f x = g x) : MpO K w b n g := by
  obtain ⟨D, ho, hd⟩ := h
  exact ⟨D, ho, fun x hx l hl => by rw [← e x hx]; exact hd x hx l hl⟩
/-- it is no block of cells -/
theorem ne (h : MpO K w b n f) {g : Nat} {c : Array Value} {t : TypeId} {fr : Nat × Nat} (hg : w.heap[g]? = some (.cells c t fr)) : b ≠ g := by
  rintro rfl
  obtain ⟨D, ho, _⟩ := h
  obtain ⟨es, clock, hb, _⟩ := ho
  rw [hg] at hb
  cases hb
set_option maxRecDepth 100000 in
theorem look (h : MpO K w b n f) {x : κ} (hx : K.ok x) : (Instr.lookup K.m (.map (some b)) (K.val x) true).run Tryd.prog w = .ok (.tuple #[.int .i64 ((f x).getD 0), .bool (f x).isSome]) w := by
  obtain ⟨D, ho, hd⟩ := h
  obtain ⟨l, hl⟩ := K.key x hx
  obtain ⟨v, ps, hrun, hv⟩ := ho.look_ok K.keyed K.map (zeroI17 w) (plainElem_int Tryd.underlying3 (by decide)) hl
  obtain ⟨h1, h2⟩ := hd x hx l hl
  rw [h1] at hrun
  rw [h2] at hv
  obtain ⟨c, rfl, hc, hwc⟩ := plainElem_int_inv Tryd.underlying3 hv
  have hc' : (f x).getD 0 = c := by
    have := congrArg Prod.fst hc
    injection this with this
    injection this
  rw [← hc'] at hrun
  exact hrun
set_option maxRecDepth 100000 in
theorem put (h : MpO K w b n f) {x : κ} {u : Int} (hn : n < maxLen) (hx : K.ok x) (hu : wfI u) [DecidableEq κ] : ∃ w', (Instr.mapUpdate K.m (.map (some b)) (K.val x) (.int .i64 u)).run Tryd.prog w = .ok () w' ∧ MpO K w' b (n + 1) (fun y => if y = x then some u else f y) ∧ w.grownBy w' (some b) := by
  obtain ⟨D, ho, hd⟩ := h
  obtain ⟨l, hl⟩ := K.key x hx
  obtain ⟨w', hrun, ho', hg⟩ := ho.update K.keyed K.map hn hl (plainElem_int Tryd.underlying3 hu)
  refine ⟨w', hrun, ⟨_, ho', fun y hy l' hl' => ?_⟩, hg⟩
  by_cases e : y = x
  · subst e
    have : l' = l := Option.some.inj (hl'.symm.trans hl)
    subst this
    have hk := K.keyed.key hl'
    simp only [if_true]
    exact ⟨has_put_same ho.isMap hk _, atKey_put_same ho.isMap hk _ _⟩
  · have hne : l' ≠ l := fun e' => e (K.inj _ _ (K.keyed.inj (e' ▸ hl') hl))
    simp only [e, if_false]
    rw [has_put_other hne, atKey_put_other hne]
    exact hd y hy l' hl'
end MpO
set_option maxRecDepth 100000 in
def ksI : Ks Int where
  k := 3
  m := 83
  val k := .int .i64 k
  ok := wfI
  keyed := int_keyed Tryd.underlying3
  map := Tryd.underlying83
  key x hx := ⟨_, keyOf_int_mk Tryd.underlying3 hx⟩
  inj x y h := by injection h
/-- a head as a value -/
def headV (h : Rc.H) : Value := .agg #[.string (tx h.path), .int .i64 h.version, .int .i64 h.size, .int .i64 h.from_, .int .i64 h.len, .int .i64 h.serial, .int .i64 h.sum, .bool h.gone]
structure HeadW (h : Rc.H) : Prop where
  path : h.path.length ≤ maxLen
  version : wfI h.version
  size : wfI h.size
  from_ : wfI h.from_
  len : wfI h.len
  serial : wfI h.serial
  sum : wfI h.sum
theorem head_cells : Tryd.prog.cellsOf 36 = 8 := by kernel_rfl
theorem cells_s : Tryd.prog.cellsOf 9 = 1 := by kernel_rfl
theorem cells_i : Tryd.prog.cellsOf 3 = 1 := by kernel_rfl
theorem cells_b : Tryd.prog.cellsOf 4 = 1 := by kernel_rfl
theorem head_keyType : Tryd.prog.keyType 36 = true := by kernel_rfl
theorem types_pos : ∃ m, Tryd.prog.types.size = m + 1 := ⟨Tryd.prog.types.size - 1, by
  have : 0 < Tryd.prog.types.size := of_decide_eq_true (by kernel_rfl)
  omega⟩
set_option maxRecDepth 100000 in
theorem head_key (h : Rc.H) (k : HeadW h) : ∃ l, keyOf Tryd.prog 36 (headV h) = some l := by
  obtain ⟨m, hm⟩ := types_pos
  have hs : (tx h.path).size ≤ maxLen := by rw [tx_size]; exact k.path
  obtain ⟨-, k1, k2, k3, k4, k5, k6⟩ := k
  unfold wfI at k1 k2 k3 k4 k5 k6
  have hf : (headV h).formed Tryd.prog 36 = true := by simp [headV, Value.formed, Tryd.underlying36, head_cells]
  have hk : ∃ ls, Tryd.prog.keyLits (Tryd.prog.types.size + 1) 36 (headV h).cells.toList = some ls := by
    rw [hm]
    simp [Program.keyLits, Tryd.underlying36, Tryd.underlying9, Tryd.underlying3, Tryd.underlying4, head_cells, cells_s, cells_i, cells_b, headV, Value.cells, hs, k1, k2, k3, k4, k5, k6]
  obtain ⟨ls, hls⟩ := hk
  refine ⟨.string (keyBytes ls), ?_⟩
  unfold keyOf
  rw [Tryd.underlying36]
  simp only [head_keyType, hf, Bool.and_self, if_true, hls, Option.map_some]
theorem laidOut17 : laidOutB Tryd.prog = true := by kernel_rfl
theorem head_row : (36 : TypeId) < Tryd.prog.types.size := of_decide_eq_true (by kernel_rfl)
theorem head_wide : (match Tryd.prog.underlying 36 with | some (.array _ _) | some (.struct _) => true | _ => false) = true := by kernel_rfl
set_option maxRecDepth 100000 in
def ksH : Ks Rc.H where
  k := 36
  m := 75
  val := headV
  ok := HeadW
  keyed := Keyed.of_law (deep_law_laid laidOut17 (m := 3) (by omega) head_row (by kernel_rfl) head_wide)
  map := Tryd.underlying75
  key := head_key
  inj x y h := by
    obtain ⟨p, v, z, f, l, s, m, g⟩ := x
    obtain ⟨p', v', z', f', l', s', m', g'⟩ := y
    unfold headV at h
    injection h with h
    injection h with h
    simp at h
    obtain ⟨h1, h2, h3, h4, h5, h6, h7, h8⟩ := h
    rw [tx_inj h1, h2, h3, h4, h5, h6, h7, h8]
end Go.Proofs.YtbijjgicjkmopaaDoor
namespace Go.Proofs.YtbijjgicjkmopaaDoor
open Go.RowKit
open Pt (Tx)

theorem eight_kp (w : World) (g : Nat) (a b c d e f h i : Value) : Kp (· = g) w ((((((((w.setCell ⟨g, 0, none⟩ a).setCell ⟨g, 1, none⟩ b).setCell ⟨g, 2, none⟩ c).setCell ⟨g, 3, none⟩ d).setCell ⟨g, 4, none⟩ e).setCell ⟨g, 5, none⟩ f).setCell ⟨g, 6, none⟩ h).setCell ⟨g, 7, none⟩ i) :=
  (((((((Kp.store _ _ _ _).trans (Kp.store _ _ _ _)).trans (Kp.store _ _ _ _)).trans (Kp.store _ _ _ _)).trans (Kp.store _ _ _ _)).trans (Kp.store _ _ _ _)).trans (Kp.store _ _ _ _)).trans (Kp.store _ _ _ _)
theorem eight_set {w : World} {g : Nat} {p0 : Tx} {v0 z0 f0 l0 s0 m0 : Int} {g0 : Bool} (h : w.heap[g]? = some (headObj p0 v0 z0 f0 l0 s0 m0 g0)) (p : Tx) (v z f l s m : Int) (x : Bool) :
    ((((((((w.setCell ⟨g, 0, none⟩ (.string (tx p))).setCell ⟨g, 1, none⟩ (.int .i64 v)).setCell ⟨g, 2, none⟩ (.int .i64 z)).setCell ⟨g, 3, none⟩ (.int .i64 f)).setCell ⟨g, 4, none⟩ (.int .i64 l)).setCell ⟨g, 5, none⟩ (.int .i64 s)).setCell ⟨g, 6, none⟩ (.int .i64 m)).setCell ⟨g, 7, none⟩ (.bool x)).heap[g]? = some (headObj p v z f l s m x) := by
  have h0 : (w.setCell ⟨g, 0, none⟩ (.string (tx p))).heap[g]? = some (.cells #[.string (tx p), .int .i64 v0, .int .i64 z0, .int .i64 f0, .int .i64 l0, .int .i64 s0, .int .i64 m0, .bool g0] 36) := heap_set h _
  have h1 : ((w.setCell ⟨g, 0, none⟩ (.string (tx p))).setCell ⟨g, 1, none⟩ (.int .i64 v)).heap[g]? = some (.cells #[.string (tx p), .int .i64 v, .int .i64 z0, .int .i64 f0, .int .i64 l0, .int .i64 s0, .int .i64 m0, .bool g0] 36) := heap_set h0 _
  have h2 : (((w.setCell ⟨g, 0, none⟩ (.string (tx p))).setCell ⟨g, 1, none⟩ (.int .i64 v)).setCell ⟨g, 2, none⟩ (.int .i64 z)).heap[g]? = some (.cells #[.string (tx p), .int .i64 v, .int .i64 z, .int .i64 f0, .int .i64 l0, .int .i64 s0, .int .i64 m0, .bool g0] 36) := heap_set h1 _
  have h3 : ((((w.setCell ⟨g, 0, none⟩ (.string (tx p))).setCell ⟨g, 1, none⟩ (.int .i64 v)).setCell ⟨g, 2, none⟩ (.int .i64 z)).setCell ⟨g, 3, none⟩ (.int .i64 f)).heap[g]? = some (.cells #[.string (tx p), .int .i64 v, .int .i64 z, .int .i64 f, .int .i64 l0, .int .i64 s0, .int .i64 m0, .bool g0] 36) := heap_set h2 _
  have h4 : (((((w.setCell ⟨g, 0, none⟩ (.string (tx p))).setCell ⟨g, 1, none⟩ (.int .i64 v)).setCell ⟨g, 2, none⟩ (.int .i64 z)).setCell ⟨g, 3, none⟩ (.int .i64 f)).setCell ⟨g, 4, none⟩ (.int .i64 l)).heap[g]? = some (.cells #[.string (tx p), .int .i64 v, .int .i64 z, .int .i64 f, .int .i64 l, .int .i64 s0, .int .i64 m0, .bool g0] 36) := heap_set h3 _
  have h5 : ((((((w.setCell ⟨g, 0, none⟩ (.string (tx p))).setCell ⟨g, 1, none⟩ (.int .i64 v)).setCell ⟨g, 2, none⟩ (.int .i64 z)).setCell ⟨g, 3, none⟩ (.int .i64 f)).setCell ⟨g, 4, none⟩ (.int .i64 l)).setCell ⟨g, 5, none⟩ (.int .i64 s)).heap[g]? = some (.cells #[.string (tx p), .int .i64 v, .int .i64 z, .int .i64 f, .int .i64 l, .int .i64 s, .int .i64 m0, .bool g0] 36) := heap_set h4 _
  have h6 : (((((((w.setCell ⟨g, 0, none⟩ (.string (tx p))).setCell ⟨g, 1, none⟩ (.int .i64 v)).setCell ⟨g, 2, none⟩ (.int .i64 z)).setCell ⟨g, 3, none⟩ (.int .i64 f)).setCell ⟨g, 4, none⟩ (.int .i64 l)).setCell ⟨g, 5, none⟩ (.int .i64 s)).setCell ⟨g, 6, none⟩ (.int .i64 m)).heap[g]? = some (.cells #[.string (tx p), .int .i64 v, .int .i64 z, .int .i64 f, .int .i64 l, .int .i64 s, .int .i64 m, .bool g0] 36) := heap_set h5 _
  have h7 : ((((((((w.setCell ⟨g, 0, none⟩ (.string (tx p))).setCell ⟨g, 1, none⟩ (.int .i64 v)).setCell ⟨g, 2, none⟩ (.int .i64 z)).setCell ⟨g, 3, none⟩ (.int .i64 f)).setCell ⟨g, 4, none⟩ (.int .i64 l)).setCell ⟨g, 5, none⟩ (.int .i64 s)).setCell ⟨g, 6, none⟩ (.int .i64 m)).setCell ⟨g, 7, none⟩ (.bool x)).heap[g]? = some (.cells #[.string (tx p), .int .i64 v, .int .i64 z, .int .i64 f, .int .i64 l, .int .i64 s, .int .i64 m, .bool x] 36) := heap_set h6 _
  exact h7
set_option maxRecDepth 100000 in
set_option maxHeartbeats 1000000 in
theorem common_any (p : Tx) (v z f l s m : Int) (g : Bool) (w : World) :
    Calls Tryd.prog 29 #[.agg #[.string (tx p), .int .i64 v, .int .i64 z, .int .i64 f, .int .i64 l, .int .i64 s, .int .i64 m, .bool g]] w fun e w' => e = .returned (.agg #[.string (tx p), .int .i64 v, .int .i64 z, .int .i64 0, .int .i64 0, .int .i64 s, .int .i64 m, .bool g]) ∧ Below w.heap.size w w' := by
  obtain ⟨w1, hw1⟩ : ∃ x, x = w.alloc (headObj p v z f l s m g) := ⟨_, rfl⟩
  obtain ⟨w2, hw2⟩ : ∃ x, x = w1.alloc (headObj [] 0 0 0 0 0 0 false) := ⟨_, rfl⟩
  have hs1 : w1.heap.size = w.heap.size + 1 := by rw [hw1]; simp
  have b1 : Below w.heap.size w w1 := by rw [hw1]; exact (Below.refl _ _).alloc (Nat.le_refl _) _
  have b2 : Below w1.heap.size w1 w2 := by rw [hw2]; exact (Below.refl _ _).alloc (Nat.le_refl _) _
  have b12 : Below w.heap.size w w2 := b1.trans (b2.mono b1.size)
  have k1 : w2.heap[w.heap.size]? = some (headObj p v z f l s m g) := below_head b2 (by rw [hw1]; exact Go.Deep.blk_alloc_new _ _)
  have k2 : w2.heap[w.heap.size + 1]? = some (headObj [] 0 0 0 0 0 0 false) := by rw [← hs1, hw2]; exact Go.Deep.blk_alloc_new _ _
  obtain ⟨w3, hw3⟩ : ∃ x, x = (w2.setCell ⟨w.heap.size, 3, none⟩ (.int .i64 0)).setCell ⟨w.heap.size, 4, none⟩ (.int .i64 0) := ⟨_, rfl⟩
  have hk3 : Kp (· = w.heap.size) w2 w3 := by rw [hw3]; exact (Kp.store _ _ _ _).trans (Kp.store _ _ _ _)
  have b3 : Below w.heap.size w w3 := b12.trans (hk3.below b12.size fun k hk => by omega)
  have k3 : w3.heap[w.heap.size]? = some (headObj p v z 0 0 s m g) := by rw [hw3]; exact heap_set (heap_set k1 _) _
  have k4 : w3.heap[w.heap.size + 1]? = some (headObj [] 0 0 0 0 0 0 false) := (hk3.block _ (heap_lt k2) (by omega)).trans k2
  have HW : Hid (w2 = (w.alloc (.cells #[.string (tx p), .int .i64 v, .int .i64 z, .int .i64 f, .int .i64 l, .int .i64 s, .int .i64 m, .bool g] 36)).alloc (.cells #[.string ⟨#[]⟩, .int .i64 0, .int .i64 0, .int .i64 0, .int .i64 0, .int .i64 0, .int .i64 0, .bool false] 36)) := Lib.hid (by rw [hw2, hw1]; rfl)
  have HW3 := Lib.hid hw3
  have HB3 := Lib.hid b3
  have HK3 := Lib.hid k3
  have HK4 := Lib.hid k4
  obtain ⟨-, -, -, x3, x4, -, -, -⟩ := head8 k1
  obtain ⟨-, -, -, f3, f4, -, -, -⟩ := head_free k1
  clear hw1 hw2 hw3 hs1 b1 b2 b12 k1 k2 hk3 b3 k3 k4
  go_enter Tryd.func29, Tryd.ntmps29
  go_upto_region 1 with fail
  rw [← HW.out]
  go_upto_region 2 with fail
  rw [← HW3.out]
  clear x3 x4 f3 f4
  obtain ⟨x0, x1, x2, x3, x4, x5, x6, x7⟩ := head8 HK3.out
  obtain ⟨y0, y1, y2, y3, y4, y5, y6, y7⟩ := head8 HK4.out
  obtain ⟨f0, f1, f2, f3, f4, f5, f6, f7⟩ := head_free HK4.out
  go_wp2
  obtain ⟨z0, z1, z2, z3, z4, z5, z6, z7⟩ := head8 (eight_set HK4.out p v z 0 0 s m g)
  exact bodyPost_ret (v := .agg #[.string (tx p), .int .i64 v, .int .i64 z, .int .i64 0, .int .i64 0, .int .i64 s, .int .i64 m, .bool g]) (by simp [results, Tryd.results29, go_sem, z0, z1, z2, z3, z4, z5, z6, z7]) rfl ⟨rfl, HB3.out.trans ((eight_kp w3 (w.heap.size + 1) _ _ _ _ _ _ _ _).below HB3.out.size fun k hk => by omega)⟩
/-- numbers that no sum of two leads out of -/
def Mid (n : Int) : Prop := -1000000000 ≤ n ∧ n ≤ 1000000000
set_option maxRecDepth 100000 in
set_option maxHeartbeats 1000000 in
theorem goOn_any (p : Tx) (v z f l s m : Int) (g : Bool) (w : World) (hf : Mid f) (hl : Mid l) :
    Calls Tryd.prog 35 #[.agg #[.string (tx p), .int .i64 v, .int .i64 z, .int .i64 f, .int .i64 l, .int .i64 s, .int .i64 m, .bool g]] w fun e w' => e = .returned (.tuple #[.int .i64 (f + l), .bool true]) ∧ Below w.heap.size w w' := by
  have HB : Hid (Below w.heap.size w (w.alloc (headObj p v z f l s m g))) := Lib.hid ((Below.refl _ _).alloc (Nat.le_refl _) _)
  have hK : (w.alloc (headObj p v z f l s m g)).heap[w.heap.size]? = some (headObj p v z f l s m g) := Go.Deep.blk_alloc_new _ _
  obtain ⟨x0, x1, x2, x3, x4, x5, x6, x7⟩ := head8 hK
  unfold headObj at x0 x1 x2 x3 x4 x5 x6 x7 HB
  obtain ⟨hf1, hf2⟩ := hf
  obtain ⟨hl1, hl2⟩ := hl
  obtain ⟨e, he⟩ : ∃ e, e = f + l := ⟨_, rfl⟩
  have hw1 : IntKind.i64.wrap (f + l) = e := by rw [he]; exact IntWalk.i64_in _ (by omega)
  have hq : (decide (e < f) == decide (l < 0)) = true := by
    by_cases h : l < 0
    · rw [decide_eq_true h, decide_eq_true (show e < f by omega)]; rfl
    · rw [decide_eq_false h, decide_eq_false (show ¬ e < f by omega)]; rfl
  have HE := Lib.hid he
  clear hK hf1 hf2 hl1 hl2 he
  go_enter Tryd.func35, Tryd.ntmps35
  go_wp2
  go_quiet (fail)
  go_wp2
  go_ret2
  rw [← HE.out]
  exact ⟨rfl, HB.out.trans ⟨rfl, rfl, rfl, Nat.le_refl _, fun _ _ => rfl⟩⟩
end Go.Proofs.YtbijjgicjkmopaaDoor
namespace Go.Proofs.YtbijjgicjkmopaaDoor
open Go.RowKit
open Pt (Tx)

namespace Ct
def firstZ (ps : List P) (size : Int) (k : Nat) (c : Int) : Option Int := (first (ps.take k) size c).map fun i => (i : Int)
theorem firstZ_zero (ps : List P) (size c : Int) : firstZ ps size 0 c = none := rfl
theorem firstZ_all {ps : List P} {size : Int} {k : Nat} (h : ps.length ≤ k) (c : Int) : firstZ ps size k c = (first ps size c).map fun i => (i : Int) := by unfold firstZ; rw [List.take_of_length_le h]
theorem firstZ_no {ps : List P} {size c : Int} {k : Nat} (hk : k < ps.length) (h : goes size c ps[k] = false) : firstZ ps size (k + 1) c = firstZ ps size k c := by
  unfold firstZ
  rw [first_take hk, h]
  cases first (ps.take k) size c <;> rfl
theorem firstZ_old {ps : List P} {size c : Int} {k : Nat} (hk : k < ps.length) (h : (firstZ ps size k c).isSome = true) : firstZ ps size (k + 1) c = firstZ ps size k c := by
  unfold firstZ at h ⊢
  rw [first_take hk]
  cases e : first (ps.take k) size c with
  | none => rw [e] at h; cases h
  | some i => rfl
theorem firstZ_new {ps : List P} {size c : Int} {k : Nat} (hk : k < ps.length) (h : (firstZ ps size k c).isSome = false) (hg : goes size c ps[k] = true) : firstZ ps size (k + 1) c = some (k : Int) := by
  unfold firstZ at h ⊢
  rw [first_take hk, hg]
  cases e : first (ps.take k) size c with
  | none => rfl
  | some i => rw [e] at h; cases h
end Ct
set_option maxRecDepth 100000 in
set_option maxHeartbeats 4000000 in
theorem firstAt_any (A : Option Addr) (ps : List Ct.P) (n C : Nat) (G : Nat → Prop) (size : Int) (w : World) (hn : n = ps.length) (hm : n ≤ 1000000) (hr : encQ.Rd w A ps G) (hw : ∀ p ∈ ps, wfI p.h.from_) :
    Calls Tryd.prog 34 #[.slice A n C, .int .i64 size] w fun e w' => ∃ b, e = .returned (.map (some b)) ∧ w.heap.size ≤ b ∧ MpO ksI w' b n (fun c => (Ct.first ps size c).map fun i => (i : Int)) ∧ Below w.heap.size w w' := by
  have hmm := @run_makeMap Tryd.prog
  have HN := Lib.hid hn
  have HR := Lib.hid hr
  have HWF := Lib.hid hw
  obtain ⟨w1, hw1⟩ : ∃ x, x = w.alloc (.map #[] 0) := ⟨_, rfl⟩
  have HB1 : Hid (Below w.heap.size w w1) := Lib.hid (by rw [hw1]; exact (Below.refl _ _).alloc (Nat.le_refl _) _)
  have HM0 : Hid (MpO ksI w1 w.heap.size 0 (Ct.firstZ ps size 0)) := Lib.hid (by rw [hw1]; exact (MpO.made w).congr fun k _ => rfl)
  have HW1 := Lib.hid hw1
  clear hn hr hw hw1
  go_enter Tryd.func34, Tryd.ntmps34
  go_wp2_with fail
  rw [← HW1.out]
  go_loopw [13] (fun vi wr => ∃ i : Nat, i ≤ n ∧ vi = .int .i64 (i : Int) ∧ Hid (MpO ksI wr w.heap.size i (Ct.firstZ ps size i)) ∧ Hid (Below w.heap.size w wr)) (fun vi _ => n - (intOf vi).toNat)
  case atStart => exact ⟨0, Nat.zero_le _, rfl, HM0, HB1⟩
  case round =>
    obtain ⟨i, hi, rfl, HMP, HB⟩ := hrel
    by_cases hlt : i < n
    · have e0 : decide (i < n) = true := decide_eq_true hlt
      have hlt' : i < ps.length := by rw [← HN.out]; exact hlt
      obtain ⟨b, off, rfl, -, t1⟩ := ten_of (HR.out.old HB.out) hlt'
      obtain ⟨⟨⟨P, v, z, f, l, s, m, g⟩, lab, at_⟩, hx⟩ : ∃ x, x = ps[i] := ⟨_, rfl⟩
      have HX := Lib.hid hx
      have HWX : Hid (wfI f) := Lib.hid (by have := HWF.out ps[i] (List.getElem_mem hlt'); rw [← hx] at this; exact this)
      rw [← hx] at t1
      obtain ⟨wp, hwp⟩ : ∃ y, y = wr.alloc (partO ⟨⟨P, v, z, f, l, s, m, g⟩, lab, at_⟩) := ⟨_, rfl⟩
      have hbp : Below wr.heap.size wr wp := by rw [hwp]; exact (Below.refl _ _).alloc (Nat.le_refl _) _
      have hkp : wp.heap[wr.heap.size]? = some (partO ⟨⟨P, v, z, f, l, s, m, g⟩, lab, at_⟩) := by rw [hwp]; exact Go.Deep.blk_alloc_new _ _
      have KP := Lib.hid hkp
      have HBP := Lib.hid (HB.out.trans (hbp.mono HB.out.size))
      have HMP2 := Lib.hid (HMP.out.old hbp)
      have HW : Hid (wp = wr.alloc (.cells #[.string (tx P), .int .i64 v, .int .i64 z, .int .i64 f, .int .i64 l, .int .i64 s, .int .i64 m, .bool g, .int .i64 lab, .int .i64 at_] 44)) := Lib.hid hwp
      obtain ⟨c0, c1, c2, c3, c4, c5, c6, c7, c8, c9⟩ := t1
      dsimp only at c0 c1 c2 c3 c4 c5 c6 c7 c8 c9
      have hcase : (decide (0 < size) = true ∧ decide (l ≤ 0) = true ∧ ∀ c, Ct.goes size c ps[i] = false) ∨ (decide (0 < size) = true ∧ decide (l ≤ 0) = false ∧ ∀ c, Ct.goes size c ps[i] = decide (f = c)) ∨ (decide (0 < size) = false ∧ True ∧ ∀ c, Ct.goes size c ps[i] = decide (f = c)) := by
        rw [← hx]
        unfold Ct.goes
        by_cases h1 : 0 < size
        · by_cases h2 : l ≤ 0
          · exact .inl ⟨decide_eq_true h1, decide_eq_true h2, fun c => by simp [h1, h2]⟩
          · exact .inr (.inl ⟨decide_eq_true h1, decide_eq_false h2, fun c => by simp [h1, h2]⟩)
        · exact .inr (.inr ⟨decide_eq_false h1, trivial, fun c => by simp [h1]⟩)
      clear hx hwp hkp hbp
      go_upto_region 5 with fail
      rw [← HW.out]
      clear c0 c1 c2 c3 c4 c5 c6 c7 c8 c9
      obtain ⟨d0, d1, d2, d3, d4, d5, d6, d7, d8, d9⟩ := part10 KP.out
      rcases hcase with ⟨e1, e2, hno⟩ | hcase
      · have HM2 := Lib.hid (HMP2.out.congr fun c _ => (Ct.firstZ_no hlt' (hno c)).symm)
        have HM3 : Hid (MpO ksI wp w.heap.size (i + 1) (Ct.firstZ ps size (i + 1))) := Lib.hid (by
          obtain ⟨D, ho, hd⟩ := HM2.out
          exact ⟨D, ho.mono (Nat.le_succ _), hd⟩)
        clear hno
        go_wp2
        go_roundw
        case rel => exact ⟨i + 1, by omega, by go_num, HM3, HBP⟩
        case measure => simp [intOf]; omega
      · have hcase' : ∃ q, q = Ct.firstZ ps size i f := ⟨_, rfl⟩
        obtain ⟨q, hq⟩ := hcase'
        have hlk : (Instr.lookup 83 (.map (some w.heap.size)) (.int .i64 f) true).run Tryd.prog wp = .ok (.tuple #[.int .i64 (q.getD 0), .bool q.isSome]) wp := by rw [hq]; exact HMP2.out.look HWX.out
        have HQ := Lib.hid hq
        have HG : Hid (∀ c, Ct.goes size c ps[i] = decide (f = c)) := Lib.hid (by rcases hcase with ⟨-, -, h⟩ | ⟨-, -, h⟩ <;> exact h)
        have hcase2 : (decide (0 < size) = true ∧ decide (l ≤ 0) = false) ∨ (decide (0 < size) = false ∧ True) := by rcases hcase with ⟨h1, h2, -⟩ | ⟨h1, h2, -⟩; exact .inl ⟨h1, h2⟩; exact .inr ⟨h1, h2⟩
        clear hcase hq
        cases q with
        | some k =>
          have HM3 : Hid (MpO ksI wp w.heap.size (i + 1) (Ct.firstZ ps size (i + 1))) := Lib.hid (by
            obtain ⟨D, ho, hd⟩ := HMP2.out.congr (g := Ct.firstZ ps size (i + 1)) fun c _ => by
              by_cases e : f = c
              · subst e; exact (Ct.firstZ_old hlt' (by rw [← HQ.out]; rfl)).symm
              · exact (Ct.firstZ_no hlt' (by rw [HG.out]; exact decide_eq_false e)).symm
            exact ⟨D, ho.mono (Nat.le_succ _), hd⟩)
          have hlk' : (Instr.lookup 83 (.map (some w.heap.size)) (.int .i64 f) true).run Tryd.prog wp = .ok (.tuple #[.int .i64 k, .bool true]) wp := hlk
          clear hlk
          rcases hcase2 with ⟨e1, e2⟩ | ⟨e1, e2⟩
          all_goals
            go_wp2
            go_roundw
            case rel => exact ⟨i + 1, by omega, by go_num, HM3, HBP⟩
            case measure => simp [intOf]; omega
        | none =>
          have hlk' : (Instr.lookup 83 (.map (some w.heap.size)) (.int .i64 f) true).run Tryd.prog wp = .ok (.tuple #[.int .i64 0, .bool false]) wp := hlk
          clear hlk
          obtain ⟨w4, hup, hm4, hg4⟩ := HMP2.out.put (u := (i : Int)) (show i < maxLen by unfold maxLen; omega) HWX.out (wfI_of (by omega))
          have hup' : (Instr.mapUpdate 83 (.map (some w.heap.size)) (.int .i64 f) (.int .i64 (i : Int))).run Tryd.prog wp = .ok () w4 := hup
          have HM4 := Lib.hid (hm4.congr (g := Ct.firstZ ps size (i + 1)) fun c _ => by
            by_cases e : c = f
            · subst e
              rw [if_pos rfl]
              exact (Ct.firstZ_new hlt' (by rw [← HQ.out]; rfl) (by rw [HG.out]; exact decide_eq_true rfl)).symm
            · rw [if_neg e]
              exact (Ct.firstZ_no hlt' (by rw [HG.out]; exact decide_eq_false (Ne.symm e))).symm)
          have HB4 := Lib.hid (HBP.out.grown hg4 HBP.out.size (fun k hk => by injection hk with hk; omega))
          clear hm4 hg4 hup
          rcases hcase2 with ⟨e1, e2⟩ | ⟨e1, e2⟩
          all_goals
            go_wp2
            go_roundw
            case rel => exact ⟨i + 1, by omega, by go_num, HM4, HB4⟩
            case measure => simp [intOf]; omega
    · have e0 : decide (i < n) = false := decide_eq_false hlt
      have him : i = n := by omega
      have HE : Hid (MpO ksI wr w.heap.size n (fun c => (Ct.first ps size c).map fun i => (i : Int))) := Lib.hid (by
        rw [him] at HMP
        exact HMP.out.congr fun c _ => Ct.firstZ_all (by rw [HN.out]; exact Nat.le_refl _) c)
      clear him
      go_wp2
      go_ret
      exact ⟨_, rfl, Nat.le_refl _, HE.out, HB.out⟩
end Go.Proofs.YtbijjgicjkmopaaDoor
namespace Go.Proofs.YtbijjgicjkmopaaDoor
open Go.RowKit
open Pt (Tx)

theorem first_is {ps : List Ct.P} {size c : Int} {i : Nat} (h : Ct.first ps size c = some i) : ∃ hi : i < ps.length, ps[i]? = some ps[i] := ⟨Ct.first_lt h, List.getElem?_eq_getElem _⟩
theorem Ten.grown {x y : World} {g o : Nat} {p : Ct.P} {row : Option Nat} (h : Ten x g o p) (hg : x.grownBy y row) (hne : some g ≠ row) : Ten y g o p := by
  obtain ⟨h0, h1, h2, h3, h4, h5, h6, h7, h8, h9⟩ := h
  have hl := World.block_lt_of_cell? _ _ h0
  have hb := hg.block g hl hne
  have hk : ∀ (q : Addr) u, q.block = g → x.cell? q = some u → y.cell? q = some u := fun q u hq hu => (World.cell?_of_block (by rw [hq]; exact hb)).trans hu
  exact ⟨hk _ _ rfl h0, hk _ _ rfl h1, hk _ _ rfl h2, hk _ _ rfl h3, hk _ _ rfl h4, hk _ _ rfl h5, hk _ _ rfl h6, hk _ _ rfl h7, hk _ _ rfl h8, hk _ _ rfl h9⟩
/-- numbers of a part that no sum leads out of -/
def Tame (p : Ct.P) : Prop := Mid p.h.from_ ∧ Mid p.h.len
theorem Tame.wf {p : Ct.P} (h : Tame p) : wfI p.h.from_ := by obtain ⟨⟨h1, h2⟩, -⟩ := h; exact wfI_of (by omega)
/-- what inRow answers -/
def RowW (o : Option (List Ct.P)) (w : World) (e : Ending) (w' : World) : Prop :=
  (match o with
    | some r => ∃ v, e = .returned (.tuple #[v, .bool true]) ∧ encQ.Own w' w.heap.size 44 v r
    | none => e = .returned (.tuple #[.slice none 0 0, .bool false])) ∧ Below w.heap.size w w'
theorem RowW.no {o : Option (List Ct.P)} {w w' : World} (h : o = none) (hb : Below w.heap.size w w') : RowW o w (.returned (.tuple #[.slice none 0 0, .bool false])) w' := by subst h; exact ⟨rfl, hb⟩
theorem RowW.yes {o : Option (List Ct.P)} {r : List Ct.P} {v : Value} {w w' : World} (h : o = some r) (hO : encQ.Own w' w.heap.size 44 v r) (hb : Below w.heap.size w w') : RowW o w (.returned (.tuple #[v, .bool true])) w' := by subst h; exact ⟨⟨v, rfl, hO⟩, hb⟩
set_option maxRecDepth 100000 in
set_option maxHeartbeats 8000000 in
theorem inRow_any (A : Option Addr) (ps : List Ct.P) (n C : Nat) (G : Nat → Prop) (size : Int) (w : World) (hn : n = ps.length) (hm : n ≤ 1000000) (hr : encQ.Rd w A ps G) (ht : ∀ p ∈ ps, Tame p) :
    Calls Tryd.prog 23 #[.slice A n C, .int .i64 size] w (RowW (Ct.row ps size) w) := by
  by_cases hs : size < 0
  · have e0 : decide (size < 0) = true := decide_eq_true hs
    have HE : Hid (Ct.row ps size = none) := Lib.hid (if_pos hs)
    clear hr ht hn hs
    go_enter Tryd.func23, Tryd.ntmps23
    go_wp2
    go_ret2
    exact RowW.no HE.out (Below.refl _ _)
  · have e0 : decide (size < 0) = false := decide_eq_false hs
    have HE0 : Hid (Ct.row ps size = Ct.walk ps size n 0 []) := Lib.hid (by rw [hn]; exact if_neg hs)
    have HF := Lib.hid (firstAt_any A ps n C G size w hn hm hr fun p hp => (ht p hp).wf)
    have HN := Lib.hid hn
    have HR := Lib.hid hr
    have HT := Lib.hid ht
    clear hr ht hn hs
    go_enter Tryd.func23, Tryd.ntmps23
    go_wp2_with fail
    refine HF.out.mono ?_
    rintro e w1 ⟨b, rfl, hbl, hmp, hb1⟩
    have HBL := Lib.hid hbl
    have HM1 := Lib.hid hmp
    have HB1 := Lib.hid hb1
    clear hmp hb1 HF hbl
    go_wp2
    go_loopw [18, 6, 8] (fun vi vr vc wr => ∃ (k : Nat) (c : Int) (row : List Ct.P), k ≤ n ∧ row.length ≤ k ∧ vi = .int .i64 (k : Int) ∧ vc = .int .i64 c ∧ (-2000000000 ≤ c ∧ c ≤ 2000000000) ∧ Hid (Ct.row ps size = Ct.walk ps size (n - k) c row) ∧ Hid (encQ.Own wr w.heap.size 44 vr row) ∧ Hid (MpO ksI wr b n (fun c => (Ct.first ps size c).map fun i => (i : Int))) ∧ Hid (Below w.heap.size w wr)) (fun vi _ _ _ => n - (intOf vi).toNat)
    case atStart => exact ⟨0, 0, [], Nat.zero_le _, Nat.zero_le _, rfl, rfl, by omega, HE0, Lib.hid (Enc.Own.nil _ _ _), HM1, HB1⟩
    case round =>
      obtain ⟨k, c, row, hk, hrow, rfl, rfl, hc, HE, HO, HMP, HB⟩ := hrel
      by_cases hlt : k < n
      · have e1 : decide (k < n) = true := decide_eq_true hlt
        obtain ⟨fu, hfu⟩ : ∃ f, n - k = f + 1 := ⟨n - k - 1, by omega⟩
        have HFU : Hid (n - k = fu + 1) := Lib.hid hfu
        have HFU2 : Hid (n - (k + 1) = fu) := Lib.hid (by omega)
        clear hfu
        have hlk0 := HMP.out.look (x := c) (wfI_of (by omega))
        cases hfi : Ct.first ps size c with
        | none =>
          rw [hfi] at hlk0
          have hlk : (Instr.lookup 83 (.map (some b)) (.int .i64 c) true).run Tryd.prog wr = .ok (.tuple #[.int .i64 0, .bool false]) wr := hlk0
          have HX : Hid (Ct.row ps size = none) := Lib.hid (by rw [HE.out, HFU.out]; exact Ct.walk_none hfi)
          clear hfi hlk0
          go_wp2
          go_ret2
          exact RowW.no HX.out HB.out
        | some i =>
          rw [hfi] at hlk0
          have hlk : (Instr.lookup 83 (.map (some b)) (.int .i64 c) true).run Tryd.prog wr = .ok (.tuple #[.int .i64 (i : Int), .bool true]) wr := hlk0
          obtain ⟨hil, hig⟩ := first_is hfi
          obtain ⟨b0, off, rfl, -, t1⟩ := ten_of (HR.out.old HB.out) hil
          have htm := HT.out ps[i] (List.getElem_mem hil)
          have hws := Ct.walk_some (f := fu) (r := row) hfi hig
          obtain ⟨p, hp⟩ : ∃ p, p = ps[i] := ⟨_, rfl⟩
          rw [← hp] at t1 htm hws
          obtain ⟨⟨P, v, z, f, l, s, m, g⟩, lab, at_⟩ := p
          obtain ⟨hmf, hml⟩ := htm
          dsimp only at hmf hml
          have HWS := Lib.hid hws
          have T1 := Lib.hid t1
          have hin : i < n := by rw [HN.out]; exact hil
          have hin2 : (i : Int) < (n : Int) := by omega
          have i0 : (0 : Int) ≤ (i : Int) := by omega
          have HMF := Lib.hid hmf
          have HML := Lib.hid hml
          obtain ⟨e', he'⟩ : ∃ e', e' = f + l := ⟨_, rfl⟩
          have hel : -2000000000 ≤ e' ∧ e' ≤ 2000000000 := by obtain ⟨h1, h2⟩ := hmf; obtain ⟨h3, h4⟩ := hml; omega
          have HEE := Lib.hid he'
          obtain ⟨c0, c1, c2, c3, c4, c5, c6, c7, c8, c9⟩ := t1
          dsimp only at c0 c1 c2 c3 c4 c5 c6 c7 c8 c9
          have hO3 := HO.out.old (w' := wr.alloc (.cells (cells10 ⟨P, v, z, f, l, s, m, g⟩ lab at_).toArray 44)) ((Below.refl _ _).alloc (Nat.le_refl _) _)
          have HO3 := Lib.hid hO3
          have hT3 := T1.out.old (w' := wr.alloc (.cells (cells10 ⟨P, v, z, f, l, s, m, g⟩ lab at_).toArray 44)) ((Below.refl _ _).alloc (Nat.le_refl _) _)
          have HT3 := Lib.hid hT3
          have HM3 := Lib.hid (HMP.out.old (w' := wr.alloc (.cells (cells10 ⟨P, v, z, f, l, s, m, g⟩ lab at_).toArray 44)) ((Below.refl _ _).alloc (Nat.le_refl _) _))
          have HB3 := Lib.hid (HB.out.alloc HB.out.size (.cells (cells10 ⟨P, v, z, f, l, s, m, g⟩ lab at_).toArray 44))
          have hrz : w.heap.size ≤ wr.heap.size := HB.out.size
          have HLT0 : Hid (b0 < w.heap.size) := Lib.hid (by
            obtain ⟨b', off', e2, -, hcc⟩ := HR.out.at_ (i := i) hil
            cases e2
            exact World.block_lt_of_cell? _ _ (hcc 0 _ rfl))
          clear hfi hlk0 hp hil hig hws hmf hml he' hO3 hT3
          go_wp2_with (at_builtin; refine wpList_append_st' encQ _ rfl _ _ _ rfl w.heap.size 44 _ 88 Tryd.underlying42 infoPart rfl _ row rfl HO3.out ⟨wr.heap.size, 0, none⟩ 1 1 [⟨⟨P, v, z, f, l, s, m, g⟩, lab, at_⟩] rfl rfl (newCellsAt _ (cells10 ⟨P, v, z, f, l, s, m, g⟩ lab at_) _ _ rfl) (by unfold maxLen; omega) (by omega) (by simp; omega) ?_; intro v' w3 hO4 hg4; have hb4 := HB3.out.grown hg4 HB3.out.size (fun x hx => (HO3.out.lt x hx).1); have HB4 := Lib.hid hb4; have HM4 := Lib.hid (HM3.out.grown hg4 (fun e => by obtain ⟨cc, hcc⟩ := HO3.out.block b e.symm; exact HM3.out.ne hcc rfl)); have HO4 := Lib.hid hO4; obtain ⟨d0, d1, d2, d3, d4, d5, d6, d7, d8, d9⟩ := HT3.out.grown hg4 (fun e => by have h1 := (HO3.out.lt b0 e.symm).1; have h2 := HLT0.out; omega))
          clear hO4 hg4 hb4 c0 c1 c2 c3 c4 c5 c6 c7 c8 c9
          go_wp2_with fail
          refine (goOn_any P v z f l s m g _ HMF.out HML.out).mono ?_
          rw [← HEE.out]
          rintro e w5 ⟨rfl, hb5⟩
          have HB5 := Lib.hid (HB4.out.trans (hb5.mono HB4.out.size))
          have HM5 := Lib.hid (HM4.out.old hb5)
          have HO5 := Lib.hid (HO4.out.old hb5)
          clear hb5 d0 d1 d2 d3 d4 d5 d6 d7 d8 d9
          by_cases h1 : size < e'
          · have q1 : decide (size < e') = true := decide_eq_true h1
            have HX : Hid (Ct.row ps size = none) := Lib.hid (by rw [HE.out, HFU.out, HWS.out]; show (if size < f + l then none else _) = none; rw [← HEE.out, if_pos h1])
            clear h1
            go_wp2
            go_ret2
            exact RowW.no HX.out HB5.out
          · have q1 : decide (size < e') = false := decide_eq_false h1
            by_cases h2 : e' = size
            · have q2 : (e' == size) = true := by simpa using h2
              have HX : Hid (Ct.row ps size = some (row ++ [⟨⟨P, v, z, f, l, s, m, g⟩, lab, at_⟩])) := Lib.hid (by rw [HE.out, HFU.out, HWS.out]; show (if size < f + l then none else if f + l = size then _ else _) = _; rw [← HEE.out, if_neg h1, if_pos h2])
              have q3 : decide (e' = size) = true := decide_eq_true h2
              clear h1 h2
              go_wp2
              go_ret2
              exact RowW.yes HX.out HO5.out HB5.out
            · have q2 : (e' == size) = false := by simpa using h2
              have q3 : decide (e' = size) = false := decide_eq_false h2
              have HX : Hid (Ct.row ps size = Ct.walk ps size (n - (k + 1)) e' (row ++ [⟨⟨P, v, z, f, l, s, m, g⟩, lab, at_⟩])) := Lib.hid (by rw [HE.out, HFU.out, HWS.out, HFU2.out]; show (if size < f + l then none else if f + l = size then _ else _) = _; rw [← HEE.out, if_neg h1, if_neg h2])
              clear h1 h2
              go_wp2
              go_roundw
              case rel => exact ⟨k + 1, e', _, by omega, by simp; omega, by go_num, rfl, hel, HX, HO5, HM5, HB5⟩
              case measure => simp [intOf]; omega
      · have e1 : decide (k < n) = false := decide_eq_false hlt
        have HX : Hid (Ct.row ps size = none) := Lib.hid (by rw [HE.out, show n - k = 0 by omega]; rfl)
        go_wp2
        go_ret2
        exact RowW.no HX.out HB.out
end Go.Proofs.YtbijjgicjkmopaaDoor
namespace Go.Proofs.YtbijjgicjkmopaaDoor
open Go.RowKit
open Pt (Tx)

/-- the slice at A reads as these tapes; all lies in blocks of G -/
def RdT (w : World) (A : Option Addr) (ts : List St.T) (G : Nat → Prop) : Prop :=
  0 < ts.length → ∃ b off, A = some ⟨b, off, none⟩ ∧ G b ∧ ∀ i (hi : i < ts.length), ∃ A' C', w.cell? ⟨b, off + i * 4, none⟩ = some (.int .i64 ts[i].label) ∧ w.cell? ⟨b, off + i * 4 + 1, none⟩ = some (.int .i64 ts[i].cap) ∧ w.cell? ⟨b, off + i * 4 + 2, none⟩ = some (.slice A' ts[i].blocks.length C') ∧ w.cell? ⟨b, off + i * 4 + 3, none⟩ = some (.bool ts[i].lost) ∧ RdB w A' ts[i].blocks G
namespace RdT
variable {w w' : World} {A : Option Addr} {ts : List St.T} {G G' S : Nat → Prop}
theorem empty (w : World) (A : Option Addr) (G : Nat → Prop) : RdT w A [] G := fun h => absurd h (by simp)
theorem keep (h : RdT w A ts G) (hk : ∀ p v, G p.block → w.cell? p = some v → w'.cell? p = some v) : RdT w' A ts G := by
  intro hn
  obtain ⟨b, off, e, hg, hc⟩ := h hn
  refine ⟨b, off, e, hg, fun i hi => ?_⟩
  obtain ⟨A', C', h0, h1, h2, h3, h4⟩ := hc i hi
  exact ⟨A', C', hk _ _ hg h0, hk _ _ hg h1, hk _ _ hg h2, hk _ _ hg h3, h4.keep hk⟩
theorem mono (h : RdT w A ts G) (hg : ∀ b, G b → G' b) : RdT w A ts G' := by
  intro hn
  obtain ⟨b, off, e, hg', hc⟩ := h hn
  refine ⟨b, off, e, hg _ hg', fun i hi => ?_⟩
  obtain ⟨A', C', h0, h1, h2, h3, h4⟩ := hc i hi
  exact ⟨A', C', h0, h1, h2, h3, h4.mono hg⟩
theorem kp (h : RdT w A ts G) (hk : Kp S w w') (hs : ∀ b, G b → ¬ S b) : RdT w' A ts G := h.keep fun _ _ hg hc => hk.cell hc (hs _ hg)
theorem old (h : RdT w A ts G) (hb : Below w.heap.size w w') : RdT w' A ts G := h.keep fun _ _ _ hc => (hb.cell (World.block_lt_of_cell? _ _ hc)).trans hc
theorem in_ (h : RdT w A ts G) : RdT w A ts (fun b => G b ∧ b < w.heap.size) := by
  intro hn
  obtain ⟨b, off, e, hg, hc⟩ := h hn
  refine ⟨b, off, e, ⟨hg, ?_⟩, fun i hi => ?_⟩
  · obtain ⟨_, _, h0, _⟩ := hc 0 hn
    exact World.block_lt_of_cell? _ _ h0
  · obtain ⟨A', C', h0, h1, h2, h3, h4⟩ := hc i hi
    exact ⟨A', C', h0, h1, h2, h3, h4.in_⟩
theorem at_ (h : RdT w A ts G) {i : Nat} (hi : i < ts.length) : ∃ b off A' C', A = some ⟨b, off, none⟩ ∧ G b ∧ w.cell? ⟨b, off + i * 4, none⟩ = some (.int .i64 ts[i].label) ∧ w.cell? ⟨b, off + i * 4 + 1, none⟩ = some (.int .i64 ts[i].cap) ∧ w.cell? ⟨b, off + i * 4 + 2, none⟩ = some (.slice A' ts[i].blocks.length C') ∧ w.cell? ⟨b, off + i * 4 + 3, none⟩ = some (.bool ts[i].lost) ∧ RdB w A' ts[i].blocks G := by
  obtain ⟨b, off, e, hg, hc⟩ := h (by omega)
  obtain ⟨A', C', h0, h1, h2, h3, h4⟩ := hc i hi
  exact ⟨b, off, A', C', e, hg, h0, h1, h2, h3, h4⟩
end RdT
/-- a row of blocks as a matrix -/
theorem RdB.rdM {w : World} {A : Option Addr} {bs : List Tx} {G : Nat → Prop} (h : RdB w A bs G) : RdM w A bs.length (St.lens bs) (St.mat bs) G := fun hn => by
  obtain ⟨b, off, e, hg, hc⟩ := h hn
  refine ⟨b, off, e, hg, fun i hi => ?_⟩
  obtain ⟨A', C', h1, _, _, h4⟩ := hc i hi
  refine ⟨A', C', by rw [St.lens_at hi]; exact h1, ?_⟩
  rw [St.lens_at hi, St.mat_at hi]
  exact h4.rd
/-- the slice at A reads as p matrices, each of n rows of m elements -/
def RdP (w : World) (A : Option Addr) (p n m : Nat) (X : Nat → Mx.Mat) (G : Nat → Prop) : Prop :=
  0 < p → ∃ b off, A = some ⟨b, off, none⟩ ∧ G b ∧ ∀ j, j < p → ∃ A' C', w.cell? ⟨b, off + j, none⟩ = some (.slice A' n C') ∧ n ≤ C' ∧ (A' = none → n = 0 ∧ C' = 0) ∧ RdM w A' n (fun _ => m) (X j) G
namespace RdP
variable {w w' : World} {A : Option Addr} {p n m : Nat} {X Y : Nat → Mx.Mat} {G G' S : Nat → Prop}
theorem empty (w : World) (A : Option Addr) (n m : Nat) (X : Nat → Mx.Mat) (G : Nat → Prop) : RdP w A 0 n m X G := fun h => absurd h (by omega)
theorem keep (h : RdP w A p n m X G) (hk : ∀ p v, G p.block → w.cell? p = some v → w'.cell? p = some v) : RdP w' A p n m X G := by
  intro hn
  obtain ⟨b, off, e, hg, hc⟩ := h hn
  refine ⟨b, off, e, hg, fun j hj => ?_⟩
  obtain ⟨A', C', h1, h2, h3, h4⟩ := hc j hj
  exact ⟨A', C', hk _ _ hg h1, h2, h3, h4.keep hk⟩
theorem mono (h : RdP w A p n m X G) (hg : ∀ b, G b → G' b) : RdP w A p n m X G' := by
  intro hn
  obtain ⟨b, off, e, hg', hc⟩ := h hn
  refine ⟨b, off, e, hg _ hg', fun j hj => ?_⟩
  obtain ⟨A', C', h1, h2, h3, h4⟩ := hc j hj
  exact ⟨A', C', h1, h2, h3, h4.mono hg⟩
theorem congr (h : RdP w A p n m X G) (he : ∀ j, j < p → ∀ i, i < n → ∀ c, c < m → X j i c = Y j i c) : RdP w A p n m Y G := by
  intro hn
  obtain ⟨b, off, e, hg', hc⟩ := h hn
  refine ⟨b, off, e, hg', fun j hj => ?_⟩
  obtain ⟨A', C', h1, h2, h3, h4⟩ := hc j hj
  exact ⟨A', C', h1, h2, h3, h4.congr (fun _ _ => rfl) (he j hj)⟩
theorem old (h : RdP w A p n m X G) (hb : Below w.heap.size w w') : RdP w' A p n m X G := h.keep fun _ _ _ hc => (hb.cell (World.block_lt_of_cell? _ _ hc)).trans hc
theorem at_ (h : RdP w A p n m X G) {j : Nat} (hj : j < p) : ∃ b off A' C', A = some ⟨b, off, none⟩ ∧ G b ∧ w.cell? ⟨b, off + j, none⟩ = some (.slice A' n C') ∧ n ≤ C' ∧ (A' = none → n = 0 ∧ C' = 0) ∧ RdM w A' n (fun _ => m) (X j) G := by
  obtain ⟨b, off, e, hg, hc⟩ := h (by omega)
  obtain ⟨A', C', h1, h2, h3, h4⟩ := hc j hj
  exact ⟨b, off, A', C', e, hg, h1, h2, h3, h4⟩
end RdP
end Go.Proofs.YtbijjgicjkmopaaDoor
