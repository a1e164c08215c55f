/- What Newest, Next and Serial of package listing answer. -/
import Derived.Test.YtjhbmijdpcbbiaaLsGreat
import Derived.Test.YtjhbmijdpcbbiaaLsParts
namespace Go.Proofs.Ytjhbmijdpcbbiaa
open Go.RowKit
open Pt (Tx)

/-- a file whose parts read, and fit -/
structure Fx.Fit (x : Fx) (w : World) : Prop where
  rd : encQ.Rd w x.A x.f.parts (fun _ => True)
  few : x.f.parts.length * 88 ≤ 140737488351232
  path : x.f.path.length ≤ 281474976710656
  paths : ∀ q ∈ x.f.parts, q.h.path.length ≤ 281474976710656
theorem Fx.Fit.old {x : Fx} {w w' : World} (h : x.Fit w) (hb : Below w.heap.size w w') : x.Fit w' := ⟨h.rd.old hb, h.few, h.path, h.paths⟩
/-- no parts lie where a file does -/
theorem rdQ_file {w w' : World} {g : Nat} {P : Tx} {v z s r : Int} {b : Bool} {A : Option Addr} {m C : Nat} {B : Option Addr} {l : List Ct.P} {G : Nat → Prop} (h : encQ.Rd w B l G) (hg : w.heap[g]? = some (fileO P v z s r b A m C)) (hk : Kp (· = g) w w') : encQ.Rd w' B l G := fun hn => by
  obtain ⟨x, off, e, hx, hc⟩ := h hn
  have hne : ¬ x = g := by
    rintro rfl
    have h9 := hc 0 hn 9 (.int .i64 l[0].at_) rfl
    rw [heap_cell hg] at h9
    rw [Array.getElem?_eq_none (by show 7 ≤ off + 0 * encQ.k + 9; omega)] at h9
    cases h9
  exact ⟨x, off, e, hx, fun i hi j u hu => hk.cell (hc i hi j u hu) hne⟩
/-- unlessGone of one of a row of files -/
theorem gone_at {xs : List Fx} {k : Nat} (hk : k < xs.length) {P : Tx} {v z s r : Int} {b : Bool} {pl : List Ct.P} {A1 : Option Addr} {C1 : Nat} (hx : (⟨⟨P, v, z, s, r, b, pl⟩, A1, C1⟩ : Fx) = xs[k]) {w : World} (ho : ∀ x ∈ xs, x.Fit w) {m : Nat} (hm : m = pl.length) :
    Calls Try.prog 20 #[.agg #[.string (tx P), .int .i64 v, .int .i64 z, .int .i64 s, .int .i64 r, .bool b, .slice A1 m C1]] w (FileA (if b = true then none else some ⟨P, v, z, s, r, b, pl⟩) w) := by
  have h := ho xs[k] (List.getElem_mem hk)
  rw [← hx] at h
  exact unlessGone_any P v z s r b pl m A1 C1 _ w hm (by rw [hm]; exact h.few) h.path h.paths h.rd
theorem FileA.cases {o : Option Ct.F} {w w' : World} {e : Ending} (h : FileA o w e w') : (o = none ∧ e = .returned (.tuple #[.agg #[.string ⟨#[]⟩, .int .i64 0, .int .i64 0, .int .i64 0, .int .i64 0, .bool false, .slice none 0 0], .bool false]) ∧ Below w.heap.size w w') ∨
    ∃ (P : Tx) (v z s r : Int) (b : Bool) (pl : List Ct.P) (A : Option Addr) (m C : Nat), o = some ⟨P, v, z, s, r, b, pl⟩ ∧ m = pl.length ∧ e = .returned (.tuple #[.agg #[.string (tx P), .int .i64 v, .int .i64 z, .int .i64 s, .int .i64 r, .bool b, .slice A m C], .bool true]) ∧ encQ.Rd w' A pl (fun _ => True) ∧ Below w.heap.size w w' := by
  obtain ⟨h, hb⟩ := h
  cases o with
  | none => exact .inl ⟨rfl, h, hb⟩
  | some f =>
    obtain ⟨P, v, z, s, r, b, pl⟩ := f
    obtain ⟨A, C, h1, h2⟩ := h
    exact .inr ⟨P, v, z, s, r, b, pl, A, _, C, rfl, rfl, h1, h2, hb⟩
set_option maxRecDepth 100000 in
set_option maxHeartbeats 4000000 in
theorem newest_any (xs : List Fx) (n C : Nat) (A : Option Addr) (G : Nat → Prop) (p : Tx) (w : World) (hn : n = xs.length) (hm : n ≤ 1000000) (hr : encF.Rd w A xs G) (ho : ∀ x ∈ xs, x.Fit w) :
    Calls Try.prog 7 #[.slice A n C, .string (tx p)] w (FileA (Ls.newest (filesOf xs) p) w) := by
  obtain ⟨wa, hwa⟩ : ∃ x, x = w.alloc (fileO [] 0 0 0 0 false none 0 0) := ⟨_, rfl⟩
  have hba : Below w.heap.size w wa := by rw [hwa]; exact (Below.refl _ _).alloc (Nat.le_refl _) _
  have hka : wa.heap[w.heap.size]? = some (fileO [] 0 0 0 0 false none 0 0) := by rw [hwa]; exact Go.Deep.blk_alloc_new _ _
  have HW : Hid (wa = w.alloc (.cells #[.string ⟨#[]⟩, .int .i64 0, .int .i64 0, .int .i64 0, .int .i64 0, .bool false, .slice none 0 0] 26)) := Lib.hid hwa
  have HG := Lib.hid (greatest_any xs n C A G p wa hn hm (hr.old hba))
  have HBA := Lib.hid hba
  have HKA := Lib.hid hka
  have HN := Lib.hid hn
  have HR := Lib.hid hr
  have HO := Lib.hid ho
  have HL : Hid ((filesOf xs).length = n) := Lib.hid (by rw [filesOf_len, hn])
  clear hwa hba hka hn hr ho
  go_enter Try.func7, Try.ntmps7
  go_wp2_with fail
  rw [← HW.out]
  refine HG.out.mono ?_
  rintro e w1 ⟨rfl, hb1⟩
  have HB1 := Lib.hid (HBA.out.trans (hb1.mono HBA.out.size))
  have HK1 := Lib.hid (below_obj' hb1 HKA.out)
  clear hb1 HG
  cases ht : Ls.told (filesOf xs) n p with
  | none =>
    rw [pv_none]
    have HX := Lib.hid (Ls.newest_none (by rw [HL.out]; exact ht))
    obtain ⟨y0, y1, y2, y3, y4, y5, y6⟩ := file7 HK1.out
    obtain ⟨g0, g1, g2, g3, g4, g5, g6⟩ := file_free HK1.out
    clear ht
    go_wp2
    obtain ⟨z0, z1, z2, z3, z4, z5, z6⟩ := zero7 (seven_zero HK1.out)
    exact bodyPost_ret (v := .tuple #[.agg #[.string ⟨#[]⟩, .int .i64 0, .int .i64 0, .int .i64 0, .int .i64 0, .bool false, .slice none 0 0], .bool false]) (by simp [results, Try.results7, go_sem, z0, z1, z2, z3, z4, z5, z6]) rfl (FileA.no HX.out (HB1.out.trans ((seven_kp _ _ _ _ _ _ _ _ _).below HB1.out.size fun k hk => by omega)))
  | some k =>
    rw [pv_some]
    have hkf : k < (filesOf xs).length := (Ls.pl_lt ht).2
    have hkn : k < n := by rw [← HL.out]; exact hkf
    have hkx : k < xs.length := by rw [← HN.out]; exact hkn
    have f0 : decide ((k : Int) < 0) = false := decide_eq_false (by omega)
    have f1 : decide (k < n) = true := decide_eq_true hkn
    obtain ⟨⟨⟨P, v, z, s, r, b, pl⟩, A1, C1⟩, hx⟩ : ∃ x, x = xs[k] := ⟨_, rfl⟩
    have HX : Hid (Ls.newest (filesOf xs) p = if b = true then none else some ⟨P, v, z, s, r, b, pl⟩) := Lib.hid (by
      rw [Ls.newest_at (by rw [HL.out]; exact ht) hkf, filesOf_get hkx hkf, ← hx])
    obtain ⟨g, o, rfl, c⟩ := seven_at (HR.out.old HB1.out) hkx hx
    obtain ⟨m, hm'⟩ : ∃ m, m = pl.length := ⟨_, rfl⟩
    rw [← hm'] at c
    have HC := Lib.hid (gone_at hkx hx (fun x hx => (HO.out x hx).old HB1.out) hm')
    obtain ⟨c0, c1, c2, c3, c4, c5, c6⟩ := c
    clear ht hx hm' hkf hkx
    go_wp2_with fail
    refine HC.out.mono ?_
    intro e w2 ha
    rcases ha.cases with ⟨h0, rfl, hb2⟩ | ⟨P', v', z', s', r', b', pl', A', m', C', h0, hm', rfl, hrd, hb2⟩
    · have HB2 := Lib.hid (HB1.out.trans (hb2.mono HB1.out.size))
      have HK2 := Lib.hid (below_obj' hb2 HK1.out)
      have HY := Lib.hid (HX.out.trans h0)
      obtain ⟨y0, y1, y2, y3, y4, y5, y6⟩ := file7 HK2.out
      obtain ⟨g0, g1, g2, g3, g4, g5, g6⟩ := file_free HK2.out
      clear h0 hb2 HC ha c0 c1 c2 c3 c4 c5 c6
      go_wp2
      obtain ⟨z0, z1, z2, z3, z4, z5, z6⟩ := zero7 (seven_zero HK2.out)
      exact bodyPost_ret (v := .tuple #[.agg #[.string ⟨#[]⟩, .int .i64 0, .int .i64 0, .int .i64 0, .int .i64 0, .bool false, .slice none 0 0], .bool false]) (by simp [results, Try.results7, go_sem, z0, z1, z2, z3, z4, z5, z6]) rfl (FileA.no HY.out (HB2.out.trans ((seven_kp _ _ _ _ _ _ _ _ _).below HB2.out.size fun k hk => by omega)))
    · have HB2 := Lib.hid (HB1.out.trans (hb2.mono HB1.out.size))
      have HK2 := Lib.hid (below_obj' hb2 HK1.out)
      have HY := Lib.hid (HX.out.trans h0)
      have HM := Lib.hid hm'
      have HRD := Lib.hid hrd
      obtain ⟨y0, y1, y2, y3, y4, y5, y6⟩ := file7 HK2.out
      obtain ⟨g0, g1, g2, g3, g4, g5, g6⟩ := file_free HK2.out
      clear h0 hb2 HC ha c0 c1 c2 c3 c4 c5 c6 hm' hrd
      go_wp2
      obtain ⟨z0, z1, z2, z3, z4, z5, z6⟩ := file7 (seven_set HK2.out P' v' z' s' r' b' A' m' C')
      have HKF := seven_kp w2 w.heap.size (.string (tx P')) (.int .i64 v') (.int .i64 z') (.int .i64 s') (.int .i64 r') (.bool b') (.slice A' m' C')
      exact bodyPost_ret (v := .tuple #[.agg #[.string (tx P'), .int .i64 v', .int .i64 z', .int .i64 s', .int .i64 r', .bool b', .slice A' m' C'], .bool true]) (by simp [results, Try.results7, go_sem, z0, z1, z2, z3, z4, z5, z6]) rfl (FileA.yes HY.out HM.out (rdQ_file HRD.out HK2.out HKF) (HB2.out.trans (HKF.below HB2.out.size fun k hk => by omega)))
end Go.Proofs.Ytjhbmijdpcbbiaa
