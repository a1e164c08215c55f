/- What the walk is told of a row of files that came in as an argument. No function of the program. -/
import Derived.Test.YtjhbmijdpcbbiaaCtWords
import Derived.Test.YtjhbmijdpcbbiaaRcOpen
import Derived.Test.YtjhbmijdpcbbiaaEnOpen
namespace Go.Proofs.Ytjhbmijdpcbbiaa
open Go.RowKit Mx Go.ChangeShapes Go.WideShapes Go.Joins
open Pt (Tx)

set_option maxRecDepth 100000 in
theorem cellsPart : Try.prog.cellsOf 45 = 10 := by kernel_rfl
set_option maxRecDepth 100000 in
theorem cellsFile : Try.prog.cellsOf 26 = 7 := by kernel_rfl
theorem bytesPart : Try.prog.bytesOf 45 = 88 := by kernel_rfl
theorem cellsParts : Try.prog.cellsOf 24 = 1 := by kernel_rfl
section
variable {H : Type} {enc : TypeId × Value → H} {w : World} {base fuel : Nat} {held : Bool} {x : DataW H × List MemPlace}
/-- a text that came in is no longer than the reach -/
theorem string_reach {n : Nat} {v : Value} {y : DataW H × List MemPlace} (h : DataW.trod enc Try.prog w base (fun _ => true) held n 9 [v] = some y) (hz : ∀ n ∈ y.1.weights Try.prog 9, n ≤ reachBytes) : ∃ p : Tx, v = .string (tx p) ∧ p.length ≤ 140737488351232 := by
  obtain ⟨p, e0, rfl, -⟩ := DataW.trod_string (cs := [v]) Try.underlying9 h
  simp only [List.cons.injEq, and_true] at e0
  refine ⟨p.data.toList, by rw [e0, tx_eta], ?_⟩
  have h1 := hz p.data.toList.length (by simp [DataW.weights])
  rwa [reach_eqE] at h1
set_option maxRecDepth 100000 in
theorem head_reach {n : Nat} {v0 v1 v2 v3 v4 v5 v6 v7 : Value} {y : DataW H × List MemPlace} (h : DataW.trod enc Try.prog w base (fun _ => true) held n 43 [v0, v1, v2, v3, v4, v5, v6, v7] = some y) (hz : ∀ n ∈ y.1.weights Try.prog 43, n ≤ reachBytes) :
    ∃ p : Tx, v0 = .string (tx p) ∧ p.length ≤ 140737488351232 := by
  obtain ⟨xs, m, _, rfl, -, hxl, hf⟩ := DataW.trod_struct Try.underlying43 h
  have h0 := hf 0 _ rfl
  match xs, hxl with
  | x0 :: r, _ =>
    have g0 : DataW.trod enc Try.prog w base (fun _ => true) held m 9 (([v0, v1, v2, v3, v4, v5, v6, v7].drop 0).take (Try.prog.cellsOf 9)) = some x0 := h0
    rw [cellsS] at g0
    exact string_reach g0 fun n hn => hz n (weights_field Try.underlying43 (j := 0) (d := x0.1) rfl (by simp) hn)
set_option maxRecDepth 100000 in
theorem part_cells {n : Nat} {cs : List Value} {y : DataW H × List MemPlace} (hl : cs.length = 10) (h : DataW.trod enc Try.prog w base (fun _ => true) held n 45 cs = some y) (hz : ∀ n ∈ y.1.weights Try.prog 45, n ≤ reachBytes) :
    ∃ q : Ct.P, cs = encQ.enc q ∧ q.h.path.length ≤ 140737488351232 := by
  match cs, hl with
  | [v0, v1, v2, v3, v4, v5, v6, v7, v8, v9], _ =>
    obtain ⟨xs, m, _, rfl, -, hxl, hf⟩ := DataW.trod_struct Try.underlying45 h
    have h0 := hf 0 _ rfl
    have h1 := hf 1 _ rfl
    have h2 := hf 2 _ rfl
    clear hf
    match xs, hxl with
    | [x0, x1, x2], _ =>
      have g0 : DataW.trod enc Try.prog w base (fun _ => true) held m 43 (([v0, v1, v2, v3, v4, v5, v6, v7, v8, v9].drop 0).take (Try.prog.cellsOf 43)) = some x0 := h0
      have g1 : DataW.trod enc Try.prog w base (fun _ => true) held m 3 (([v0, v1, v2, v3, v4, v5, v6, v7, v8, v9].drop 8).take (Try.prog.cellsOf 3)) = some x1 := h1
      have g2 : DataW.trod enc Try.prog w base (fun _ => true) held m 3 (([v0, v1, v2, v3, v4, v5, v6, v7, v8, v9].drop 9).take (Try.prog.cellsOf 3)) = some x2 := h2
      rw [cellsHead] at g0
      rw [cellsI] at g1 g2
      obtain ⟨p, v, z, f, l, s, u, g, e0, hp⟩ := head_cells (v0 := v0) (v1 := v1) (v2 := v2) (v3 := v3) (v4 := v4) (v5 := v5) (v6 := v6) (v7 := v7) g0
      obtain ⟨n1, e1, -, -⟩ := DataW.trod_int (cs := [v8]) Try.underlying3 g1
      obtain ⟨n2, e2, -, -⟩ := DataW.trod_int (cs := [v9]) Try.underlying3 g2
      simp only [List.cons.injEq, and_true] at e0 e1 e2
      obtain ⟨f0, f1, f2, f3, f4, f5, f6, f7⟩ := e0
      obtain ⟨p', ep, hp'⟩ := head_reach (v0 := v0) (v1 := v1) (v2 := v2) (v3 := v3) (v4 := v4) (v5 := v5) (v6 := v6) (v7 := v7) g0 fun n hn => hz n (weights_field Try.underlying45 (j := 0) (d := x0.1) rfl (by simp) hn)
      have epp : p = p' := by
        rw [f0] at ep
        injection ep with ep
        exact tx_inj ep
      refine ⟨⟨⟨p, v, z, f, l, s, u, g⟩, n1, n2⟩, ?_, by rw [epp]; exact hp'⟩
      rw [f0, f1, f2, f3, f4, f5, f6, f7, e1, e2]
      rfl
/-- a row of parts -/
theorem open_parts {cs : List Value} (h : DataW.trod enc Try.prog w base (fun _ => true) held fuel 24 cs = some x) (hz : ∀ n ∈ x.1.weights Try.prog 24, n ≤ reachBytes) :
    ∃ (a : Option Addr) (C : Nat) (l : List Ct.P), cs = [.slice a l.length C] ∧ l.length ≤ C ∧ C ≤ maxLen ∧ (a = none → l.length = 0 ∧ C = 0) ∧ encQ.Rd w a l (fun _ => True) ∧ (∀ q ∈ l, q.h.path.length ≤ 140737488351232) ∧ l.length * 88 ≤ 140737488351232 := by
  have := open_encs encQ (fun q => q.h.path.length ≤ 140737488351232) Try.underlying24 cellsPart (fun _ _ _ hl h hz => part_cells hl h hz) h hz
  rwa [bytesPart] at this
/-- what a file that came in is -/
structure Fx.In (x : Fx) (w : World) : Prop where
  ok : x.Ok w (fun _ => True)
  path : x.f.path.length ≤ 140737488351232
  paths : ∀ q ∈ x.f.parts, q.h.path.length ≤ 140737488351232
  few : x.f.parts.length * 88 ≤ 140737488351232
  ver : (Lit.int .i64 x.f.version).wf = true
  ser : (Lit.int .i64 x.f.serial).wf = true
set_option maxRecDepth 100000 in
theorem file_cells {n : Nat} {cs : List Value} {y : DataW H × List MemPlace} (hl : cs.length = 7) (h : DataW.trod enc Try.prog w base (fun _ => true) held n 26 cs = some y) (hz : ∀ n ∈ y.1.weights Try.prog 26, n ≤ reachBytes) :
    ∃ q : Fx, cs = encF.enc q ∧ q.In w := by
  match cs, hl with
  | [v0, v1, v2, v3, v4, v5, v6], _ =>
    obtain ⟨xs, m, _, rfl, -, hxl, hf⟩ := DataW.trod_struct Try.underlying26 h
    have h0 := hf 0 _ rfl
    have h1 := hf 1 _ rfl
    have h2 := hf 2 _ rfl
    have h3 := hf 3 _ rfl
    have h4 := hf 4 _ rfl
    have h5 := hf 5 _ rfl
    have h6 := hf 6 _ rfl
    clear hf
    match xs, hxl with
    | [x0, x1, x2, x3, x4, x5, x6], _ =>
      have g0 : DataW.trod enc Try.prog w base (fun _ => true) held m 9 (([v0, v1, v2, v3, v4, v5, v6].drop 0).take (Try.prog.cellsOf 9)) = some x0 := h0
      have g1 : DataW.trod enc Try.prog w base (fun _ => true) held m 3 (([v0, v1, v2, v3, v4, v5, v6].drop 1).take (Try.prog.cellsOf 3)) = some x1 := h1
      have g2 : DataW.trod enc Try.prog w base (fun _ => true) held m 3 (([v0, v1, v2, v3, v4, v5, v6].drop 2).take (Try.prog.cellsOf 3)) = some x2 := h2
      have g3 : DataW.trod enc Try.prog w base (fun _ => true) held m 3 (([v0, v1, v2, v3, v4, v5, v6].drop 3).take (Try.prog.cellsOf 3)) = some x3 := h3
      have g4 : DataW.trod enc Try.prog w base (fun _ => true) held m 3 (([v0, v1, v2, v3, v4, v5, v6].drop 4).take (Try.prog.cellsOf 3)) = some x4 := h4
      have g5 : DataW.trod enc Try.prog w base (fun _ => true) held m 4 (([v0, v1, v2, v3, v4, v5, v6].drop 5).take (Try.prog.cellsOf 4)) = some x5 := h5
      have g6 : DataW.trod enc Try.prog w base (fun _ => true) held m 24 (([v0, v1, v2, v3, v4, v5, v6].drop 6).take (Try.prog.cellsOf 24)) = some x6 := h6
      rw [cellsI] at g1 g2 g3 g4
      rw [cellsS] at g0
      rw [cellsB] at g5
      rw [cellsParts] at g6
      obtain ⟨p, e0, hp⟩ := string_reach g0 fun n hn => hz n (weights_field Try.underlying26 (j := 0) (d := x0.1) rfl (by simp) hn)
      obtain ⟨n1, e1, -, w1⟩ := DataW.trod_int (cs := [v1]) Try.underlying3 g1
      obtain ⟨n2, e2, -, -⟩ := DataW.trod_int (cs := [v2]) Try.underlying3 g2
      obtain ⟨n3, e3, -, -⟩ := DataW.trod_int (cs := [v3]) Try.underlying3 g3
      obtain ⟨n4, e4, -, w4⟩ := DataW.trod_int (cs := [v4]) Try.underlying3 g4
      obtain ⟨b, e5, -⟩ := DataW.trod_bool (cs := [v5]) Try.underlying4 g5
      obtain ⟨a, C, l, e6, k1, k2, k3, k4, k5, k6⟩ := open_parts (cs := [v6]) g6 fun n hn => hz n (weights_field Try.underlying26 (j := 6) (d := x6.1) rfl (by simp) hn)
      simp only [List.cons.injEq, and_true] at e1 e2 e3 e4 e5 e6
      refine ⟨⟨⟨p, n1, n2, n3, n4, b, l⟩, a, C⟩, ?_, ⟨k1, k2, k3, k4⟩, hp, k5, k6, w1, w4⟩
      rw [e0, e1, e2, e3, e4, e5, e6]
      rfl
/-- a row of files -/
theorem open_files {T : TypeId} (hT : Try.prog.underlying T = some (.slice 26)) {a : Option Addr} {len cap : Nat} (h : DataW.trod enc Try.prog w base (fun _ => true) held fuel T (Value.slice a len cap).cells.toList = some x) (hz : ∀ n ∈ x.1.weights Try.prog T, n ≤ reachBytes) :
    len ≤ cap ∧ cap ≤ maxLen ∧ (a = none → len = 0 ∧ cap = 0) ∧ ∃ xs : List Fx, xs.length = len ∧ encF.Rd w a xs (fun _ => True) ∧ ∀ q ∈ xs, q.In w := by
  obtain ⟨a', C, l, e, h1, h2, h3, h4, h5, -⟩ := open_encs encF (fun q => q.In w) hT cellsFile (fun _ _ _ hl h hz => file_cells hl h hz) h hz
  simp [Value.cells] at e
  obtain ⟨rfl, rfl, rfl⟩ := e
  exact ⟨h1, h2, h3, l, rfl, h4, h5⟩
end
end Go.Proofs.Ytjhbmijdpcbbiaa
