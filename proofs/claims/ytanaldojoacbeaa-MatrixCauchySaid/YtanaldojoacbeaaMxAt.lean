/- What the law's own choice of places answers: places below n, all unlike. -/
import Derived.Test.YtanaldojoacbeaaMxAlive
import Derived.Test.YtanaldojoacbeaaMxAtMath
import Derived.Test.YtanaldojoacbeaaMxOpen
import Derived.Deep.LoopGhost
namespace Go.Proofs.Ytanaldojoacbeaa
open Go.RowKit Mx Go.ChangeShapes Go.WideShapes

/-- the slice at A of n numbers reads as z -/
def RdI (w : World) (A : Option Addr) (n : Nat) (z : Nat → Int) : Prop :=
  0 < n → ∃ b off, A = some ⟨b, off, none⟩ ∧ ∀ j, j < n → w.cell? ⟨b, off + j, none⟩ = some (.int .i64 (z j))
theorem RdI.old {w w' : World} {A : Option Addr} {n : Nat} {z : Nat → Int} (h : RdI w A n z) (hb : Below w.heap.size w w') : RdI w' A n z := by
  intro hn
  obtain ⟨b, off, e, hc⟩ := h hn
  exact ⟨b, off, e, fun j hj => (hb.cell (World.block_lt_of_cell? _ _ (hc j hj))).trans (hc j hj)⟩
theorem RdI.at {w : World} {A : Option Addr} {n : Nat} {z : Nat → Int} (h : RdI w A n z) {j : Nat} (hj : j < n) : ∃ b off, A = some ⟨b, off, none⟩ ∧ w.cell? ⟨b, off + j, none⟩ = some (.int .i64 (z j)) := by
  obtain ⟨b, off, e, hc⟩ := h (by omega)
  exact ⟨b, off, e, hc j hj⟩
theorem open_rdI {H : Type} {enc : TypeId × Value → H} {w : World} {base fuel : Nat} {held : Bool} {a : Option Addr} {len cap : Nat} {x : DataW H × List MemPlace}
    (h : DataW.trod enc Try.prog w base (fun _ => true) held fuel 40 (Value.slice a len cap).cells.toList = some x) : len ≤ maxLen ∧ ∃ z, RdI w a len z := by
  rcases open_ints Try.underlying40 Try.underlying3 (by kernel_rfl) h with ⟨hcs, _⟩ | ⟨y, l, c, zs, hcs, _, hl, hm, hz, _, hcell, hwz⟩
  · simp [Value.cells] at hcs
    obtain ⟨rfl, rfl, rfl⟩ := hcs
    exact ⟨by decide, fun _ => 0, fun h => absurd h (by omega)⟩
  · simp [Value.cells] at hcs
    obtain ⟨rfl, rfl, rfl⟩ := hcs
    have hz' : zs.length = cap := by simpa using hz
    refine ⟨by omega, fun j => zs.getD j 0, fun h0 => ?_⟩
    obtain ⟨b, off, spot⟩ := y
    have hs : spot = none := by simpa [Addr.add] using World.cell?_spot (hcell 0 (by omega))
    subst hs
    refine ⟨b, off, rfl, fun j hj => ?_⟩
    have := hcell j (by omega)
    by_cases e : j = 0
    · subst e; simpa [Addr.add] using this
    · simpa [Addr.add, e] using this

theorem infoBool : (Try.prog.info? 4).map (fun i => (i.zero, i.size, i.bytes)) = some (some (.bool false), 1, 1) := by kernel_rfl
theorem and_1023 (x : Int) : ∃ y : Nat, bits BinOp.and IntKind.i64 x 1023 = (y : Int) ∧ y ≤ 1023 := by
  have hx : (BitVec.ofInt 64 x &&& BitVec.ofInt 64 1023).toNat ≤ 1023 := by
    rw [BitVec.toNat_and]; exact Nat.and_le_right
  refine ⟨(BitVec.ofInt 64 x &&& BitVec.ofInt 64 1023).toNat, ?_, hx⟩
  show IntKind.i64.wrap ((BitVec.ofInt 64 x &&& BitVec.ofInt 64 1023).toNat : Int) = _
  rw [IntKind.wrap_i64]; omega
def low (z : Nat → Int) (j : Nat) : Nat := (bits BinOp.and IntKind.i64 (z j) 1023).toNat
theorem low_eq (z : Nat → Int) (j : Nat) : bits BinOp.and IntKind.i64 (z j) 1023 = (low z j : Int) ∧ low z j ≤ 1023 := by
  obtain ⟨y, h1, h2⟩ := and_1023 (z j)
  unfold low
  rw [h1]; simp; exact h2

set_option maxHeartbeats 2000000 in
theorem at_any (A : Option Addr) (len C : Nat) (z : Nat → Int) (i n : Nat) (w : World) (hi : i < len) (hin : i < n) (hn : n ≤ 255) (h : RdI w A len z) (hl : len ≤ maxLen) :
    Calls Try.prog 22 #[.slice A len C, .int .i64 (i : Int), .int .i64 (n : Int)] w fun e w' => e = .returned (.int .i64 (place (low z) n i : Int)) ∧ Below w.heap.size w w' := by
  unfold maxLen at hl
  have H := Lib.hid h
  clear h
  have hmk := run_make_row' (P := Try.prog) 55 4 (.bool false) 1 Try.underlying55 infoBool rfl .i64 .i64 n (by omega) (by omega)
  go_enter Try.func22, Try.ntmps22
  go_wp2
  clear hmk
  go_loopw [9, 8] (fun vj vk wr => ∃ j : Nat, j ≤ i + 1 ∧ vj = .int .i64 (j : Int) ∧ vk = .int .i64 ((plc (low z) n j).2 : Int) ∧ Hid (RowV wr 4 w.heap.size n (fun x => .bool ((plc (low z) n j).1 x))) ∧ Hid (Below w.heap.size w wr)) (fun vj _ _ => i + 1 - (intOf vj).toNat)
  case atStart => exact ⟨0, by omega, rfl, rfl, Lib.hid (RowV.made w _ _ n), Lib.hid ((Below.refl _ _).alloc (Nat.le_refl _) _)⟩
  case round =>
    obtain ⟨j, hj, rfl, rfl, HO, HB⟩ := hrel
    by_cases hlt : j < i + 1
    · obtain ⟨b, off, rfl, d0⟩ := (H.out.old HB.out).at (show j < len by omega)
      obtain ⟨hy, hy2⟩ := low_eq z j
      have hd : decide (j ≤ i) = true := decide_eq_true (by omega)
      have HRE := Lib.hid (plc_reach (q := low z) (n := n) (j := j) (by omega))
      obtain ⟨wo, rfl⟩ : ∃ x, x = wr := ⟨wr, rfl⟩
      go_wp2
      clear d0 hy
      go_loopg [8] n (fun gk vk wq => ∃ k : Nat, k < n ∧ vk = .int .i64 (k : Int) ∧ wo = wq ∧ Hid (nf (plc (low z) n j).1 n gk k = nf (plc (low z) n j).1 n n (low z j % n)) ∧ Hid (reach (plc (low z) n j).1 n gk k))
      case atStart => exact ⟨low z j % n, Nat.mod_lt _ (by omega), by rw [Int.natCast_emod], rfl, Lib.hid rfl, HRE⟩
      case round =>
        obtain ⟨k, hk, rfl, rfl, HNF, HR⟩ := hrel
        have hpos := reach_pos HR.out
        have d0 := HO.out.cell hk
        cases hh : (plc (low z) n j).1 k with
        | true =>
          rw [hh] at d0
          have HR2 : Hid (reach (plc (low z) n j).1 n (gk - 1) ((k + 1) % n)) := Lib.hid (reach_next hk (by rw [show gk - 1 + 1 = gk by omega]; exact HR.out) hh)
          have HN2 : Hid (nf (plc (low z) n j).1 n (gk - 1) ((k + 1) % n) = nf (plc (low z) n j).1 n n (low z j % n)) := by
            have h1 := HNF.out
            rw [show gk = gk - 1 + 1 by omega] at h1
            simp only [nf, if_pos hh] at h1
            exact Lib.hid h1
          clear hh HNF HR
          go_wp2
          go_roundg (gk - 1)
          case measure => omega
          case rel => exact ⟨(k + 1) % n, Nat.mod_lt _ (by omega), by rw [Int.natCast_emod]; rfl, rfl, HN2, HR2⟩
        | false =>
          rw [hh] at d0
          have f0 := HO.out.frozen k
          have hkp : k = (plc (low z) n (j + 1)).2 := by
            have h1 := HNF.out
            rw [show gk = gk - 1 + 1 by omega] at h1
            simp only [nf, hh] at h1
            exact h1
          have HO2 : Hid (RowV (wo.setCell ⟨w.heap.size, k, none⟩ (.bool true)) 4 w.heap.size n (fun x => .bool ((plc (low z) n (j + 1)).1 x))) := Lib.hid ((HO.out.set k (.bool true)).congr fun x _ => by
            show _ = Value.bool (if x = (plc (low z) n (j + 1)).2 then true else (plc (low z) n j).1 x)
            rw [← hkp]
            by_cases e : x = k
            · rw [if_pos e, if_pos e]
            · rw [if_neg e, if_neg e])
          have HKP := Lib.hid hkp
          clear hh HNF HR hkp
          go_wp2
          go_roundw
          case rel => exact ⟨j + 1, by omega, by go_num, by rw [← HKP.out], HO2, Lib.hid (HB.out.setCell (p := ⟨w.heap.size, k, none⟩) (Nat.le_refl _) _)⟩
          case measure => simp [intOf]; omega
    · have HJ : Hid ((plc (low z) n j).2 = place (low z) n i) := by rw [show j = i + 1 by omega]; exact Lib.hid rfl
      go_wp2
      go_ret
      exact ⟨ret_i64 (by rw [HJ.out]), HB.out⟩
end Go.Proofs.Ytanaldojoacbeaa
