/- What the law on texts that are near paths answers: true; nothing that was there is written. -/
import Derived.Test.YtelplmhfacmkdaaDoorPtAlive
import Derived.Deep.RegionHeld3
namespace Go.Proofs.YtelplmhfacmkdaaDoor
open Go.RowKit
open Pt (Tx)

def nearT : List Tx := [[], [97], [47], [47, 97], [97, 47], [97, 47, 98], [97, 47, 47, 98], [46], [46, 46], [46, 46, 46], [97, 47, 46], [97, 47, 46, 46], [97, 47, 46, 46, 46], [46, 97], [45], [95], [65], [97, 32, 98], [195, 169], [97, 47, 98, 47, 99, 47, 100], [97, 98, 99, 100, 101, 102, 103, 104, 105, 106, 107, 108, 109, 110, 111, 112, 113, 114, 115, 116, 117, 118, 119, 120], [97, 98, 99, 100, 101, 102, 103, 104, 105, 106, 107, 108, 109, 110, 111, 112, 113, 114, 115, 116, 117, 118, 119, 120, 121], [97, 0], [57]]
def nearB : List Bool := [false, true, false, false, false, true, false, false, false, true, false, false, true, true, true, true, false, false, false, true, true, false, false, true]
def nearTC : Array Value := #[.string ⟨#[]⟩, .string ⟨#[97]⟩, .string ⟨#[47]⟩, .string ⟨#[47, 97]⟩, .string ⟨#[97, 47]⟩, .string ⟨#[97, 47, 98]⟩, .string ⟨#[97, 47, 47, 98]⟩, .string ⟨#[46]⟩, .string ⟨#[46, 46]⟩, .string ⟨#[46, 46, 46]⟩, .string ⟨#[97, 47, 46]⟩, .string ⟨#[97, 47, 46, 46]⟩, .string ⟨#[97, 47, 46, 46, 46]⟩, .string ⟨#[46, 97]⟩, .string ⟨#[45]⟩, .string ⟨#[95]⟩, .string ⟨#[65]⟩, .string ⟨#[97, 32, 98]⟩, .string ⟨#[195, 169]⟩, .string ⟨#[97, 47, 98, 47, 99, 47, 100]⟩, .string ⟨#[97, 98, 99, 100, 101, 102, 103, 104, 105, 106, 107, 108, 109, 110, 111, 112, 113, 114, 115, 116, 117, 118, 119, 120]⟩, .string ⟨#[97, 98, 99, 100, 101, 102, 103, 104, 105, 106, 107, 108, 109, 110, 111, 112, 113, 114, 115, 116, 117, 118, 119, 120, 121]⟩, .string ⟨#[97, 0]⟩, .string ⟨#[57]⟩]
def nearBC : Array Value := #[.bool false, .bool true, .bool false, .bool false, .bool false, .bool true, .bool false, .bool false, .bool false, .bool true, .bool false, .bool false, .bool true, .bool true, .bool true, .bool true, .bool false, .bool false, .bool false, .bool true, .bool true, .bool false, .bool false, .bool true]
theorem nearTC_is : nearTC = (cellsT nearT).toArray := rfl
theorem nearBC_is : nearBC = (nearB.map Value.bool).toArray := rfl
theorem near_all : ∀ k, k < 24 → nearT[k]?.map Pt.right = nearB[k]? := by decide +kernel
theorem near_short : ∀ k, k < 24 → ((nearT[k]?.map List.length).getD 0 ≤ 25) := by decide +kernel
set_option maxRecDepth 100000 in
set_option maxHeartbeats 4000000 in
theorem pathWrong_walk (x : Int) (w : World) (h1 : -9223372036854775808 ≤ x) (h2 : x ≤ 9223372036854775807) (hk : Kept w) :
    Calls Tryd.prog 4 #[.int .i64 x] w fun e w' => e = .returned (.bool true) ∧ Below w.heap.size w w' := by
  have HK := Lib.hid hk
  clear hk
  by_cases n1 : x < 0
  · have z1 : decide (x < 0) = true := decide_eq_true n1
    go_enter Tryd.func4, Tryd.ntmps4
    go_wp2_with fail
    refine (alive5_true _ HK.out).mono ?_
    rintro e w1 ⟨rfl, hb⟩
    have HB := Lib.hid ((hb.alloc hb.size (.cells nearTC 9)).alloc (Nat.le_trans hb.size (by simp)) (.cells nearBC 4))
    clear hb
    go_wp2
    go_ret
    exact ⟨rfl, HB.out⟩
  have z1 : decide (x < 0) = false := decide_eq_false n1
  by_cases n2 : 24 ≤ x
  · have z2 : decide (24 ≤ x) = true := decide_eq_true n2
    go_enter Tryd.func4, Tryd.ntmps4
    go_wp2_with fail
    refine (alive5_true _ HK.out).mono ?_
    rintro e w1 ⟨rfl, hb⟩
    have HB := Lib.hid ((hb.alloc hb.size (.cells nearTC 9)).alloc (Nat.le_trans hb.size (by simp)) (.cells nearBC 4))
    clear hb
    go_wp2
    go_ret
    exact ⟨rfl, HB.out⟩
  have z2 : decide (24 ≤ x) = false := decide_eq_false n2
  obtain ⟨k, rfl⟩ : ∃ k : Nat, x = (k : Int) := ⟨x.toNat, by omega⟩
  have hk : k < 24 := by omega
  have hTl : k < nearT.length := hk
  have hBl : k < nearB.length := hk
  obtain ⟨p, hp⟩ : ∃ p, nearT[k]? = some p := ⟨_, List.getElem?_eq_getElem hTl⟩
  obtain ⟨b, hbb⟩ : ∃ b, nearB[k]? = some b := ⟨_, List.getElem?_eq_getElem hBl⟩
  have hpb : Pt.right p = b := by have := near_all k hk; rw [hp, hbb] at this; simpa using this
  have hpl : p.length ≤ 25 := by have := near_short k hk; rw [hp] at this; simpa using this
  have HP : Hid (p.length ≤ maxLen) := Lib.hid (by unfold maxLen; omega)
  have HT : Hid (∀ W : World, ((W.alloc (.cells nearTC 9)).alloc (.cells nearBC 4)).cell? ⟨W.heap.size, k, none⟩ = some (.string (tx p))) := Lib.hid fun W => by
    rw [World.cell?_alloc_lt _ _ _ (by simp), cell_of_row _ _ _ _ _ _ (heap_alloc_new W _), nearTC_is]
    simpa using cellsT_get hp
  have HV : Hid (∀ W : World, ((W.alloc (.cells nearTC 9)).alloc (.cells nearBC 4)).cell? ⟨W.heap.size + 1, k, none⟩ = some (.bool b)) := Lib.hid fun W => by
    have e : (W.alloc (.cells nearTC 9)).heap.size = W.heap.size + 1 := by simp
    rw [← e, cell_of_row _ _ _ _ _ _ (heap_alloc_new _ _), nearBC_is]
    simp [hbb]
  have HQ : Hid (Pt.right p = b) := Lib.hid hpb
  clear hp hbb hpb hpl hTl hBl
  go_enter Tryd.func4, Tryd.ntmps4
  go_wp2_with fail
  refine (alive5_true _ HK.out).mono ?_
  rintro e w1 ⟨rfl, hb⟩
  have HB := Lib.hid hb
  have hbel : Below w1.heap.size w1 ((w1.alloc (.cells nearTC 9)).alloc (.cells nearBC 4)).drew := (((Below.refl _ _).alloc (Nat.le_refl _) _).alloc (by simp) _).drew
  have HKW : Hid (Kept ((w1.alloc (.cells nearTC 9)).alloc (.cells nearBC 4)).drew) := Lib.hid ((HK.out.old hb).old hbel)
  have d1 : ((w1.alloc (.cells nearTC 9)).alloc (.cells nearBC 4)).drew.cell? ⟨w1.heap.size, k, none⟩ = some (.string (tx p)) := HT.out w1
  have d2 : ((w1.alloc (.cells nearTC 9)).alloc (.cells nearBC 4)).drew.cell? ⟨w1.heap.size + 1, k, none⟩ = some (.bool b) := HV.out w1
  clear hb
  go_wp2_with fail
  go_region_held3 (fun w' => w'.cell? ⟨w1.heap.size, k, none⟩ = some (.string (tx p)) ∧ w'.cell? ⟨w1.heap.size + 1, k, none⟩ = some (.bool b) ∧ Below w1.heap.size w1 w')
    (first
      | exact ⟨e1, e2, hbt⟩
      | exact ⟨d1, d2, hbel⟩)
    (first
      | (go_at_call 7; refine (right_any p _ HP.out HKW.out).mono ?_; rintro e wn ⟨rfl, hbn⟩; have hbt : Below w1.heap.size w1 wn := hbel.trans (hbn.mono hbel.size); have e1 : wn.cell? ⟨w1.heap.size, k, none⟩ = some (.string (tx p)) := (hbn.cell (World.block_lt_of_cell? _ _ d1)).trans d1; have e2 : wn.cell? ⟨w1.heap.size + 1, k, none⟩ = some (.bool b) := (hbn.cell (World.block_lt_of_cell? _ _ d2)).trans d2; clear hbn))
  go_wp2
  go_ret
  exact ⟨retB (by rw [HQ.out]; simp), HB.out.trans (hbt.mono HB.out.size)⟩
end Go.Proofs.YtelplmhfacmkdaaDoor
