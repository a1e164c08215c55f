/- What alive of the law on listings answers: true. -/
import Derived.Test.YtjhbmijdpcbbiaaLsNew
import Derived.Test.YtjhbmijdpcbbiaaLsNext
import Derived.Test.YtjhbmijdpcbbiaaLsNames
namespace Go.Proofs.Ytjhbmijdpcbbiaa
open Go.RowKit
open Pt (Tx)

/-- the file of the example -/
def x18 : Fx := ⟨⟨[97], 3, 0, 0, 0, false, []⟩, none, 0⟩
theorem newest18 : Ls.newest (filesOf [x18]) [97] = some ⟨[97], 3, 0, 0, 0, false, []⟩ := rfl
theorem bare_fit (f : Ct.F) (h : f.parts = []) (hp : f.path.length ≤ 1000) (w : World) : Fx.Fit ⟨f, none, 0⟩ w := by
  refine ⟨?_, ?_, by show f.path.length ≤ _; omega, ?_⟩
  · show encQ.Rd w none f.parts _
    rw [h]; exact Enc.Rd.nil _ _ _
  · show f.parts.length * 88 ≤ _
    rw [h]; decide
  · intro q hq
    have hq' : q ∈ f.parts := hq
    rw [h] at hq'; cases hq'
set_option maxRecDepth 100000 in
set_option maxHeartbeats 4000000 in
theorem alive18_true (w : World) : Calls Try.prog 6 #[] w fun e w' => e = .returned (.bool true) ∧ Below w.heap.size w w' := by
  obtain ⟨w1, hw1⟩ : ∃ x, x = w.alloc (fileO [97] 3 0 0 0 false none 0 0) := ⟨_, rfl⟩
  have hb1 : Below w.heap.size w w1 := by rw [hw1]; exact (Below.refl _ _).alloc (Nat.le_refl _) _
  have hrd : encF.Rd w1 (some ⟨w.heap.size, 0, none⟩) [x18] (fun _ => True) := fun _ => ⟨w.heap.size, 0, rfl, trivial, fun i hi j u hu => by
    have hi0 : i = 0 := by simpa using hi
    subst hi0
    rw [hw1, show 0 + 0 * encF.k + j = 0 + j by simp]
    have h1 := newCells w (encF.enc x18) 26 j u hu
    rw [addr_add] at h1
    exact h1⟩
  have hnw := newest_any [x18] 1 1 (some ⟨w.heap.size, 0, none⟩) _ [97] w1 rfl (by decide) hrd (fun x hx => by rw [List.mem_singleton.1 hx]; exact bare_fit _ rfl (by decide) _)
  rw [newest18] at hnw
  have HNW := Lib.hid hnw
  have HB1 := Lib.hid hb1
  have HW1 : Hid (w1 = w.alloc (.cells #[.string ⟨#[97]⟩, .int .i64 3, .int .i64 0, .int .i64 0, .int .i64 0, .bool false, .slice none 0 0] 26)) := Lib.hid hw1
  have HNX : Hid (∀ y, Calls Try.prog 12 #[.slice none 0 0, .string ⟨#[97]⟩] y fun e y' => e = .returned (.int .i64 1) ∧ Below y.heap.size y y') := Lib.hid fun y => next_any [] 0 0 none (fun _ => True) [97] y rfl (by decide) (Enc.Rd.nil _ _ _) (fun x hx => by cases hx)
  have HSE : Hid (∀ y, Calls Try.prog 14 #[.slice none 0 0] y fun e y' => e = .returned (.int .i64 1) ∧ Below y.heap.size y y') := Lib.hid fun y => serial_any [] 0 0 none (fun _ => True) y rfl (by decide) (Enc.Rd.nil _ _ _) (fun x hx => by cases hx)
  have HNM : Hid (∀ y, Calls Try.prog 17 #[.slice none 0 0] y (NamesA [] y)) := Lib.hid fun y => names_any [] 0 0 none (fun _ => True) y rfl (by decide) (Enc.Rd.nil _ _ _) (fun x hx => by cases hx)
  clear hw1 hb1 hrd hnw
  go_enter Try.func6, Try.ntmps6
  go_wp2_with fail
  rw [← HW1.out]
  refine HNW.out.mono ?_
  rintro e w2 ⟨⟨A, C, rfl, -⟩, hb2⟩
  obtain ⟨w3, hw3⟩ : ∃ x, x = w2.alloc (fileO [97] 3 0 0 0 false A 0 C) := ⟨_, rfl⟩
  have hb3 : Below w1.heap.size w1 w3 := by rw [hw3]; exact hb2.alloc hb2.size _
  have hk3 : w3.heap[w2.heap.size]? = some (fileO [97] 3 0 0 0 false A 0 C) := by rw [hw3]; exact Go.Deep.blk_alloc_new _ _
  have HB3 := Lib.hid (HB1.out.trans (hb3.mono HB1.out.size))
  have HK3 := Lib.hid hk3
  have HW3 : Hid (w3 = w2.alloc (.cells #[.string (tx [97]), .int .i64 3, .int .i64 0, .int .i64 0, .int .i64 0, .bool false, .slice A 0 C] 26)) := Lib.hid hw3
  clear hb2 hw3 hb3 hk3 HNW
  go_upto_region 2 with fail
  try dsimp only [List.length_nil]
  rw [← HW3.out]
  go_wp2_with fail
  refine (HNX.out w3).mono ?_
  rintro e w4 ⟨rfl, hb4⟩
  have HK4 := Lib.hid (below_obj' hb4 HK3.out)
  have HB4 := Lib.hid (HB3.out.trans (hb4.mono HB3.out.size))
  clear hb4
  go_wp2_with fail
  refine (HSE.out w4).mono ?_
  rintro e w5 ⟨rfl, hb5⟩
  have hk5 := below_obj' hb5 HK4.out
  have HK5 := Lib.hid hk5
  have HB5 := Lib.hid (HB4.out.trans (hb5.mono HB4.out.size))
  obtain ⟨-, a1, -, -, -, -, -⟩ := file7 hk5
  clear hb5 hk5
  go_wp2_with fail
  refine (HNM.out w5).mono ?_
  rintro e w6 ⟨A6, C6, rfl, -, hb6⟩
  have HB6 := Lib.hid (HB5.out.trans (hb6.mono HB5.out.size))
  clear hb6 a1
  go_wp2
  go_ret
  exact ⟨rfl, HB6.out⟩
end Go.Proofs.Ytjhbmijdpcbbiaa
