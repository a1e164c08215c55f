/- The example of chapter 10 holds: 'alive' answers true. -/
import Derived.Test.YtdllkbjbklhigaaDoorRcRead
namespace Go.Proofs.YtdllkbjbklhigaaDoor
open Go.RowKit
open Pt (Tx)

theorem Rc.none_no : ¬ Rc.Good [] := fun h => by have := Rc.good_ge h; simp at this
def Rc.one : Rc.H := ⟨[97], 1, 0, 0, 0, 1, 0, false⟩
theorem Rc.one_ok : Rc.Ok Rc.one := by decide
set_option maxHeartbeats 2000000 in
theorem alive10_true (w : World) (hk : Kept w) : Calls Tryd.prog 7 #[] w (AnsB true w) := by
  have h1 : Calls Tryd.prog 10 #[.slice none 0 0] w fun e w' => e = .returned (.tuple #[.agg #[.string (tx []), .int .i64 0, .int .i64 0, .int .i64 0, .int .i64 0, .int .i64 0, .int .i64 0, .bool false], .int .i64 2]) ∧ Below w.heap.size w w' := by
    have := readHead_any none [] 0 0 (fun _ => True) w rfl (by decide) (fun _ => ⟨rfl, rfl⟩) (RdL.empty _ _ _) hk
    unfold GotH at this
    rw [Rc.got_no Rc.none_no, Rc.gotE_no Rc.none_no] at this
    exact this
  have HK := Lib.hid hk
  clear hk
  go_enter Tryd.func7, Tryd.ntmps7
  go_wp2_with fail
  refine h1.mono ?_
  clear h1
  rintro e w1 ⟨rfl, hb1⟩
  obtain ⟨wa, hwa⟩ : ∃ wa, wa = w1.alloc (headObj [] 0 0 0 0 0 0 false) := ⟨_, rfl⟩
  have HB1 : Hid (Below w.heap.size w wa) := Lib.hid (by rw [hwa]; exact hb1.alloc hb1.size _)
  have HWA := Lib.hid hwa
  unfold headObj at HWA
  clear hb1 hwa
  go_wp2_with fail
  have h2 := headBytes_any [97] 1 0 0 0 1 0 false wa (by decide) (HK.out.old HB1.out)
  have hp : Rc.put ⟨[97], 1, 0, 0, 0, 1, 0, false⟩ = Rc.blk Rc.one := Rc.put_ok Rc.one_ok
  rw [hp] at h2
  have hn : (Rc.blk Rc.one).length = 27 := Rc.blk_len Rc.one_ok
  have H2 := Lib.hid h2
  clear h2 hp
  first | rw [← HWA.out] | skip
  refine H2.out.mono ?_
  rintro e w2 ⟨A2, n2, C2, rfl, hn2, hc2, -, ha2, hr2, hb2⟩
  have HB2 := Lib.hid (HB1.out.trans (hb2.mono HB1.out.size))
  rw [hn] at hn2
  subst hn2
  have h3 : Calls Tryd.prog 10 #[.slice A2 27 C2] w2 fun e w' => e = .returned (.tuple #[.agg #[.string (tx [97]), .int .i64 1, .int .i64 0, .int .i64 0, .int .i64 0, .int .i64 1, .int .i64 0, .bool false], .int .i64 0]) ∧ Below w2.heap.size w2 w' := by
    have := readHead_any A2 (Rc.blk Rc.one) 27 C2 _ w2 hn.symm (by decide) ha2 hr2 (HK.out.old HB2.out)
    unfold GotH at this
    rw [Rc.got_yes (Rc.good_blk Rc.one_ok), Rc.gotE_yes (Rc.good_blk Rc.one_ok), Rc.parse_blk Rc.one_ok] at this
    exact this
  have H3 := Lib.hid h3
  clear h3 hr2 hb2 ha2 hn hc2
  go_wp2_with fail
  refine H3.out.mono ?_
  rintro e w3 ⟨rfl, hb3⟩
  obtain ⟨wb, hwb⟩ : ∃ wb, wb = w3.alloc (headObj [97] 1 0 0 0 1 0 false) := ⟨_, rfl⟩
  have HB3 : Hid (Below w.heap.size w wb) := Lib.hid (by
    have := HB2.out.trans (hb3.mono HB2.out.size)
    rw [hwb]; exact this.alloc this.size _)
  have HU3 : Hid (wb.heap[w3.heap.size]? = some (headObj [97] 1 0 0 0 1 0 false)) := Lib.hid (by rw [hwb]; exact Go.Deep.blk_alloc_new _ _)
  have HWB := Lib.hid hwb
  unfold headObj at HWB
  clear hb3 hwb
  obtain ⟨a0, a1, a2, a3, a4, a5, a6, a7⟩ := head8 HU3.out
  rw [HWB.out] at a0 a1 a2 a3 a4 a5 a6 a7
  have h4 := rightHead_any [97] 1 0 0 0 1 0 false wb (by decide) (HK.out.old HB3.out)
  rw [decide_eq_true (show Rc.Ok ⟨[97], 1, 0, 0, 0, 1, 0, false⟩ from Rc.one_ok)] at h4
  have H4 := Lib.hid h4
  clear h4
  have e1 := tx_toList [97]
  go_wp2_with (first
    | (go_at_call 14; refine (num10 _ _).mono ?_; rintro e w' ⟨rfl, hw'⟩; subst hw')
    | (go_at_call 12; rw [← HWB.out]; refine H4.out.mono ?_; rintro e w5 ⟨rfl, hb5⟩; have HB5 := Lib.hid (HB3.out.trans (hb5.mono HB3.out.size)); clear hb5))
  go_ret
  exact ⟨rfl, HB5.out⟩
end Go.Proofs.YtdllkbjbklhigaaDoor
