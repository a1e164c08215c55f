/- What Text of a Writer of package code writes. -/
import Derived.Test.YtndofmoepjfnfaaDoorMaj
namespace Go.Proofs.YtndofmoepjfnfaaDoor
open Go.RowKit
open Pt (Tx)


theorem wtext_any (g : Nat) (l s : Tx) (w : World) (h : Wr w g l) (hl : l.length ≤ 999999000) (hs : s.length ≤ maxLen) :
    Calls Tryd.prog 77 #[.pointer (some ⟨g, 0, none⟩), .string (tx s)] w (Wrote g (l ++ Cd.tb s) w) := by
  unfold maxLen at hs
  have es := tx_size s
  have et := tx_toList s
  by_cases hle : s.length ≤ 255
  · have e0 : (tx s).extract 0 s.length = tx s := by rw [tx_extract]; simp
    have hc := conv_lit w [Cd.b8 (s.length : Int)] (n := 1) rfl (c := #[.int .u8 (s.length : Int)]) (by simp [cellsL, Cd.b8_nat]; omega)
    have HT : Hid (Cd.tb s = [Cd.b8 (s.length : Int)] ++ s) := Lib.hid (by unfold Cd.tb; rw [List.take_of_length_le hle]; rfl)
    have ec := tx_append [Cd.b8 (s.length : Int)] s
    have e1 : (tx [Cd.b8 (s.length : Int)]).size = 1 := rfl
    go_enter Tryd.func77, Tryd.ntmps77
    go_wp2_with (go_at_call 74; (refine (put_any g l ([Cd.b8 (s.length : Int)] ++ s) _ (h.old ((Below.refl _ _).alloc (Nat.le_refl _) _)) (Nat.succ_pos _) (by simp; omega)).mono ?_); rintro e w' hq; have HQ := Lib.hid hq; obtain ⟨rfl, _, _⟩ := hq)
    go_end0
    rw [HT.out]
    exact HQ.out.after ((Kp.refl _ w).alloc _)
  · have e0 : (tx s).extract 0 255 = tx (s.take 255) := by rw [tx_extract]; simp
    have hn : (s.take 255).length = 255 := by simp; omega
    have hc := conv_lit w [Cd.b8 255] (n := 1) rfl (c := #[.int .u8 255]) (by simp [cellsL, Cd.b8_nat])
    have HT : Hid (Cd.tb s = [Cd.b8 255] ++ s.take 255) := Lib.hid (by unfold Cd.tb; rw [hn]; rfl)
    have ec := tx_append [Cd.b8 255] (s.take 255)
    have e1 : (tx [Cd.b8 255]).size = 1 := rfl
    have e2 : (tx (s.take 255)).size = 255 := by rw [tx_size, hn]
    have e3 := tx_toList (s.take 255)
    have HN : Hid ((s.take 255).length = 255) := Lib.hid hn
    clear hn
    go_enter Tryd.func77, Tryd.ntmps77
    go_wp2_with (go_at_call 74; (refine (put_any g l ([Cd.b8 255] ++ s.take 255) _ (h.old ((Below.refl _ _).alloc (Nat.le_refl _) _)) (Nat.succ_pos _) (by rw [List.length_append, HN.out]; simp; omega)).mono ?_); rintro e w' hq; have HQ := Lib.hid hq; obtain ⟨rfl, _, _⟩ := hq)
    go_end0
    rw [HT.out]
    exact HQ.out.after ((Kp.refl _ w).alloc _)
end Go.Proofs.YtndofmoepjfnfaaDoor
