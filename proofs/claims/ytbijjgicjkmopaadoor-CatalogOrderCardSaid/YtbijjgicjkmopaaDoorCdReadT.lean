/- What Text of a Reader of package code answer. -/
import Derived.Test.YtbijjgicjkmopaaDoorMai
namespace Go.Proofs.YtbijjgicjkmopaaDoor
open Go.RowKit
open Pt (Tx)


set_option maxRecDepth 100000 in
theorem rtext_any (g : Nat) (s : Cd.St) (G : Nat → Prop) (w : World) (h : Rr w g s G) (hl : s.1.length ≤ 1000000000) :
    Calls Tryd.prog 50 #[.pointer (some ⟨g, 0, none⟩)] w (Red (.string (tx (Cd.txt s))) g (Cd.afT s) G w) := by
  have hb := (Cd.byt s).toNat_lt
  have hn : (Cd.byt s).toNat ≤ 1000 := by omega
  have hl' : (Cd.af 1 s).1.length ≤ 1000000000 := Nat.le_trans (Cd.af_le 1 s) hl
  clear hb
  go_enter Tryd.func50, Tryd.ntmps50
  go_wp2_with (first
    | (go_at_call 52; refine (rbyte_any g s G w h hl).mono ?_; rintro e w1 ⟨rfl, hR, hK⟩; have HK := Lib.hid hK; clear hK)
    | (go_at_call 61; refine (take_any g (Cd.byt s).toNat (Cd.af 1 s) G w1 hR hl' hn).mono ?_; rintro e w2 ⟨A, c, rfl, hr, hR2, hK2⟩; have hcv := hr.str c; have HR2 := Lib.hid hR2; have HK2 := Lib.hid hK2; clear hr hR2 hK2))
  go_ret
  exact ⟨rfl, HR2.out, HK.out.trans HK2.out⟩
end Go.Proofs.YtbijjgicjkmopaaDoor
