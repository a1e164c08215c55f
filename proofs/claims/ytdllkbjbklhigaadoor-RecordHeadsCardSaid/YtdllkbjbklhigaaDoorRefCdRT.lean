/- What Text of the document's own Reader reads. -/
import Derived.Test.YtdllkbjbklhigaaDoorRefCdR
namespace Go.Proofs.YtdllkbjbklhigaaDoor
open Go.RowKit
open Pt (Tx)

set_option maxRecDepth 100000 in
theorem refText_any (g : Nat) (s : Cd.St) (G : Nat → Prop) (w : World) (h : Rf w g s G) :
    Calls Tryd.prog 34 #[.pointer (some ⟨g, 0, none⟩)] w (RefRed (.string (tx (Cd.txt s))) g (Cd.afT s) G w) := by
  have hb := (Cd.byt s).toNat_lt
  have hn : (Cd.byt s).toNat ≤ 1000 := by omega
  clear hb
  go_enter Tryd.func34, Tryd.ntmps34
  go_wp2_with (first
    | (go_at_call 36; refine (refByte_any g s G w h).mono ?_; rintro e w1 ⟨rfl, hR, hK⟩; have HK := Lib.hid hK; clear hK)
    | (go_at_call 49; refine (refTake_any g (Cd.byt s).toNat (Cd.af 1 s) G w1 hR hn).mono ?_; rintro e w2 ⟨A, c, rfl, hr, hR2, hK2⟩; have hcv := hr.str c; have HR2 := Lib.hid hR2; have HK2 := Lib.hid hK2; clear hr hR2 hK2))
  go_ret
  exact ⟨rfl, HR2.out, HK.out.trans HK2.out⟩
end Go.Proofs.YtdllkbjbklhigaaDoor
