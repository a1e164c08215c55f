/- The document's example. -/
import Derived.Test.YtflcnghjhgfkfaaTpLoad
import Derived.Lib.SlBytesConst
namespace Go.Proofs.Ytflcnghjhgfkfaa
open Go.RowKit
open Pt (Tx)

theorem lit1 (w : World) (c : UInt8) (fr : Nat × Nat) : RdL (w.alloc (.cells #[.int .u8 (c.toNat : Int)] 5 fr)) (some ⟨w.heap.size, 0, none⟩) [c] (· = w.heap.size) :=
  RdL.of_cells (Go.Deep.blk_alloc_new _ _) fun j hj => by
    have : j = 0 := by simp at hj; omega
    subst this; rfl
theorem alive8_true (w : World) : Calls Try.prog 7 #[] w (AnsB true w) := by
  go_enter Try.func7, Try.ntmps7
  go_wp2_with (first
    | (go_at_call 9; refine (load_ok 1 3 none [] 0 (fun _ => True) w (RdB.empty _ _ _) (by decide)).mono ?_; rintro e w1 ⟨g, rfl, hg, hD, hb⟩; have HD := Lib.hid hD; have HB := Lib.hid hb; have hlt := hD.lt; have hcv := Lib.run_convert_bytes_const (P := Try.prog) w1 35 5 #[.int .u8 97] 1 1 Try.underlying35 Try.underlying5; clear hD hb)
    | (go_at_call 12; refine (num_any _ _).mono ?_; rintro e w' ⟨rfl, rfl⟩)
    | (go_at_call 21; refine (dlen_any g 1 3 [] w1 HD.out).mono ?_; rintro e w' ⟨rfl, rfl⟩)
    | (go_at_call 13; refine (append_ok g 1 3 [] _ [97] 1 1 _ _ (HD.out.old ((Below.refl _ _).alloc (Nat.le_refl _) _)) rfl (by decide) (by decide) (by decide) (lit1 w1 97 _)).mono ?_; rintro e w2 ⟨rfl, hD2, hK⟩; have HD2 := Lib.hid hD2; have HK := Lib.hid hK; clear hD2 hK)
    | (go_at_call 22; refine (room_any g 1 3 ([] ++ [[97]]) _ HD2.out).mono ?_; rintro e w3 ⟨rfl, nq, rfl⟩))
  go_ret
  have hx : Below w.heap.size w w2 := (HB.out.alloc HB.out.size _).trans (HK.out.below (by have := HB.out.size; simp; omega) (fun k hk => by rw [hk]; exact hg))
  exact ⟨rfl, below_drewN hx _⟩
end Go.Proofs.Ytflcnghjhgfkfaa
