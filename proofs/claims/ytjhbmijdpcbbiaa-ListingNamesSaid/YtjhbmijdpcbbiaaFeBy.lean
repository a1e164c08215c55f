/- Bytes as elements and elements as bytes: a list of bytes as a row, a row as a list. No function of the program. -/
import Derived.Test.YtjhbmijdpcbbiaaMxMem
import Derived.Test.YtjhbmijdpcbbiaaBlWords
namespace Go.Proofs.Ytjhbmijdpcbbiaa
open Go.RowKit
open Pt (Tx)

/-- a byte as an element -/
def feB (c : UInt8) : Mx.Fe := Mx.mk c.toNat c.toNat_lt
/-- bytes as a row -/
def rowL (l : Tx) : Nat → Mx.Fe := fun i => feB (l.getD i 0)
theorem rowL_at {l : Tx} {i : Nat} (h : i < l.length) : fi (rowL l i) = (l[i].toNat : Int) := by
  unfold rowL fi feB
  rw [Mx.nat_mk, List.getD_eq_getElem?_getD, List.getElem?_eq_getElem h]; rfl
/-- bytes that read as a list read as a row -/
theorem RdL.rd {w : World} {A : Option Addr} {l : Tx} {G : Nat → Prop} (h : RdL w A l G) : Rd w A l.length (rowL l) G := fun hn => by
  obtain ⟨b, off, e, hg, hc⟩ := h hn
  exact ⟨b, off, e, hg, fun j hj => by rw [rowL_at hj]; exact hc j hj⟩
/-- an element as a byte -/
def byF (a : Mx.Fe) : UInt8 := UInt8.ofNat a.nat
theorem byF_nat (a : Mx.Fe) : (byF a).toNat = a.nat := by
  unfold byF
  rw [UInt8.toNat_ofNat', Nat.mod_eq_of_lt a.nat_lt]
theorem feB_byF (a : Mx.Fe) : feB (byF a) = a := by
  refine Mx.Fe.ext ?_
  unfold feB
  rw [Mx.nat_mk, byF_nat]
/-- a row as a list of bytes -/
def lst (r : Nat → Mx.Fe) (n : Nat) : Tx := (List.range n).map fun i => byF (r i)
theorem lst_len (r : Nat → Mx.Fe) (n : Nat) : (lst r n).length = n := by simp [lst]
theorem lst_at {r : Nat → Mx.Fe} {n i : Nat} (h : i < (lst r n).length) : ((lst r n)[i].toNat : Int) = fi (r i) := by
  simp only [lst, List.getElem_map, List.getElem_range]
  rw [byF_nat]; rfl
theorem rowL_lst {r : Nat → Mx.Fe} {n i : Nat} (h : i < n) : rowL (lst r n) i = r i := by
  refine fi_eq ?_
  rw [rowL_at (by rw [lst_len]; exact h), lst_at]
theorem lst_rowL (l : Tx) : lst (rowL l) l.length = l := by
  refine List.ext_getElem (lst_len _ _) fun i h h' => ?_
  refine UInt8.toNat.inj ?_
  have h1 := lst_at h
  rw [rowL_at h'] at h1
  omega
theorem lst_congr {r s : Nat → Mx.Fe} {n : Nat} (h : ∀ i, i < n → r i = s i) : lst r n = lst s n :=
  List.map_congr_left fun i hi => by rw [h i (List.mem_range.1 hi)]
/-- a row reads as a list -/
theorem Rd.rdL {w : World} {A : Option Addr} {n : Nat} {r : Nat → Mx.Fe} {G : Nat → Prop} (h : Rd w A n r G) : RdL w A (lst r n) G := fun hn => by
  rw [lst_len] at hn
  obtain ⟨b, off, e, hg, hc⟩ := h hn
  refine ⟨b, off, e, hg, fun j hj => ?_⟩
  rw [lst_at hj]
  rw [lst_len] at hj
  exact hc j hj
end Go.Proofs.Ytjhbmijdpcbbiaa
