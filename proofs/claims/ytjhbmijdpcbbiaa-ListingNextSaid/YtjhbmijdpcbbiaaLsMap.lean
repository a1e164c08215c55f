/- A map by texts that tells where the newest file of each path lies; what going through it collects. No function of the program. -/
import Derived.Test.YtjhbmijdpcbbiaaLsPl
import Derived.Test.YtjhbmijdpcbbiaaCtMp
import Derived.Test.YtjhbmijdpcbbiaaLsRow
import Derived.Sort.KeysCollected
import Derived.Sort.OwnSorted
import Derived.Maps.RangeWalk
import Derived.StringKeys
namespace Go.Proofs.Ytjhbmijdpcbbiaa
open Go.RowKit Go.Maps
open Pt (Tx)

set_option maxRecDepth 100000 in
def ksS : Ks Tx where
  k := 9
  m := 46
  val p := .string (tx p)
  ok p := p.length ≤ maxLen
  keyed := string_keyed Try.underlying9
  map := Try.underlying46
  key p hp := ⟨_, WideMaps.keyOf_string_mk Try.underlying9 (by rw [tx_size]; exact hp)⟩
  inj x y h := by injection h with h; exact tx_inj h
/-- the map behind i of the files -/
def toldZ (l : List Ct.F) (i : Nat) (p : Tx) : Option Int := (Ls.told l i p).map fun k => (k : Int)
theorem keepB_iff {l : List Ct.F} {p : Tx} {k : Nat} (h : Ls.told l l.length p = some k) (hk : k < l.length) : (Ls.newest l p).isSome = !l[k].gone := by
  rw [Ls.newest_at h hk]
  cases l[k].gone <;> rfl
/-- which of the paths have a newest -/
def keepN (l : List Ct.F) (ss : List Tx) : List Tx := ss.filter fun p => (Ls.newest l p).isSome
theorem keepN_yes {l : List Ct.F} {ss : List Tx} {p : Tx} (h : (Ls.newest l p).isSome = true) : keepN l (ss ++ [p]) = keepN l ss ++ [p] := by
  unfold keepN; rw [List.filter_append]; simp [h]
theorem keepN_no {l : List Ct.F} {ss : List Tx} {p : Tx} (h : (Ls.newest l p).isSome = false) : keepN l (ss ++ [p]) = keepN l ss := by
  unfold keepN; rw [List.filter_append]; simp [h]
theorem keepN_len (l : List Ct.F) (ss : List Tx) : (keepN l ss).length ≤ ss.length := List.length_filter_le _ _
/-- what an entry of the map is -/
theorem entry_told {l : List Ct.F} {i : Nat} {D : DataW Unit} (hd : ∀ x, ksS.ok x → ∀ q, keyOf Try.prog ksS.k (ksS.val x) = some q → Maps.has D q = (toldZ l i x).isSome ∧ D.atKey q (.lit (.int .i64 0)) = .lit (.int .i64 ((toldZ l i x).getD 0)))
    {x : Tx} {c : Int} {kl : Lit} {y : DataW Unit × List MemPlace} (hkey : keyOf Try.prog 9 (encStr x) = some kl) (hv : plainElem Try.prog 3 (.int .i64 c) = some y) (hat : ∀ zd, D.atKey kl zd = y.1) :
    ∃ k : Nat, Ls.told l i x = some k ∧ c = (k : Int) ∧ kl = .string x ∧ x.length ≤ maxLen := by
  obtain ⟨x', ex, rfl, hx⟩ := Maps.keyOf_str Try.underlying9 hkey
  obtain rfl : x = x' := encStr_inj ex
  obtain ⟨c', ec, rfl, -⟩ := plainElem_int_inv Try.underlying3 hv
  cases ec
  obtain ⟨h1, h2⟩ := hd x hx _ hkey
  rw [has_true_of_atKey hat] at h1
  rw [hat] at h2
  unfold toldZ at h1 h2
  cases ht : Ls.told l i x with
  | none => rw [ht] at h1; cases h1
  | some k =>
    rw [ht] at h2
    refine ⟨k, rfl, ?_, rfl, hx⟩
    injection h2 with h2
    injection h2
/-- when all entries have come -/
theorem names_collected {l : List Ct.F} (hl : ∀ f ∈ l, f.path.length ≤ maxLen) {D : DataW Unit} (hd : ∀ x, ksS.ok x → ∀ q, keyOf Try.prog ksS.k (ksS.val x) = some q → Maps.has D q = (toldZ l l.length x).isSome ∧ D.atKey q (.lit (.int .i64 0)) = .lit (.int .i64 ((toldZ l l.length x).getD 0)))
    {left : Lit → Bool} {ss : List Tx} (hC : Collected D left ss) (hdone : ∀ kl, left kl = false) : (keepN l ss).mergeSort (fun x y => decide (x ≤ y)) = Ls.names l := by
  refine Ls.names_sorted (hC.1.filter _) fun p => ?_
  unfold keepN
  rw [List.mem_filter]
  refine ⟨fun h => h.2, fun h => ⟨?_, h⟩⟩
  obtain ⟨k, hk, ht, hg⟩ := Ls.newest_isSome.1 h
  have hp : p.length ≤ maxLen := by rw [← Ls.told_path ht hk]; exact hl _ (List.getElem_mem hk)
  rw [hC.2 p]
  refine ⟨?_, hdone _⟩
  have hkey : keyOf Try.prog ksS.k (ksS.val p) = some (.string (tx p).data.toList) := WideMaps.keyOf_string_mk Try.underlying9 (by rw [tx_size]; exact hp)
  rw [tx_data] at hkey
  rw [(hd p hp _ hkey).1]
  unfold toldZ
  rw [ht]; rfl
end Go.Proofs.Ytjhbmijdpcbbiaa
