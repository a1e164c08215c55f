/- Texts in memory: a string is a list of bytes. No function of the program. -/
import Derived.Test.YtjhbmijdpcbbiaaPtMath
import Derived.Test.YtjhbmijdpcbbiaaRows
import Derived.Laws.OwnMore
import Derived.Laws.Concat
import Derived.Laws.Strings2
import Derived.Laws.NewBlocks
import Derived.WalkKit
import Derived.Lib.Hide
namespace Go.Proofs.Ytjhbmijdpcbbiaa
open Go.RowKit
open Pt (Tx)

/-- a text as a string -/
def tx (l : Tx) : ByteArray := ⟨l.toArray⟩
theorem tx_toList (l : Tx) : (tx l).toList = l := ByteArray.toList_mk l
theorem tx_data (l : Tx) : (tx l).data.toList = l := by simp [tx]
theorem tx_size (l : Tx) : (tx l).size = l.length := by simp [tx, ByteArray.size]
theorem tx_eta (s : ByteArray) : tx s.data.toList = s := by apply ByteArray.ext; simp [tx]
theorem tx_of {s : ByteArray} {l : Tx} (h : s.data.toList = l) : s = tx l := by rw [← h, tx_eta]
theorem tx_append (a b : Tx) : tx a ++ tx b = tx (a ++ b) := ByteArray.mk_append_mk a b
theorem tx_extract (l : Tx) (i j : Nat) : (tx l).extract i j = tx ((l.drop i).take (j - i)) := ByteArray.extract_mk l i j
theorem tx_get (l : Tx) (k : Nat) (h : k < (tx l).size) (h' : k < l.length) : (tx l)[k]'h = l[k] := by
  show (tx l).data[k]'_ = _
  simp [tx]
theorem tx_inj {a b : Tx} (h : tx a = tx b) : a = b := by rw [← tx_toList a, h, tx_toList]
end Go.Proofs.Ytjhbmijdpcbbiaa
