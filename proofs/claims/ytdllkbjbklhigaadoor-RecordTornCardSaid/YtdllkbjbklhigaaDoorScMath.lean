/- Chapter 10's seals as what the two readers make of bytes; labels, one behind the other. No program. -/
import Derived.Test.YtdllkbjbklhigaaDoorRcMath
namespace Go.Proofs.YtdllkbjbklhigaaDoor.Rc
open Pt (Tx)
open Cd

/-- n numbers, read one behind the other -/
def labsP : Nat → St → List Int
  | 0, _ => []
  | n + 1, s => num (tk 4 s) :: labsP n (af 4 s)
theorem labsP_len : ∀ (n : Nat) (s : St), (labsP n s).length = n
  | 0, _ => rfl
  | n + 1, s => by rw [labsP, List.length_cons, labsP_len n]
theorem labsP_labB : ∀ (l : List Int) (bad : Bool), (∀ x ∈ l, 0 ≤ x ∧ x < 4294967296) → labsP l.length (labB l, bad) = l
  | [], _, _ => rfl
  | x :: l, bad, hx => by
    have h1 := hx x (List.mem_cons_self ..)
    rw [List.length_cons, labsP, labB, tk_app 4 _ _ _ (be4_len x), af_app 4 _ _ _ (be4_len x), num4 h1.1 h1.2, labsP_labB l bad (fun y hy => hx y (List.mem_cons_of_mem _ hy))]
/-- what the program reads -/
def pparse (b : Tx) : S := ⟨num (tk 4 (b, false)), ((byt (r1 b)).toNat : Int), ((byt (r2 b)).toNat : Int), ((byt (r3 b)).toNat : Int), labsP ((byt (r2 b)).toNat + (byt (r3 b)).toNat) (r4 b)⟩
theorem pparse_sblk {s : S} (k : SOk s) : pparse (sblk s) = s := by
  have hf := k.few
  obtain ⟨⟨⟨n0, n1⟩, d0, p0, dp, hl, i0, i1⟩, hx, -⟩ := k
  have e1 : r1 (sblk s) = ([b8 s.index] ++ ([b8 s.data] ++ ([b8 s.parity] ++ labB s.labels)), false) := af_app 4 _ _ _ rfl
  have e2 : r2 (sblk s) = ([b8 s.data] ++ ([b8 s.parity] ++ labB s.labels), false) := by unfold r2; rw [e1]; exact af_app 1 _ _ _ rfl
  have e3 : r3 (sblk s) = ([b8 s.parity] ++ labB s.labels, false) := by unfold r3; rw [e2]; exact af_app 1 _ _ _ rfl
  have e4 : r4 (sblk s) = (labB s.labels, false) := by unfold r4; rw [e3]; exact af_app 1 _ _ _ rfl
  have e0 : tk 4 (sblk s, false) = be4 s.number := tk_app 4 _ _ _ rfl
  have g1 := b8_nat s.index
  have g2 := b8_nat s.data
  have g3 := b8_nat s.parity
  have hn : (b8 s.data).toNat + (b8 s.parity).toNat = s.labels.length := by omega
  unfold pparse
  rw [e0, e1, e2, e3, e4, show byt ([b8 s.index] ++ ([b8 s.data] ++ ([b8 s.parity] ++ labB s.labels)), false) = b8 s.index from byt_cons _ _ _,
    show byt ([b8 s.data] ++ ([b8 s.parity] ++ labB s.labels), false) = b8 s.data from byt_cons _ _ _, show byt ([b8 s.parity] ++ labB s.labels, false) = b8 s.parity from byt_cons _ _ _,
    hn, g1, g2, g3, num4 (by omega) (by omega), labsP_labB s.labels false (fun x h => by have := hx x h; omega), show s.index % 256 = s.index by omega, show s.data % 256 = s.data by omega, show s.parity % 256 = s.parity by omega]
/-- what the program takes is a seal's bytes -/
theorem pgood_iff {b : Tx} : (SOk (pparse b) ∧ sblk (pparse b) = b) ↔ SGood b := by
  constructor
  · rintro ⟨h1, h2⟩
    have e : sparse b = pparse b := by conv => lhs; rw [← h2]
                                       exact sparse_sblk h1
    unfold SGood; rw [e]; exact ⟨h1, h2⟩
  · rintro ⟨h1, h2⟩
    have e : pparse b = sparse b := by conv => lhs; rw [← h2]
                                       exact pparse_sblk h1
    rw [e]; exact ⟨h1, h2⟩
theorem pparse_good {b : Tx} (h : SGood b) : pparse b = sparse b := by
  conv => lhs; rw [← h.2]
  exact pparse_sblk h.1
/-- labels, one more -/
theorem Labs.nil : Labs [] := ⟨(fun _ h => by cases h), List.nodup_nil⟩
theorem labs_snoc {l : List Int} {x : Int} : Labs (l ++ [x]) ↔ Labs l ∧ (1 ≤ x ∧ x ≤ 2147483647) ∧ x ∉ l := by
  unfold Labs
  rw [List.nodup_append]
  constructor
  · rintro ⟨h1, h2, -, h4⟩
    exact ⟨⟨fun y hy => h1 y (List.mem_append_left _ hy), h2⟩, h1 x (List.mem_append_right _ (List.mem_singleton.2 rfl)), fun hm => h4 x hm x (List.mem_singleton.2 rfl) rfl⟩
  · rintro ⟨⟨h1, h2⟩, h3, h4⟩
    refine ⟨fun y hy => ?_, h2, by simp, fun a ha b hb => ?_⟩
    · rcases List.mem_append.1 hy with hy | hy
      · exact h1 y hy
      · rw [List.mem_singleton.1 hy]; exact h3
    · rw [List.mem_singleton.1 hb]; rintro rfl; exact h4 ha
theorem labs_take {l : List Int} {k : Nat} (h : k < l.length) : Labs (l.take (k + 1)) ↔ Labs (l.take k) ∧ (1 ≤ l[k] ∧ l[k] ≤ 2147483647) ∧ l[k] ∉ l.take k := by
  rw [List.take_succ_eq_append_getElem h, labs_snoc]
theorem Labs.prefix {l m : List Int} (h : Labs (l ++ m)) : Labs l :=
  ⟨fun y hy => h.1 y (List.mem_append_left _ hy), (List.nodup_append.1 h.2).1⟩
theorem labs_bad {l : List Int} {k : Nat} (h : ¬ Labs (l.take k)) : ¬ Labs l := fun hl => h (Labs.prefix (m := l.drop k) (by rw [List.take_append_drop]; exact hl))
theorem labs_step_no {l : List Int} {k : Nat} (hk : k < l.length) (h : ¬ ((1 ≤ l[k] ∧ l[k] ≤ 2147483647) ∧ l[k] ∉ l.take k)) : ¬ Labs l :=
  labs_bad (k := k + 1) fun h' => h ((labs_take hk).1 h').2
/-- what the document's own reads, round by round -/
theorem labs_more {n : Nat} {b : Tx} (h : ¬ b.length < 4) : labs (n + 1) b = num (b.take 4) :: labs n (b.drop 4) := by rw [labs, if_neg h]
theorem labs_end {n : Nat} {b : Tx} (h : n = 0 ∨ b.length < 4) : labs n b = [] := by
  cases n with
  | zero => rfl
  | succ n => rw [labs, if_pos (by omega)]
end Go.Proofs.YtdllkbjbklhigaaDoor.Rc
