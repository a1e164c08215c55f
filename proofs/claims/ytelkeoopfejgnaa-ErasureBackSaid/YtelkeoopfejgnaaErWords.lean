/- Words for chapter 3: a slice of slices that a call owns and of which each reads as a row, rows of places, and what Encode and Decode answer. No function of the program. -/
import Derived.Test.YtelkeoopfejgnaaMxInts
import Derived.Test.YtelkeoopfejgnaaErPls
namespace Go.Proofs.Ytelkeoopfejgnaa
open Go.RowKit Mx

/-- block b is an own slice of n slices, each of which reads as a row -/
structure TopR (w : World) (b n : Nat) (A : Nat → Option Addr) (L C : Nat → Nat) (M : Mat) : Prop where
  top : RowV w 34 b n (fun i => .slice (A i) (L i) (C i))
  rows : ∀ i, i < n → Rd w (A i) (L i) (M i) (· ≠ b)
namespace TopR
variable {w w' : World} {b n : Nat} {A : Nat → Option Addr} {L L' C : Nat → Nat} {M M' : Mat}
theorem rdM (h : TopR w b n A L C M) : RdM w (some ⟨b, 0, none⟩) n L M (· < w.heap.size) :=
  RdM.in_ (G := fun _ => True) fun _ => ⟨b, 0, rfl, trivial, fun i hi => ⟨A i, C i, by rw [Nat.zero_add]; exact h.top.cell hi, (h.rows i hi).mono fun _ _ => trivial⟩⟩
theorem old (h : TopR w b n A L C M) (hb : Below w.heap.size w w') : TopR w' b n A L C M := ⟨h.top.old hb, fun i hi => (h.rows i hi).old hb⟩
theorem congr (h : TopR w b n A L C M) (hl : ∀ i, i < n → L i = L' i) (he : ∀ i, i < n → ∀ j, j < L i → M i j = M' i j) : TopR w b n A L' C M' :=
  ⟨h.top.congr fun i hi => by rw [hl i hi], fun i hi => by rw [← hl i hi]; exact (h.rows i hi).congr (he i hi)⟩
theorem start (w : World) (n : Nat) (M : Mat) : TopR (w.alloc (.cells (madeCells #[.slice none 0 0] n) 34)) w.heap.size n (fun _ => none) (fun _ => 0) (fun _ => 0) M :=
  ⟨RowV.made w _ _ n, fun _ _ => Rd.empty _ _ _ _⟩
/-- a row is laid -/
theorem set (h : TopR w b n A L C M) (k : Nat) {a : Option Addr} {l c : Nat} {r : Nat → Fe} (hr : Rd w a l r (· ≠ b)) :
    TopR (w.setCell ⟨b, k, none⟩ (.slice a l c)) b n (fun i => if i = k then a else A i) (fun i => if i = k then l else L i) (fun i => if i = k then c else C i) (fun i => if i = k then r else M i) := by
  refine ⟨(h.top.set k _).congr fun i _ => ?_, fun i hi => ?_⟩
  · by_cases e : i = k <;> simp [e]
  · by_cases e : i = k
    · simp only [e, if_true]; exact hr.kp (Kp.store w b k _) (fun _ hx => hx)
    · simp only [e, if_false]; exact (h.rows i hi).kp (Kp.store w b k _) (fun _ hx => hx)
/-- a row is laid as the matrix has it -/
theorem lay (h : TopR w b n A L C M) (k : Nat) {a : Option Addr} {l c : Nat} (hr : Rd w a l (M k) (· ≠ b)) :
    TopR (w.setCell ⟨b, k, none⟩ (.slice a l c)) b n (fun i => if i = k then a else A i) (fun i => if i = k then l else L i) (fun i => if i = k then c else C i) M :=
  (h.set k hr).congr (fun _ _ => rfl) fun i _ j _ => by by_cases e : i = k <;> simp [e]
end TopR
theorem Rd.ne {w : World} {A : Option Addr} {n : Nat} {r : Nat → Fe} {G : Nat → Prop} {b : Nat} (h : Rd w A n r G) (hb : w.heap.size ≤ b) : Rd w A n r (· ≠ b) :=
  h.in_.mono fun x hx => by omega
/-- the first of what reads -/
theorem RdM.first {w : World} {A : Option Addr} {n k : Nat} {L : Nat → Nat} {M : Mat} {G : Nat → Prop} (h : RdM w A n L M G) (hk : k ≤ n) : RdM w A k L M G := by
  intro h0
  obtain ⟨b, off, e, hg, hc⟩ := h (by omega)
  exact ⟨b, off, e, hg, fun i hi => hc i (by omega)⟩
theorem RdI.first {w : World} {A : Option Addr} {n k : Nat} {z : Nat → Int} (h : RdI w A n z) (hk : k ≤ n) : RdI w A k z := by
  intro h0
  obtain ⟨b, off, e, hc⟩ := h (by omega)
  exact ⟨b, off, e, fun i hi => hc i (by omega)⟩
theorem RdI.kp {w w' : World} {A : Option Addr} {n : Nat} {z : Nat → Int} {S : Nat → Prop} (h : RdI w A n z) (hk : Kp S w w') (hs : ∀ a, A = some a → ¬ S a.block) : RdI w' A n z := by
  intro h0
  obtain ⟨b, off, e, hc⟩ := h h0
  exact ⟨b, off, e, fun j hj => hk.cell (hc j hj) (hs ⟨b, off, none⟩ e)⟩
theorem RdI.congr {w : World} {A : Option Addr} {n : Nat} {z z' : Nat → Int} (h : RdI w A n z) (he : ∀ j, j < n → z j = z' j) : RdI w A n z' := by
  intro h0
  obtain ⟨b, off, e, hc⟩ := h h0
  exact ⟨b, off, e, fun j hj => by rw [hc j hj, he j hj]⟩
theorem infoInt : (Try.prog.info? 3).map (fun i => (i.zero, i.size, i.bytes)) = some (some (.int .i64 0), 1, 8) := by kernel_rfl
/-- numbers as cells -/
def intsOf (l : List Nat) : List Value := l.map fun (x : Nat) => .int .i64 (x : Int)
theorem intsOf_one {l : List Nat} : ∀ u ∈ intsOf l, u.oneCell' = true := by
  intro u hu
  simp only [intsOf, List.mem_map] at hu
  obtain ⟨j, _, rfl⟩ := hu
  rfl
theorem oneInt (x : Int) : ∀ u ∈ [Value.int .i64 x], u.oneCell' = true := by
  intro u hu; simp at hu; subst hu; rfl
/-- an own row of numbers reads -/
theorem RdI.of_owns {w : World} {base : Nat} {l : List Nat} {v : Value} (h : w.ownsRow base 3 1 v l.length (intsOf l)) :
    ∃ A C, v = .slice A l.length C ∧ l.length ≤ C ∧ (∀ a, A = some a → base ≤ a.block) ∧ RdI w A l.length (fun j => (l.getD j 0 : Int)) := by
  rcases Nat.eq_zero_or_pos l.length with h0 | h0
  · rcases h.2 with ⟨e, _⟩ | ⟨g, cap, cur, e, hb, _, hc, _⟩
    · exact ⟨none, 0, by rw [h0]; exact e, by omega, fun a ha => by (cases ha), fun hh => by omega⟩
    · exact ⟨_, cap, e, hc, fun a ha => by (cases ha; exact hb), fun hh => by omega⟩
  · obtain ⟨g, C, h1, h2, h3, h4⟩ := RowV.of_owns h h0
    refine ⟨_, C, h1, h3, fun a ha => by (cases ha; exact h2), fun _ => ⟨g, 0, rfl, fun j hj => ?_⟩⟩
    rw [Nat.zero_add, h4.cell hj]
    congr 1
    unfold intsOf
    simp only [List.getD_eq_getElem?_getD, List.getElem?_map, List.getElem?_eq_getElem hj, Option.map_some, Option.getD_some]

/-! ### What is answered -/
/-- parity: byte by byte Cauchy's product -/
def par (n p : Nat) (D : Mat) : Mat := fun i c => mv n (cau p) (fun j => D j c) i
def EncOk (n : Nat) (L : Nat → Nat) (p : Int) : Prop := 1 ≤ n ∧ (∀ i, i < n → L i = L 0) ∧ 0 ≤ p ∧ p ≤ 255 - n
open Classical in
def EncAny (n : Nat) (L : Nat → Nat) (D : Mat) (p : Int) (w : World) (e : Ending) (w' : World) : Prop :=
  if EncOk n L p then ResM 0 p.toNat (L 0) (par n p.toNat D) w e w' else ResM 1 0 0 one w e w'
/-- the rows of what was made of the data -/
def encM (d p : Nat) (at_ : Nat → Nat) : Mat := fun t => enc d (cau p) (at_ t)
theorem encM_some {d p : Nat} {at_ : Nat → Nat} (hdp : d + p ≤ 255) (hup : ∀ s t, s < t → t < d → at_ s < at_ t) (hlt : ∀ t, t < d → at_ t < d + p) : ∃ R V, gjs d (encM d p at_) d = some (R, V) :=
  enc_some (x := fun i => el i) (y := fun j => el (p + j)) (fun i j _ _ => rfl)
    (fun i j hi hj h => el_ne (by omega) (by omega) h) (fun i j hi hj h => el_ne (by omega) (by omega) (by omega)) (fun i j hi hj => el_ne (by omega) (by omega) (by omega)) hup hlt
/-- the data that rows tell -/
def dec (d p : Nat) (at_ : Nat → Nat) (Y : Mat) : Mat := fun x c => mv d (invOf d (encM d p at_)) (fun t => Y t c) x
/-- those of data among them are as they are -/
theorem dec_same {d p : Nat} {at_ : Nat → Nat} (hdp : d + p ≤ 255) (hup : ∀ s t, s < t → t < d → at_ s < at_ t) (hlt : ∀ t, t < d → at_ t < d + p) (Y : Mat) {t : Nat} (ht : t < d) (h : at_ t < d) (c : Nat) : Y t c = dec d p at_ Y (at_ t) c := by
  obtain ⟨R, V, hg⟩ := encM_some hdp hup hlt
  have h1 := mv_inv_right hg (fun t => Y t c) ht
  rw [← h1]
  show mv d (encM d p at_) (fun x => dec d p at_ Y x c) t = _
  rw [show mv d (encM d p at_) (fun x => dec d p at_ Y x c) t = mv d one (fun x => dec d p at_ Y x c) (at_ t) from sm_congr fun k _ => by
    show (if at_ t < d then one (at_ t) k else cau p (at_ t - d) k) * _ = _
    rw [if_pos h], mv_one h]
/-- what was made of data tells it -/
theorem dec_back {d p : Nat} {at_ : Nat → Nat} (hdp : d + p ≤ 255) (hup : ∀ s t, s < t → t < d → at_ s < at_ t) (hlt : ∀ t, t < d → at_ t < d + p) (D Y : Mat) {c : Nat} (hY : ∀ t, t < d → Y t c = mv d (encM d p at_) (fun x => D x c) t) {x : Nat} (hx : x < d) : dec d p at_ Y x c = D x c := by
  obtain ⟨R, V, hg⟩ := encM_some hdp hup hlt
  rw [← mv_inv_left hg (fun x => D x c) hx]
  exact mv_congr (fun _ _ => rfl) hY
def there (L : Nat → Nat) (x : Nat) : Bool := decide (0 < L x)
def DecOk (n : Nat) (L : Nat → Nat) (d : Int) : Prop := 1 ≤ d ∧ d ≤ n ∧ n ≤ 255 ∧ 0 < plsN (there L) n ∧ ∀ j, j < plsN (there L) n → L (plsAt (there L) n j) = L (plsAt (there L) n 0)
open Classical in
def DecAny (n : Nat) (L : Nat → Nat) (H : Mat) (d : Int) (w : World) (e : Ending) (w' : World) : Prop :=
  if DecOk n L d then if plsN (there L) n < d.toNat then ResM 10 0 0 one w e w' else ResM 0 d.toNat (L (plsAt (there L) n 0)) (dec d.toNat (n - d.toNat) (plsAt (there L) n) (fun t => H (plsAt (there L) n t))) w e w' else ResM 1 0 0 one w e w'
theorem EncAny.res (n : Nat) (L : Nat → Nat) (D : Mat) (p : Int) : ∃ (code : Int) (k q : Nat) (X : Mat), k ≤ 255 ∧ ∀ w e w', EncAny n L D p w e w' → ResM code k q X w e w' := by
  by_cases h : EncOk n L p
  · have h1 := h.1
    have h2 := h.2.2.1
    have h3 := h.2.2.2
    exact ⟨0, p.toNat, L 0, par n p.toNat D, by omega, fun w e w' hh => by unfold EncAny at hh; rw [if_pos h] at hh; exact hh⟩
  · exact ⟨1, 0, 0, one, by omega, fun w e w' hh => by unfold EncAny at hh; rw [if_neg h] at hh; exact hh⟩
theorem DecAny.res (n : Nat) (L : Nat → Nat) (H : Mat) (d : Int) : ∃ (code : Int) (k q : Nat) (X : Mat), k ≤ 255 ∧ ∀ w e w', DecAny n L H d w e w' → ResM code k q X w e w' := by
  by_cases h : DecOk n L d
  · have h1 := h.1
    have h2 := h.2.1
    have h3 := h.2.2.1
    by_cases hn : plsN (there L) n < d.toNat
    · exact ⟨10, 0, 0, one, by omega, fun w e w' hh => by unfold DecAny at hh; rw [if_pos h, if_pos hn] at hh; exact hh⟩
    · exact ⟨0, d.toNat, _, _, by omega, fun w e w' hh => by unfold DecAny at hh; rw [if_pos h, if_neg hn] at hh; exact hh⟩
  · exact ⟨1, 0, 0, one, by omega, fun w e w' hh => by unfold DecAny at hh; rw [if_neg h] at hh; exact hh⟩
end Go.Proofs.Ytelkeoopfejgnaa
