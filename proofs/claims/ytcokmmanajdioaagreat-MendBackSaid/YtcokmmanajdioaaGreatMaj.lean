/- Plain mathematics of chapter 3, no program: the places of a choice in their order, and what a decoding comes to. Words for chapter 3: a slice of slices that a call owns and of which each reads as a row, rows of places, and what Encode and Decode answer. No function of the program. Parity as it is made: an own slice of slices of rows, each made longer by append, row by row. No function of the program. Words for Parity: what it answers, the rows that Encode made, and how the tapes of parity grow by one row, one tape behind the other. No function of the program. What a group's parity tapes are, and why none; and what reads as their blocks. No function of the program. -/
import Derived.Test.YtcokmmanajdioaaGreatMai
import Derived.Test.YtcokmmanajdioaaGreatMaf
import Derived.Test.YtcokmmanajdioaaGreatMae
namespace Go.Proofs.YtcokmmanajdioaaGreat.Mx

/-- the places below n that are chosen, in their order -/
def pls (P : Nat → Bool) (n : Nat) : List Nat := (List.range n).filter P
def plsN (P : Nat → Bool) (n : Nat) : Nat := (pls P n).length
def plsAt (P : Nat → Bool) (n j : Nat) : Nat := (pls P n).getD j 0
theorem pls_yes {P : Nat → Bool} {n : Nat} (h : P n = true) : pls P (n + 1) = pls P n ++ [n] := by
  unfold pls; rw [List.range_succ, List.filter_append]; simp [h]
theorem pls_no {P : Nat → Bool} {n : Nat} (h : P n = false) : pls P (n + 1) = pls P n := by
  unfold pls; rw [List.range_succ, List.filter_append]; simp [h]
theorem pls_congr {P P' : Nat → Bool} {n : Nat} (h : ∀ x, x < n → P x = P' x) : pls P n = pls P' n := by
  unfold pls
  exact List.filter_congr fun x hx => by rw [h x (List.mem_range.1 hx)]
theorem plsAt_get {P : Nat → Bool} {n j : Nat} (hj : j < plsN P n) : (pls P n)[j]? = some (plsAt P n j) := by
  unfold plsN at hj
  unfold plsAt
  rw [List.getD_eq_getElem?_getD, List.getElem?_eq_getElem hj]; rfl
theorem plsAt_eq {P : Nat → Bool} {n j : Nat} (hj : j < (pls P n).length) : plsAt P n j = (pls P n)[j] := by
  unfold plsAt
  rw [List.getD_eq_getElem?_getD, List.getElem?_eq_getElem hj]; rfl
theorem plsAt_in {P : Nat → Bool} {n j : Nat} (hj : j < plsN P n) : plsAt P n j < n ∧ P (plsAt P n j) = true := by
  have h := List.mem_of_getElem? (plsAt_get hj)
  unfold pls at h
  rw [List.mem_filter, List.mem_range] at h
  exact h
theorem plsAt_up {P : Nat → Bool} {n s t : Nat} (hst : s < t) (ht : t < plsN P n) : plsAt P n s < plsAt P n t := by
  have h : (pls P n).Pairwise (· < ·) := List.Pairwise.filter _ List.pairwise_lt_range
  have hs : s < (pls P n).length := Nat.lt_trans hst ht
  rw [plsAt_eq hs, plsAt_eq ht]
  exact List.pairwise_iff_getElem.1 h s t hs ht hst
theorem pls_all {P : Nat → Bool} {n x : Nat} (hx : x < n) (h : P x = true) : ∃ j, j < plsN P n ∧ plsAt P n j = x := by
  have hm : x ∈ pls P n := by unfold pls; rw [List.mem_filter, List.mem_range]; exact ⟨hx, h⟩
  obtain ⟨j, hj, e⟩ := List.getElem_of_mem hm
  exact ⟨j, hj, by rw [plsAt_eq hj, e]⟩
theorem plsN_cnt (P : Nat → Bool) (n : Nat) : plsN P n = cnt P n := by
  induction n with
  | zero => rfl
  | succ n ih =>
    unfold plsN at ih ⊢
    cases h : P n with
    | true => rw [pls_yes h, List.length_append, ih]; simp [cnt, h]
    | false => rw [pls_no h, ih]; simp [cnt, h]
theorem plsN_le (P : Nat → Bool) (n : Nat) : plsN P n ≤ n := by rw [plsN_cnt]; exact cnt_le P n
theorem plsN_zero {P : Nat → Bool} {n : Nat} (h : plsN P n = 0) : ∀ x, x < n → P x = false := by
  rw [plsN_cnt] at h; exact cnt_zero n h
/-- rising places are at least their number -/
theorem up_ge {at_ : Nat → Nat} {n : Nat} (hup : ∀ s t, s < t → t < n → at_ s < at_ t) : ∀ t, t < n → t ≤ at_ t := by
  intro t
  induction t with
  | zero => intro _; exact Nat.zero_le _
  | succ t ih =>
    intro ht
    have h1 := ih (by omega)
    have h2 := hup t (t + 1) (by omega) ht
    omega
theorem up_le {at_ : Nat → Nat} {n p : Nat} (hup : ∀ s t, s < t → t < n → at_ s < at_ t) (hlt : ∀ t, t < n → at_ t < n + p) : ∀ k t, t + k + 1 = n → at_ t ≤ t + p := by
  intro k
  induction k with
  | zero =>
    intro t ht
    have := hlt t (by omega)
    omega
  | succ k ih =>
    intro t ht
    have h1 := ih (t + 1) (by omega)
    have h2 := hup t (t + 1) (by omega) (by omega)
    omega
/-- without parity each is there -/
theorem up_none {at_ : Nat → Nat} {n : Nat} (hup : ∀ s t, s < t → t < n → at_ s < at_ t) (hlt : ∀ t, t < n → at_ t < n) {t : Nat} (ht : t < n) : at_ t = t := by
  have h1 := up_ge hup t ht
  have h2 := up_le (p := 0) hup hlt (n - t - 1) t (by omega)
  omega
/-- the inverse -/
def invOf (n : Nat) (E : Mat) : Mat := match gjs n E n with
  | some (_, V) => V
  | none => one
theorem invOf_some {n : Nat} {E R V : Mat} (h : gjs n E n = some (R, V)) : invOf n E = V := by unfold invOf; rw [h]
theorem mv_inv_left {n : Nat} {E R V : Mat} (h : gjs n E n = some (R, V)) (v : Nat → Fe) {x : Nat} (hx : x < n) : mv n (invOf n E) (mv n E v) x = v x := by
  rw [invOf_some h, mv_mv]
  rw [mv_congr (B := one) (u := v) (fun k hk => (gjs_ok h).2 x hx k hk) (fun _ _ => rfl)]
  exact mv_one hx v
theorem mv_inv_right {n : Nat} {E R V : Mat} (h : gjs n E n = some (R, V)) (v : Nat → Fe) {x : Nat} (hx : x < n) : mv n E (mv n (invOf n E) v) x = v x := by
  rw [invOf_some h, mv_mv]
  rw [mv_congr (B := one) (u := v) (fun k hk => (gjs_ok h).1 x hx k hk) (fun _ _ => rfl)]
  exact mv_one hx v
end Go.Proofs.YtcokmmanajdioaaGreat.Mx
namespace Go.Proofs.YtcokmmanajdioaaGreat
open Go.RowKit Mx

/-- block b is an own slice of n slices, each of which reads as a row -/
structure TopR (w : World) (b n : Nat) (A : Nat → Option Addr) (L C : Nat → Nat) (M : Mat) : Prop where
  top : RowV w 34 b n (fun i => .slice (A i) (L i) (C i))
  rows : ∀ i, i < n → Rd w (A i) (L i) (M i) (· ≠ b)
namespace TopR
variable {w w' : World} {b n : Nat} {A : Nat → Option Addr} {L L' C : Nat → Nat} {M M' : Mat}
theorem rdM (h : TopR w b n A L C M) : RdM w (some ⟨b, 0, none⟩) n L M (· < w.heap.size) :=
  RdM.in_ (G := fun _ => True) fun _ => ⟨b, 0, rfl, trivial, fun i hi => ⟨A i, C i, by rw [Nat.zero_add]; exact h.top.cell hi, (h.rows i hi).mono fun _ _ => trivial⟩⟩
theorem old (h : TopR w b n A L C M) (hb : Below w.heap.size w w') : TopR w' b n A L C M := ⟨h.top.old hb, fun i hi => (h.rows i hi).old hb⟩
theorem congr (h : TopR w b n A L C M) (hl : ∀ i, i < n → L i = L' i) (he : ∀ i, i < n → ∀ j, j < L i → M i j = M' i j) : TopR w b n A L' C M' :=
  ⟨h.top.congr fun i hi => by rw [hl i hi], fun i hi => by rw [← hl i hi]; exact (h.rows i hi).congr (he i hi)⟩
theorem start (w : World) (n : Nat) (M : Mat) : TopR (w.alloc (.cells (madeCells #[.slice none 0 0] n) 34)) w.heap.size n (fun _ => none) (fun _ => 0) (fun _ => 0) M :=
  ⟨RowV.made w _ _ n, fun _ _ => Rd.empty _ _ _ _⟩
/-- a row is laid -/
theorem set (h : TopR w b n A L C M) (k : Nat) {a : Option Addr} {l c : Nat} {r : Nat → Fe} (hr : Rd w a l r (· ≠ b)) :
    TopR (w.setCell ⟨b, k, none⟩ (.slice a l c)) b n (fun i => if i = k then a else A i) (fun i => if i = k then l else L i) (fun i => if i = k then c else C i) (fun i => if i = k then r else M i) := by
  refine ⟨(h.top.set k _).congr fun i _ => ?_, fun i hi => ?_⟩
  · by_cases e : i = k <;> simp [e]
  · by_cases e : i = k
    · simp only [e, if_true]; exact hr.kp (Kp.store w b k _) (fun _ hx => hx)
    · simp only [e, if_false]; exact (h.rows i hi).kp (Kp.store w b k _) (fun _ hx => hx)
/-- a row is laid as the matrix has it -/
theorem lay (h : TopR w b n A L C M) (k : Nat) {a : Option Addr} {l c : Nat} (hr : Rd w a l (M k) (· ≠ b)) :
    TopR (w.setCell ⟨b, k, none⟩ (.slice a l c)) b n (fun i => if i = k then a else A i) (fun i => if i = k then l else L i) (fun i => if i = k then c else C i) M :=
  (h.set k hr).congr (fun _ _ => rfl) fun i _ j _ => by by_cases e : i = k <;> simp [e]
end TopR
theorem Rd.ne {w : World} {A : Option Addr} {n : Nat} {r : Nat → Fe} {G : Nat → Prop} {b : Nat} (h : Rd w A n r G) (hb : w.heap.size ≤ b) : Rd w A n r (· ≠ b) :=
  h.in_.mono fun x hx => by omega
/-- the first of what reads -/
theorem RdM.first {w : World} {A : Option Addr} {n k : Nat} {L : Nat → Nat} {M : Mat} {G : Nat → Prop} (h : RdM w A n L M G) (hk : k ≤ n) : RdM w A k L M G := by
  intro h0
  obtain ⟨b, off, e, hg, hc⟩ := h (by omega)
  exact ⟨b, off, e, hg, fun i hi => hc i (by omega)⟩
theorem RdI.first {w : World} {A : Option Addr} {n k : Nat} {z : Nat → Int} (h : RdI w A n z) (hk : k ≤ n) : RdI w A k z := by
  intro h0
  obtain ⟨b, off, e, hc⟩ := h (by omega)
  exact ⟨b, off, e, fun i hi => hc i (by omega)⟩
theorem RdI.kp {w w' : World} {A : Option Addr} {n : Nat} {z : Nat → Int} {S : Nat → Prop} (h : RdI w A n z) (hk : Kp S w w') (hs : ∀ a, A = some a → ¬ S a.block) : RdI w' A n z := by
  intro h0
  obtain ⟨b, off, e, hc⟩ := h h0
  exact ⟨b, off, e, fun j hj => hk.cell (hc j hj) (hs ⟨b, off, none⟩ e)⟩
theorem RdI.congr {w : World} {A : Option Addr} {n : Nat} {z z' : Nat → Int} (h : RdI w A n z) (he : ∀ j, j < n → z j = z' j) : RdI w A n z' := by
  intro h0
  obtain ⟨b, off, e, hc⟩ := h h0
  exact ⟨b, off, e, fun j hj => by rw [hc j hj, he j hj]⟩
theorem infoInt : (Tryz.prog.info? 3).map (fun i => (i.zero, i.size, i.bytes)) = some (some (.int .i64 0), 1, 8) := by kernel_rfl
/-- numbers as cells -/
def intsOf (l : List Nat) : List Value := l.map fun (x : Nat) => .int .i64 (x : Int)
theorem intsOf_one {l : List Nat} : ∀ u ∈ intsOf l, u.oneCell' = true := by
  intro u hu
  simp only [intsOf, List.mem_map] at hu
  obtain ⟨j, _, rfl⟩ := hu
  rfl
theorem oneInt (x : Int) : ∀ u ∈ [Value.int .i64 x], u.oneCell' = true := by
  intro u hu; simp at hu; subst hu; rfl
/-- an own row of numbers reads -/
theorem RdI.of_owns {w : World} {base : Nat} {l : List Nat} {v : Value} (h : w.ownsRow base 3 1 v l.length (intsOf l)) :
    ∃ A C, v = .slice A l.length C ∧ l.length ≤ C ∧ (∀ a, A = some a → base ≤ a.block) ∧ RdI w A l.length (fun j => (l.getD j 0 : Int)) := by
  rcases Nat.eq_zero_or_pos l.length with h0 | h0
  · rcases h.2 with ⟨e, _⟩ | ⟨g, cap, cur, e, hb, _, hc, _⟩
    · exact ⟨none, 0, by rw [h0]; exact e, by omega, fun a ha => by (cases ha), fun hh => by omega⟩
    · exact ⟨_, cap, e, hc, fun a ha => by (cases ha; exact hb), fun hh => by omega⟩
  · obtain ⟨g, C, h1, h2, h3, h4⟩ := RowV.of_owns h h0
    refine ⟨_, C, h1, h3, fun a ha => by (cases ha; exact h2), fun _ => ⟨g, 0, rfl, fun j hj => ?_⟩⟩
    rw [Nat.zero_add, h4.cell hj]
    congr 1
    unfold intsOf
    simp only [List.getD_eq_getElem?_getD, List.getElem?_map, List.getElem?_eq_getElem hj, Option.map_some, Option.getD_some]

/-! ### What is answered -/
/-- parity: byte by byte Cauchy's product -/
def par (n p : Nat) (D : Mat) : Mat := fun i c => mv n (cau p) (fun j => D j c) i
def EncOk (n : Nat) (L : Nat → Nat) (p : Int) : Prop := 1 ≤ n ∧ (∀ i, i < n → L i = L 0) ∧ 0 ≤ p ∧ p ≤ 255 - n
open Classical in
def EncAny (n : Nat) (L : Nat → Nat) (D : Mat) (p : Int) (w : World) (e : Ending) (w' : World) : Prop :=
  if EncOk n L p then ResM 0 p.toNat (L 0) (par n p.toNat D) w e w' else ResM 1 0 0 one w e w'
/-- a new matrix, and an error's number -/
def OwnM (code : Int) (n m : Nat) (M : Mat) (w : World) (e : Ending) (w' : World) : Prop :=
  ∃ b G C, e = .returned (.tuple #[.slice (some ⟨b, 0, none⟩) n n, .int .i64 code]) ∧ w.heap.size ≤ b ∧ OwnK w' w.heap.size b n n m G C M ∧ Below w.heap.size w w'
theorem OwnM.res {code : Int} {n m : Nat} {M : Mat} {w : World} {e : Ending} {w' : World} (h : OwnM code n m M w e w') : ResM code n m M w e w' := by
  obtain ⟨b, G, C, he, _, hr, hb⟩ := h
  exact ⟨_, n, he, hr.rdAll (Nat.le_refl _), hb⟩
/-- the same, with whatever room behind it -/
def NewM (code : Int) (n m : Nat) (M : Mat) (w : World) (e : Ending) (w' : World) : Prop :=
  ∃ b q G C, e = .returned (.tuple #[.slice (some ⟨b, 0, none⟩) n q, .int .i64 code]) ∧ n ≤ q ∧ w.heap.size ≤ b ∧ OwnK w' w.heap.size b n n m G C M ∧ Below w.heap.size w w'
theorem OwnM.new {code : Int} {n m : Nat} {M : Mat} {w : World} {e : Ending} {w' : World} (h : OwnM code n m M w e w') : NewM code n m M w e w' := by
  obtain ⟨b, G, C, he, hb, hr, h'⟩ := h
  exact ⟨b, n, G, C, he, Nat.le_refl _, hb, hr, h'⟩
theorem NewM.res {code : Int} {n m : Nat} {M : Mat} {w : World} {e : Ending} {w' : World} (h : NewM code n m M w e w') : ResM code n m M w e w' := by
  obtain ⟨b, q, G, C, he, _, _, hr, hb⟩ := h
  exact ⟨_, q, he, hr.rdAll (Nat.le_refl _), hb⟩
open Classical in
/-- what Encode answers, all of it new memory -/
def EncNew (n : Nat) (L : Nat → Nat) (D : Mat) (p : Int) (w : World) (e : Ending) (w' : World) : Prop :=
  if EncOk n L p then (p = 0 ∧ e = .returned (.tuple #[.slice none 0 0, .int .i64 0]) ∧ Below w.heap.size w w') ∨ (0 < p ∧ NewM 0 p.toNat (L 0) (par n p.toNat D) w e w') else e = .returned (.tuple #[.slice none 0 0, .int .i64 1]) ∧ Below w.heap.size w w'
theorem EncNew.any {n : Nat} {L : Nat → Nat} {D : Mat} {p : Int} {w : World} {e : Ending} {w' : World} (h : EncNew n L D p w e w') : EncAny n L D p w e w' := by
  unfold EncNew at h
  unfold EncAny
  split
  · rename_i hok
    rw [if_pos hok] at h
    rcases h with ⟨rfl, rfl, hb⟩ | ⟨_, h⟩
    · exact ⟨none, 0, rfl, RdM.empty _ _ _ _ _, hb⟩
    · exact h.res
  · rename_i hok
    rw [if_neg hok] at h
    obtain ⟨rfl, hb⟩ := h
    exact ⟨none, 0, rfl, RdM.empty _ _ _ _ _, hb⟩
theorem EncNew.bad {n : Nat} {L : Nat → Nat} {D : Mat} {p : Int} (hn : ¬ EncOk n L p) (w : World) {w' : World} (h : Below w.heap.size w w') : EncNew n L D p w (.returned (.tuple #[.slice none 0 0, .int .i64 1])) w' := by
  unfold EncNew; rw [if_neg hn]; exact ⟨rfl, h⟩
theorem EncNew.none {n : Nat} {L : Nat → Nat} {D : Mat} (hn : EncOk n L 0) (w : World) {w' : World} (h : Below w.heap.size w w') : EncNew n L D 0 w (.returned (.tuple #[.slice none 0 0, .int .i64 0])) w' := by
  unfold EncNew; rw [if_pos hn]; exact .inl ⟨rfl, rfl, h⟩
theorem EncNew.some {n : Nat} {L : Nat → Nat} {D : Mat} {p : Nat} (hn : EncOk n L (p : Int)) (hp : 0 < p) {w : World} {e : Ending} {w' : World} (h : NewM 0 p (L 0) (par n p D) w e w') : EncNew n L D (p : Int) w e w' := by
  unfold EncNew; rw [if_pos hn]; exact .inr ⟨by omega, h⟩
/-- the rows of what was made of the data -/
def encM (d p : Nat) (at_ : Nat → Nat) : Mat := fun t => enc d (cau p) (at_ t)
theorem encM_some {d p : Nat} {at_ : Nat → Nat} (hdp : d + p ≤ 255) (hup : ∀ s t, s < t → t < d → at_ s < at_ t) (hlt : ∀ t, t < d → at_ t < d + p) : ∃ R V, gjs d (encM d p at_) d = some (R, V) :=
  enc_some (x := fun i => el i) (y := fun j => el (p + j)) (fun i j _ _ => rfl)
    (fun i j hi hj h => el_ne (by omega) (by omega) h) (fun i j hi hj h => el_ne (by omega) (by omega) (by omega)) (fun i j hi hj => el_ne (by omega) (by omega) (by omega)) hup hlt
/-- the data that rows tell -/
def dec (d p : Nat) (at_ : Nat → Nat) (Y : Mat) : Mat := fun x c => mv d (invOf d (encM d p at_)) (fun t => Y t c) x
/-- those of data among them are as they are -/
theorem dec_same {d p : Nat} {at_ : Nat → Nat} (hdp : d + p ≤ 255) (hup : ∀ s t, s < t → t < d → at_ s < at_ t) (hlt : ∀ t, t < d → at_ t < d + p) (Y : Mat) {t : Nat} (ht : t < d) (h : at_ t < d) (c : Nat) : Y t c = dec d p at_ Y (at_ t) c := by
  obtain ⟨R, V, hg⟩ := encM_some hdp hup hlt
  have h1 := mv_inv_right hg (fun t => Y t c) ht
  rw [← h1]
  show mv d (encM d p at_) (fun x => dec d p at_ Y x c) t = _
  rw [show mv d (encM d p at_) (fun x => dec d p at_ Y x c) t = mv d one (fun x => dec d p at_ Y x c) (at_ t) from sm_congr fun k _ => by
    show (if at_ t < d then one (at_ t) k else cau p (at_ t - d) k) * _ = _
    rw [if_pos h], mv_one h]
/-- what was made of data tells it -/
theorem dec_back {d p : Nat} {at_ : Nat → Nat} (hdp : d + p ≤ 255) (hup : ∀ s t, s < t → t < d → at_ s < at_ t) (hlt : ∀ t, t < d → at_ t < d + p) (D Y : Mat) {c : Nat} (hY : ∀ t, t < d → Y t c = mv d (encM d p at_) (fun x => D x c) t) {x : Nat} (hx : x < d) : dec d p at_ Y x c = D x c := by
  obtain ⟨R, V, hg⟩ := encM_some hdp hup hlt
  rw [← mv_inv_left hg (fun x => D x c) hx]
  exact mv_congr (fun _ _ => rfl) hY
def there (L : Nat → Nat) (x : Nat) : Bool := decide (0 < L x)
theorem there_true {L : Nat → Nat} {x : Nat} : there L x = true ↔ 0 < L x := decide_eq_true_iff
def DecOk (n : Nat) (L : Nat → Nat) (d : Int) : Prop := 1 ≤ d ∧ d ≤ n ∧ n ≤ 255 ∧ 0 < plsN (there L) n ∧ ∀ j, j < plsN (there L) n → L (plsAt (there L) n j) = L (plsAt (there L) n 0)
open Classical in
def DecAny (n : Nat) (L : Nat → Nat) (H : Mat) (d : Int) (w : World) (e : Ending) (w' : World) : Prop :=
  if DecOk n L d then if plsN (there L) n < d.toNat then ResM 10 0 0 one w e w' else ResM 0 d.toNat (L (plsAt (there L) n 0)) (dec d.toNat (n - d.toNat) (plsAt (there L) n) (fun t => H (plsAt (there L) n t))) w e w' else ResM 1 0 0 one w e w'
theorem EncAny.res (n : Nat) (L : Nat → Nat) (D : Mat) (p : Int) : ∃ (code : Int) (k q : Nat) (X : Mat), k ≤ 255 ∧ ∀ w e w', EncAny n L D p w e w' → ResM code k q X w e w' := by
  by_cases h : EncOk n L p
  · have h1 := h.1
    have h2 := h.2.2.1
    have h3 := h.2.2.2
    exact ⟨0, p.toNat, L 0, par n p.toNat D, by omega, fun w e w' hh => by unfold EncAny at hh; rw [if_pos h] at hh; exact hh⟩
  · exact ⟨1, 0, 0, one, by omega, fun w e w' hh => by unfold EncAny at hh; rw [if_neg h] at hh; exact hh⟩
theorem DecAny.res (n : Nat) (L : Nat → Nat) (H : Mat) (d : Int) : ∃ (code : Int) (k q : Nat) (X : Mat), k ≤ 255 ∧ ∀ w e w', DecAny n L H d w e w' → ResM code k q X w e w' := by
  by_cases h : DecOk n L d
  · have h1 := h.1
    have h2 := h.2.1
    have h3 := h.2.2.1
    by_cases hn : plsN (there L) n < d.toNat
    · exact ⟨10, 0, 0, one, by omega, fun w e w' hh => by unfold DecAny at hh; rw [if_pos h, if_pos hn] at hh; exact hh⟩
    · exact ⟨0, d.toNat, _, _, by omega, fun w e w' hh => by unfold DecAny at hh; rw [if_pos h, if_neg hn] at hh; exact hh⟩
  · exact ⟨1, 0, 0, one, by omega, fun w e w' hh => by unfold DecAny at hh; rw [if_neg h] at hh; exact hh⟩
end Go.Proofs.YtcokmmanajdioaaGreat
namespace Go.Proofs.YtcokmmanajdioaaGreat
open Go.RowKit Mx
open Pt (Tx)

/-- a block whose cells are of type t -/
def Typed (w : World) (g : Nat) (t : TypeId) : Prop := ∃ c, w.heap[g]? = some (.cells c t (0, 0))
theorem Typed.ne {w : World} {g g' : Nat} {t t' : TypeId} (h : Typed w g t) (h' : Typed w g' t') (ht : t ≠ t') : g ≠ g' := by
  rintro rfl
  obtain ⟨c, e⟩ := h
  obtain ⟨c', e'⟩ := h'
  rw [e] at e'
  injection e' with e'
  injection e' with _ e2
  exact ht e2
theorem RowV.typed {w : World} {t : TypeId} {g n : Nat} {V : Nat → Value} (h : RowV w t g n V) : Typed w g t := by
  obtain ⟨c, hb, _⟩ := h
  exact ⟨c, hb⟩
/-- v is an own slice of n slices, each an own row of m elements, row i as X has it -/
def OneP (w : World) (B m : Nat) (v : Value) (n : Nat) (X : Mat) : Prop :=
  ∃ us, w.ownsRow B 34 1 v n us ∧ ∀ i, i < n → ∃ g c, us[i]? = some (.slice (some ⟨g, 0, none⟩) m c) ∧ m ≤ c ∧ B ≤ g ∧ RowAt w g m (X i)
namespace OneP
variable {w w' : World} {B m n : Nat} {v : Value} {X Y : Mat}
theorem keep (h : OneP w B m v n X) (h1 : ∀ k, v.ownBlock = some k → w'.heap[k]? = w.heap[k]?) (h2 : ∀ g, Typed w g 5 → w'.heap[g]? = w.heap[g]?) : OneP w' B m v n X := by
  obtain ⟨us, ho, hr⟩ := h
  refine ⟨us, own_of ho h1, fun i hi => ?_⟩
  obtain ⟨g, c, e, hc, hg, hrow⟩ := hr i hi
  exact ⟨g, c, e, hc, hg, hrow.of_block (h2 g (RowV.typed hrow))⟩
theorem typed (h : OneP w B m v n X) {k : Nat} (e : v.ownBlock = some k) : Typed w k 34 := by
  obtain ⟨us, ho, _⟩ := h
  exact own_blk ho k e
theorem lt (h : OneP w B m v n X) {k : Nat} (e : v.ownBlock = some k) : B ≤ k ∧ k < w.heap.size := by
  obtain ⟨us, ho, _⟩ := h
  exact ho.lt k e
theorem nil (w : World) (B m : Nat) (X : Mat) : OneP w B m (.slice none 0 0) 0 X := ⟨[], World.ownsRow_nil _ _ _ _, fun i hi => absurd hi (by omega)⟩
theorem congr (h : OneP w B m v n X) (he : ∀ i, i < n → ∀ c, c < m → X i c = Y i c) : OneP w B m v n Y := by
  obtain ⟨us, ho, hr⟩ := h
  refine ⟨us, ho, fun i hi => ?_⟩
  obtain ⟨g, c, e, hc, hg, hrow⟩ := hr i hi
  exact ⟨g, c, e, hc, hg, hrow.congr (he i hi)⟩
/-- as a value that reads -/
theorem val (h : OneP w B m v n X) : ∃ A C, v = .slice A n C ∧ n ≤ C ∧ (A = none → n = 0 ∧ C = 0) ∧ RdM w A n (fun _ => m) X (B ≤ ·) := by
  obtain ⟨us, ho, hr⟩ := h
  rcases ho.2 with ⟨e, h0⟩ | ⟨g, cap, cur, e, hb, hg, hnc, hcm, hs, ht⟩
  · exact ⟨none, 0, by rw [e, h0], by omega, fun _ => ⟨h0, rfl⟩, fun hn => by omega⟩
  · refine ⟨_, cap, e, hnc, (fun h => by cases h), fun hn => ⟨g, 0, rfl, hb, fun i hi => ?_⟩⟩
    obtain ⟨r, c, e', hc, hg', hrow⟩ := hr i hi
    refine ⟨_, c, ?_, hrow.rd _ hg'⟩
    rw [Nat.zero_add, heap_cell hg]
    rw [← ht, List.getElem?_take] at e'
    split at e'
    · rw [Array.getElem?_toList] at e'; exact e'
    · cases e'
end OneP
/-- block b holds p such slices, no two in one block, of N j rows each -/
structure OutP (w : World) (B b p m : Nat) (V : Nat → Value) (N : Nat → Nat) (X : Nat → Mat) : Prop where
  lo : B ≤ b
  top : 0 < p → RowV w 29 b p V
  rows : ∀ j, j < p → OneP w B m (V j) (N j) (X j)
  inj : ∀ i j, i < p → j < p → ∀ k, (V i).ownBlock = some k → (V j).ownBlock = some k → i = j
namespace OutP
variable {w w1 w2 : World} {B b p m : Nat} {V : Nat → Value} {N N' : Nat → Nat} {X Y : Nat → Mat}
theorem old (h : OutP w B b p m V N X) (hb : Below w.heap.size w w2) : OutP w2 B b p m V N X :=
  ⟨h.lo, fun hp => (h.top hp).old hb, fun j hj => (h.rows j hj).keep (fun k e => hb.block k ((h.rows j hj).lt e).2) (fun g hg => hb.block g (by obtain ⟨c, e⟩ := hg; exact heap_lt e)), h.inj⟩
theorem congr (h : OutP w B b p m V N X) (he : ∀ j, j < p → ∀ i, i < N j → ∀ c, c < m → X j i c = Y j i c) : OutP w B b p m V N Y :=
  ⟨h.lo, h.top, fun j hj => (h.rows j hj).congr (he j hj), h.inj⟩
theorem counts (h : OutP w B b p m V N X) (he : ∀ j, j < p → N j = N' j) : OutP w B b p m V N' X :=
  ⟨h.lo, h.top, fun j hj => by rw [← he j hj]; exact h.rows j hj, h.inj⟩
/-- all of them are empty -/
theorem start (w : World) (B b p m : Nat) (X : Nat → Mat) (hb : B ≤ b) (h : 0 < p → RowV w 29 b p (fun _ => .slice none 0 0)) : OutP w B b p m (fun _ => .slice none 0 0) (fun _ => 0) X :=
  ⟨hb, h, fun j _ => OneP.nil _ _ _ _, fun i j _ _ k e => by cases e⟩
/-- a row is appended to one of them, and that is stored -/
theorem push (h : OutP w B b p m V N X) {j : Nat} (hj : j < p) {us : List Value} (hus : w.ownsRow B 34 1 (V j) (N j) us)
    (hrows : ∀ i, i < N j → ∃ g c, us[i]? = some (.slice (some ⟨g, 0, none⟩) m c) ∧ m ≤ c ∧ B ≤ g ∧ RowAt w g m (X j i)) (hb : Below w.heap.size w w1) (hg : w1.grownBy w2 (V j).ownBlock) {g cap : Nat} {r c : Nat} {f : Nat → Fe}
    (hown : w2.ownsRow B 34 1 (.slice (some ⟨g, 0, none⟩) (N j + 1) cap) (N j + 1) (us ++ [.slice (some ⟨r, 0, none⟩) m c])) (hat : (V j).ownBlock = some g ∨ w.heap.size ≤ g) (hc : m ≤ c) (hr : B ≤ r) (hrow : RowAt w r m f) :
    OutP (w2.setCell ⟨b, j, none⟩ (.slice (some ⟨g, 0, none⟩) (N j + 1) cap)) B b p m (fun i => if i = j then .slice (some ⟨g, 0, none⟩) (N j + 1) cap else V i) (fun i => if i = j then N j + 1 else N i) (fun i => if i = j then (fun t => if t = N j then f else X j t) else X i) := by
  have hjo := h.rows j hj
  have htop := h.top (by omega)
  have htb := htop.typed
  -- blocks of another type, or of another row, are as they were
  have k2 : ∀ k, k < w.heap.size → (V j).ownBlock ≠ some k → w2.heap[k]? = w.heap[k]? := fun k hk hne =>
    (hg.block k (Nat.lt_of_lt_of_le hk hb.size) (fun e => hne e.symm)).trans (hb.block k hk)
  have kT : ∀ k t, Typed w k t → t ≠ 34 → w2.heap[k]? = w.heap[k]? := fun k t hk ht => by
    obtain ⟨c, e⟩ := hk
    exact k2 k (heap_lt e) fun e' => Typed.ne ⟨c, e⟩ (hjo.typed e') ht rfl
  have kS : ∀ k, k ≠ b → ∀ v, (w2.setCell ⟨b, j, none⟩ v).heap[k]? = w2.heap[k]? := fun k hk v => Below.heap_setCell _ _ _ _ (fun e => hk e)
  have t2 : RowV w2 29 b p V := htop.of_block (kT b _ htb (by decide))
  have k8 : ∀ k, Typed w k 5 → ∀ v, (w2.setCell ⟨b, j, none⟩ v).heap[k]? = w.heap[k]? := fun k hk v => (kS k (Typed.ne hk htb (by decide)) v).trans (kT k _ hk (by decide))
  have hgb : g ≠ b := by
    have h1 : Typed w2 g 34 := own_blk hown g rfl
    exact Typed.ne h1 t2.typed (by decide)
  refine ⟨h.lo, fun _ => t2.set j _, fun i hi => ?_, fun i i' hi hi' k e e' => ?_⟩
  · by_cases e : i = j
    · subst e
      simp only [if_true]
      refine ⟨_, own_of hown (fun k e => ?_), fun t ht => ?_⟩
      · cases e; exact kS g hgb _
      · have hlen : us.length = N i := by have := hus.1; omega
        by_cases et : t = N i
        · refine ⟨r, c, by rw [et, List.getElem?_append_right (by omega), hlen]; simp, hc, hr, ?_⟩
          simp only [et, if_true]
          exact hrow.of_block (k8 r (RowV.typed hrow) _)
        · obtain ⟨g', c', e1, e2, e3, e4⟩ := hrows t (by omega)
          refine ⟨g', c', by rw [List.getElem?_append_left (by omega)]; exact e1, e2, e3, ?_⟩
          simp only [et, if_false]
          exact e4.of_block (k8 g' (RowV.typed e4) _)
    · simp only [e, if_false]
      refine (h.rows i hi).keep (fun k ek => ?_) (fun x hx => k8 x hx _)
      have hk := (h.rows i hi).lt ek
      exact (kS k (Typed.ne ((h.rows i hi).typed ek) htb (by decide)) _).trans (k2 k hk.2 fun ej => e (h.inj i j hi hj k ek ej))
  · have key : ∀ i, i < p → i ≠ j → ∀ k, (V i).ownBlock = some k → k ≠ g := fun i hi hne k ek hkg => by
      subst hkg
      rcases hat with hat | hat
      · exact hne (h.inj i j hi hj k ek hat)
      · have := ((h.rows i hi).lt ek).2; omega
    by_cases ei : i = j <;> by_cases ei' : i' = j
    · omega
    · simp only [ei, if_true] at e
      simp only [ei', if_false] at e'
      cases e
      exact absurd rfl (key i' hi' ei' _ e')
    · simp only [ei', if_true] at e'
      simp only [ei, if_false] at e
      cases e'
      exact absurd rfl (key i hi ei _ e)
    · simp only [ei, if_false] at e
      simp only [ei', if_false] at e'
      exact h.inj i i' hi hi' k e e'
/-- as what reads -/
theorem rdP (h : OutP w B b p m V N X) {n : Nat} (hn : ∀ j, j < p → N j = n) : RdP w (some ⟨b, 0, none⟩) p n m X (B ≤ ·) := fun hp => by
  refine ⟨b, 0, rfl, h.lo, fun j hj => ?_⟩
  have h1 := h.rows j hj
  rw [hn j hj] at h1
  obtain ⟨A, C, e, hc, ha, hr⟩ := h1.val
  refine ⟨A, C, ?_, hc, ha, hr⟩
  rw [Nat.zero_add, (h.top hp).cell hj, e]
end OutP
end Go.Proofs.YtcokmmanajdioaaGreat
namespace Go.Proofs.YtcokmmanajdioaaGreat
open Go.RowKit Mx
open Pt (Tx)

/-- the parity of tapes: of each tape of parity each row -/
def St.X (ts : List St.T) (p : Nat) : Nat → Mat := fun j n => par ts.length p (St.mat (St.row ts (n : Int))) j
open Classical in
/-- what Parity answers -/
def ParA (ts : List St.T) (p : Int) (w : World) (e : Ending) (w' : World) : Prop :=
  if St.Ok ts p then ∃ A C, e = .returned (.tuple #[.slice A p.toNat C, .int .i64 0]) ∧ p.toNat ≤ C ∧ (A = none → p.toNat = 0 ∧ C = 0) ∧ RdP w' A p.toNat (St.len ts) 79 (St.X ts p.toNat) (w.heap.size ≤ ·) ∧ Below w.heap.size w w'
  else e = .returned (.tuple #[.slice none 0 0, .int .i64 1]) ∧ Below w.heap.size w w'
theorem ParA.no {ts : List St.T} {p : Int} {w w' : World} (h : ¬ St.Ok ts p) (hb : Below w.heap.size w w') : ParA ts p w (.returned (.tuple #[.slice none 0 0, .int .i64 1])) w' := by
  unfold ParA; rw [if_neg h]; exact ⟨rfl, hb⟩
theorem ParA.yes {ts : List St.T} {p C : Nat} {w w' : World} {A : Option Addr} (h : St.Ok ts (p : Int)) (hC : p ≤ C) (hA : A = none → p = 0 ∧ C = 0) (hr : RdP w' A p (St.len ts) 79 (St.X ts p) (w.heap.size ≤ ·)) (hb : Below w.heap.size w w') :
    ParA ts (p : Int) w (.returned (.tuple #[.slice A p C, .int .i64 0])) w' := by
  unfold ParA; rw [if_pos h]; exact ⟨A, C, rfl, hC, hA, hr, hb⟩
theorem St.enc_arg {ts : List St.T} {p : Int} {L : Nat → Nat} (hl : ∀ i, i < ts.length → L i = L 0) : EncOk ts.length L p ↔ St.Arg ts p :=
  ⟨fun h => ⟨h.1, h.2.2.1, by have := h.2.2.2; omega⟩, fun h => ⟨h.1, hl, h.2.1, by have := h.2.2; omega⟩⟩
/-- rows that were made: new memory -/
def Made (w : World) (A : Option Addr) (p B : Nat) (Y : Mat) : Prop :=
  ∀ j, j < p → ∃ b r c, A = some ⟨b, 0, none⟩ ∧ B ≤ b ∧ w.cell? ⟨b, j, none⟩ = some (.slice (some ⟨r, 0, none⟩) 79 c) ∧ 79 ≤ c ∧ B ≤ r ∧ RowAt w r 79 (Y j)
theorem Made.kp {w w' : World} {A : Option Addr} {p B : Nat} {Y : Mat} {S : Nat → Prop} (h : Made w A p B Y) (hk : Kp S w w') (hs : ∀ x, S x → x < B) : Made w' A p B Y := fun j hj => by
  obtain ⟨b, r, c, e, hb, hc, hC, hr, hR⟩ := h j hj
  exact ⟨b, r, c, e, hb, hk.cell hc (fun h => by have : b < B := hs _ h; omega), hC, hr, hR.kp hk (fun h => by have : r < B := hs _ h; omega)⟩
theorem EncNew.made {n p : Nat} {L : Nat → Nat} {D : Mat} {w w' : World} {e : Ending} (h : EncNew n L D (p : Int) w e w') (hok : EncOk n L (p : Int)) (hL : L 0 = 79) :
    ∃ A C, e = .returned (.tuple #[.slice A p C, .int .i64 0]) ∧ Made w' A p w.heap.size (par n p D) ∧ Below w.heap.size w w' := by
  unfold EncNew at h
  rw [if_pos hok] at h
  rcases h with ⟨h0, rfl, hb⟩ | ⟨h0, b, q, G, C, rfl, _, hb, hO, hB⟩
  · obtain rfl : p = 0 := by omega
    exact ⟨Option.none, 0, rfl, fun j hj => absurd hj (by omega), hb⟩
  · simp only [Int.toNat_natCast, hL] at hO ⊢
    refine ⟨_, q, rfl, fun j hj => ⟨b, G j, C j, rfl, hb, ?_, hO.cap j hj, hO.lo j hj, hO.rows j hj⟩, hB⟩
    rw [hO.top.cell hj, if_pos hj]
/-- the first j tapes of parity have row n already -/
structure Inn (w w2 wq : World) (b p n j : Nat) (V0 : Nat → Value) (X : Nat → Mat) : Prop where
  out : ∃ V, OutP wq w.heap.size b p 79 V (fun i => if i < j then n + 1 else n) X ∧ ∀ i, j ≤ i → i < p → V i = V0 i
  kp : Kp (fun x => x = b ∨ ∃ i, i < p ∧ (V0 i).ownBlock = some x) w2 wq
namespace Inn
variable {w w2 wq : World} {b p n j : Nat} {V0 : Nat → Value} {X : Nat → Mat}
theorem start (h : OutP w2 w.heap.size b p 79 V0 (fun _ => n) X) : Inn w w2 w2 b p n 0 V0 X :=
  ⟨⟨V0, h.counts fun i _ => by rw [if_neg (by omega)], fun _ _ _ => rfl⟩, Kp.refl _ _⟩
theorem done (h : Inn w w2 wq b p n p V0 X) : ∃ V, OutP wq w.heap.size b p 79 V (fun _ => n + 1) X := by
  obtain ⟨V, h1, _⟩ := h.out
  exact ⟨V, h1.counts fun i hi => by rw [if_pos hi]⟩
/-- the next tape's row -/
theorem next (h : Inn w w2 wq b p n j V0 X) (hj : j < p) : ∃ A C us, wq.cell? ⟨b, j, none⟩ = some (.slice A n C) ∧ wq.frozen? ⟨b, j, none⟩ = false ∧ b < wq.heap.size ∧ wq.ownsRow w.heap.size 34 1 (.slice A n C) n us
    ∧ ∀ (w1 w3 : World) (g cap r c : Nat) (f : Nat → Fe), Below wq.heap.size wq w1 → w1.grownBy w3 (Value.slice A n C).ownBlock → w3.ownsRow w.heap.size 34 1 (.slice (some ⟨g, 0, none⟩) (n + 1) cap) (n + 1) (us ++ [.slice (some ⟨r, 0, none⟩) 79 c])
      → ((Value.slice A n C).ownBlock = some g ∨ wq.heap.size ≤ g) → 79 ≤ c → w.heap.size ≤ r → RowAt wq r 79 f → (∀ x, x < 79 → f x = X j n x)
      → w3.cell? ⟨b, j, none⟩ = some (.slice A n C) ∧ w3.frozen? ⟨b, j, none⟩ = false ∧ Inn w w2 (w3.setCell ⟨b, j, none⟩ (.slice (some ⟨g, 0, none⟩) (n + 1) cap)) b p n (j + 1) V0 X := by
  obtain ⟨V, hO, hV⟩ := h.out
  have hjo := hO.rows j hj
  rw [if_neg (by omega)] at hjo
  have htop := hO.top (by omega)
  obtain ⟨A, C, hv, -, -, -⟩ := hjo.val
  obtain ⟨us, hown, hrows⟩ := hjo
  have hc := htop.cell hj
  have hf := htop.frozen j
  rw [hv] at hc
  refine ⟨A, C, us, hc, hf, htop.lt, by rw [← hv]; exact hown, fun w1 w3 g cap r c f hb hg ho hat hC hr hR hX => ?_⟩
  rw [← hv] at hg hat
  have hne : some b ≠ (V j).ownBlock := fun e => by
    obtain ⟨x, hx⟩ := own_blk hown b e.symm
    obtain ⟨y, hy⟩ := htop.typed
    rw [hx] at hy
    injection hy with hy
    injection hy with _ e2
    exact absurd e2 (by decide)
  have hblk : w3.heap[b]? = wq.heap[b]? := (hg.block b (Nat.lt_of_lt_of_le htop.lt hb.size) hne).trans (hb.block b htop.lt)
  refine ⟨(World.cell?_of_block hblk).trans hc, (htop.of_block hblk).frozen j, ⟨?_, ?_⟩⟩
  · have hcnt : (if j < j then n + 1 else n) = n := if_neg (by omega)
    have := hO.push hj (us := us) (by simp only [hcnt]; exact hown) (by simp only [hcnt]; exact hrows) hb hg (g := g) (cap := cap) (r := r) (c := c) (f := f) (by simp only [hcnt]; exact ho) hat hC hr hR
    rw [hcnt] at this
    refine ⟨_, (this.counts (N' := fun i => if i < j + 1 then n + 1 else n) fun i hi => ?_).congr (Y := X) fun i hi t ht x hx => ?_, fun i hi hip => ?_⟩
    · by_cases e : i = j
      · simp [e]
      · by_cases e' : i < j
        · simp [e, e', show i < j + 1 by omega]
        · simp [e, e', show ¬ i < j + 1 by omega]
    · by_cases e : i = j
      · subst e
        simp only [if_true]
        by_cases e' : t = n
        · simp only [e', if_true]; exact hX x hx
        · simp only [e', if_false]
      · simp only [e, if_false]
    · simp only [show ¬ i = j by omega, if_false]
      exact hV i (by omega) hip
  · refine (((h.kp.trans (Kp.of_below hb)).grown hg fun k e => ?_)).setCell (p := ⟨b, j, none⟩) (.inl rfl) _
    exact .inr ⟨j, hj, by rw [← hV j (Nat.le_refl _) hj]; exact e⟩
end Inn
end Go.Proofs.YtcokmmanajdioaaGreat
namespace Go.Proofs.YtcokmmanajdioaaGreat
open Go.RowKit
open Pt (Tx)

theorem any_take {p : St.T → Bool} {ts : List St.T} {k : Nat} (h : k < ts.length) : (ts.take (k + 1)).any p = ((ts.take k).any p || p ts[k]) := by
  rw [List.take_succ_eq_append_getElem h, List.any_append]; simp
theorem any_at {p : St.T → Bool} {ts : List St.T} {k : Nat} (h : k < ts.length) : p ts[k] = true → ts.any p = true := fun hp => List.any_eq_true.2 ⟨_, List.getElem_mem h, hp⟩
def lostB (t : St.T) : Bool := t.lost
def hasB (t : St.T) : Bool := decide ((t.blocks.length : Int) > 0)
def smallB (N : Nat) (t : St.T) : Bool := decide (t.cap < (N : Int) + 2)
def goodB (t : St.T) : Bool := decide (∀ n, n < t.blocks.length → (Vo.good (Gr.vo t) n).isSome = true)
theorem all_take {p : St.T → Bool} {ts : List St.T} {k : Nat} (h : k < ts.length) : (ts.take (k + 1)).all p = ((ts.take k).all p && p ts[k]) := by
  rw [List.take_succ_eq_append_getElem h, List.all_append]; simp
theorem all_at {p : St.T → Bool} {ts : List St.T} {k : Nat} (h : k < ts.length) : p ts[k] = false → ts.all p = false := fun hp => by
  rw [Bool.eq_false_iff]
  intro h'
  have := List.all_eq_true.1 h' _ (List.getElem_mem h)
  rw [hp] at this; cases this
/-- the blocks of what is said, from block 0 on -/
def framedL (label : Int) (l : List (Int × Tx)) : List Tx := l.mapIdx fun n u => Fm.blk ⟨u.1, label, (n : Int), u.2⟩
theorem framedL_len (label : Int) (l : List (Int × Tx)) : (framedL label l).length = l.length := List.length_mapIdx
theorem framedL_at {label : Int} {l : List (Int × Tx)} {n : Nat} (h : n < l.length) (h' : n < (framedL label l).length) : (framedL label l)[n] = Fm.blk ⟨l[n].1, label, (n : Int), l[n].2⟩ := by simp [framedL]
def checkE (b1 b2 b3 b4 b5 b6 b7 : Bool) : Int := if (!b1 || b2 || b3) = true then 1 else if (b4 || !b5) = true then 1 else if b6 = true then 11 else if b7 = true then 6 else 0
/-- rows that read, without how much room they have -/
def RdW (w : World) (A : Option Addr) (bs : List Tx) (G : Nat → Prop) : Prop :=
  0 < bs.length → ∃ b off, A = some ⟨b, off, none⟩ ∧ G b ∧ ∀ i (hi : i < bs.length), ∃ A' C', w.cell? ⟨b, off + i, none⟩ = some (.slice A' bs[i].length C') ∧ (A' = none → bs[i].length = 0 ∧ C' = 0) ∧ RdL w A' bs[i] G
theorem RdW.at_ {w : World} {A : Option Addr} {bs : List Tx} {G : Nat → Prop} (h : RdW w A bs G) {i : Nat} (hi : i < bs.length) : ∃ b off A' C', A = some ⟨b, off, none⟩ ∧ G b ∧ w.cell? ⟨b, off + i, none⟩ = some (.slice A' bs[i].length C') ∧ (A' = none → bs[i].length = 0 ∧ C' = 0) ∧ RdL w A' bs[i] G := by
  obtain ⟨b, off, e, hg, hc⟩ := h (by omega)
  obtain ⟨A', C', h1, h2, h3⟩ := hc i hi
  exact ⟨b, off, A', C', e, hg, h1, h2, h3⟩
theorem RdW.old {w w' : World} {A : Option Addr} {bs : List Tx} {G : Nat → Prop} (h : RdW w A bs G) (hb : Below w.heap.size w w') : RdW w' A bs G := fun hn => by
  obtain ⟨b, off, e, hg, hc⟩ := h hn
  refine ⟨b, off, e, hg, fun i hi => ?_⟩
  obtain ⟨A', C', h1, h2, h3⟩ := hc i hi
  exact ⟨A', C', (hb.cell (World.block_lt_of_cell? _ _ h1)).trans h1, h2, h3.old hb⟩
theorem RdW.in_ {w : World} {A : Option Addr} {bs : List Tx} {G : Nat → Prop} (h : RdW w A bs G) : RdW w A bs (fun b => G b ∧ b < w.heap.size) := fun hn => by
  obtain ⟨b, off, e, hg, hc⟩ := h hn
  refine ⟨b, off, e, ⟨hg, ?_⟩, fun i hi => ?_⟩
  · obtain ⟨_, _, h1, _⟩ := hc 0 hn
    exact World.block_lt_of_cell? _ _ h1
  · obtain ⟨A', C', h1, h2, h3⟩ := hc i hi
    exact ⟨A', C', h1, h2, h3.in_⟩
theorem RdM.rdW {w : World} {A : Option Addr} {n : Nat} {M : Mx.Mat} {G : Nat → Prop} (h : RdM w A n (fun _ => 79) M G) : RdW w A ((List.range n).map fun i => lst (M i) 79) G := fun hn => by
  obtain ⟨b, off, e, hg, hc⟩ := h (by simpa using hn)
  refine ⟨b, off, e, hg, fun i hi => ?_⟩
  obtain ⟨A', C', h1, h2⟩ := hc i (by simpa using hi)
  simp only [List.getElem_map, List.getElem_range, lst_len]
  refine ⟨A', C', h1, fun e => ?_, h2.rdL⟩
  obtain ⟨b', off', e', _⟩ := h2 (by show 0 < 79; omega)
  rw [e] at e'; cases e'
/-- what the blocks of a parity tape say -/
def says (rows : List Tx) (s : Rc.S) : List (Int × Tx) := (1, [80]) :: rows.map (fun b => ((6 : Int), b)) ++ [(5, Rc.sput s)]
/-- the parity's blocks of tape i -/
def Gr.rowsOf (data : List St.T) (p i : Nat) : List Tx := (List.range (St.len data)).map fun n => lst (St.X data p i n) 79
theorem Gr.rowsOf_len (data : List St.T) (p i : Nat) : (Gr.rowsOf data p i).length = St.len data := by simp [Gr.rowsOf]
theorem Gr.rowsOf_79 {data : List St.T} {p i : Nat} {b : Tx} (h : b ∈ Gr.rowsOf data p i) : b.length = 79 := by
  obtain ⟨n, _, rfl⟩ := List.mem_map.1 h
  exact lst_len _ _
def Gr.madeT (data blank : List St.T) (number : Int) (i : Nat) (t : St.T) : St.T := ⟨t.label, t.cap, framedL t.label (says (Gr.rowsOf data blank.length i) (Gr.sealOf data blank number (data.length + i))), false⟩
def Gr.made (data blank : List St.T) (number : Int) : List St.T := blank.mapIdx (Gr.madeT data blank number)
theorem Gr.made_len (data blank : List St.T) (number : Int) : (Gr.made data blank number).length = blank.length := List.length_mapIdx
theorem Gr.made_at {data blank : List St.T} {number : Int} {i : Nat} (h : i < blank.length) (h' : i < (Gr.made data blank number).length) : (Gr.made data blank number)[i] = Gr.madeT data blank number i blank[i] := by simp [Gr.made]
/-- why none, but for what Parity refuses -/
def Gr.chk (data blank : List St.T) (number : Int) : Int :=
  checkE (decide (Rc.SOk (Gr.sealOf data blank number 0))) (data.any lostB) (blank.any lostB) (decide (St.len data = 0)) (data.all goodB) (blank.any hasB) (blank.any (smallB (St.len data)))
noncomputable def Gr.mkE (data blank : List St.T) (number : Int) : Int := if Gr.chk data blank number ≠ 0 then Gr.chk data blank number else St.err data (blank.length : Int)
theorem checkE_zero {b1 b2 b3 b4 b5 b6 b7 : Bool} : checkE b1 b2 b3 b4 b5 b6 b7 = 0 ↔ b1 = true ∧ b2 = false ∧ b3 = false ∧ b4 = false ∧ b5 = true ∧ b6 = false ∧ b7 = false := by
  cases b1 <;> cases b2 <;> cases b3 <;> cases b4 <;> cases b5 <;> cases b6 <;> cases b7 <;> simp [checkE]
theorem Gr.chk_seal {data blank : List St.T} {number : Int} (h : Gr.chk data blank number = 0) : Rc.SOk (Gr.sealOf data blank number 0) := of_decide_eq_true (checkE_zero.1 h).1
theorem Gr.seal_labels {data blank : List St.T} {number : Int} (h : Rc.SOk (Gr.sealOf data blank number 0)) {t : St.T} (ht : t ∈ data ++ blank) : 1 ≤ t.label ∧ t.label ≤ 2147483647 := by
  have h2 := h.2
  exact h2.1 t.label (List.mem_map.2 ⟨t, ht, rfl⟩)
theorem Gr.seal_few {data blank : List St.T} {number : Int} (h : Rc.SOk (Gr.sealOf data blank number 0)) : 1 ≤ data.length ∧ 1 ≤ blank.length ∧ data.length + blank.length ≤ 14 := by
  obtain ⟨⟨_, h2, h3, h4, _⟩, _⟩ := h
  have h2' : (1 : Int) ≤ (data.length : Int) := h2
  have h3' : (1 : Int) ≤ (blank.length : Int) := h3
  have h4' : (data.length : Int) + (blank.length : Int) ≤ 14 := h4
  omega
/-- all that is said has a block -/
theorem says_ok {label : Int} {rows : List Tx} {s : Rc.S} (hlab : 1 ≤ label ∧ label ≤ 2147483647) (hr : ∀ b ∈ rows, b.length ≤ 79) (hl : rows.length ≤ 1000000) : ∀ (i : Nat) (u : Int × Tx), (says rows s)[i]? = some u → Fm.Ok ⟨u.1, label, (i : Int), u.2⟩ := by
  intro i u hu
  have hi : i < rows.length + 2 := by
    have := (List.getElem?_eq_some_iff.1 hu).1
    simpa [says] using this
  have hu' : u ∈ says rows s := List.mem_of_getElem? hu
  have key : (1 ≤ u.1 ∧ u.1 ≤ 6) ∧ u.2.length ≤ Fm.room u.1 := by
    unfold says at hu'
    rcases List.mem_append.1 hu' with h | h
    · rcases List.mem_cons.1 h with rfl | h
      · exact ⟨⟨by decide, by decide⟩, by decide⟩
      · obtain ⟨b, hb, rfl⟩ := List.mem_map.1 h
        exact ⟨⟨(by decide : (1 : Int) ≤ 6), (by decide : (6 : Int) ≤ 6)⟩, hr b hb⟩
    · rw [List.mem_singleton.1 h]
      refine ⟨⟨(by decide : (1 : Int) ≤ 5), (by decide : (5 : Int) ≤ 6)⟩, ?_⟩
      have h1 := Rc.sput_le s
      show (Rc.sput s).length ≤ 64
      omega
  exact ⟨⟨key.1.1, key.1.2, hlab.1, hlab.2, Int.natCast_nonneg _, by show (i : Int) ≤ _; omega⟩, key.2⟩
theorem made_take {data blank : List St.T} {number : Int} {i : Nat} (h : i < blank.length) : (Gr.made data blank number).take (i + 1) = (Gr.made data blank number).take i ++ [Gr.madeT data blank number i blank[i]] := by
  rw [List.take_succ_eq_append_getElem (by rw [Gr.made_len]; exact h), Gr.made_at h]
/-- a row of parity, as texts -/
theorem rdP_row {w : World} {A : Option Addr} {data : List St.T} {p : Nat} {G : Nat → Prop} (h : RdP w A p (St.len data) 79 (St.X data p) G) {i : Nat} (hi : i < p) : ∃ b off A' C', A = some ⟨b, off, none⟩ ∧ w.cell? ⟨b, off + i, none⟩ = some (.slice A' (St.len data) C') ∧ RdW w A' (Gr.rowsOf data p i) G := by
  obtain ⟨b, off, A', C', e, -, h1, -, -, h4⟩ := h.at_ hi
  exact ⟨b, off, A', C', e, h1, h4.rdW⟩
theorem Rd.in2 {w : World} {A : Option Addr} {n : Nat} {r : Nat → Mx.Fe} {G : Nat → Prop} (h : Rd w A n r G) : Rd w A n r (fun b => G b ∧ b < w.heap.size) := fun hn => by
  obtain ⟨b, off, e, hg, hc⟩ := h hn
  exact ⟨b, off, e, ⟨hg, World.block_lt_of_cell? _ _ (hc 0 hn)⟩, hc⟩
theorem RdM.in2 {w : World} {A : Option Addr} {n : Nat} {L : Nat → Nat} {M : Mx.Mat} {G : Nat → Prop} (h : RdM w A n L M G) : RdM w A n L M (fun b => G b ∧ b < w.heap.size) := fun hn => by
  obtain ⟨b, off, e, hg, hc⟩ := h hn
  refine ⟨b, off, e, ⟨hg, ?_⟩, fun i hi => ?_⟩
  · obtain ⟨_, _, h1, _⟩ := hc 0 hn
    exact World.block_lt_of_cell? _ _ h1
  · obtain ⟨A', C', h1, h2⟩ := hc i hi
    exact ⟨A', C', h1, h2.in2⟩
theorem RdP.in_' {w : World} {A : Option Addr} {p n m : Nat} {X : Nat → Mx.Mat} {G : Nat → Prop} (h : RdP w A p n m X G) : RdP w A p n m X (fun b => G b ∧ b < w.heap.size) := by
  intro hn
  obtain ⟨b, off, e, hg, hc⟩ := h hn
  refine ⟨b, off, e, ⟨hg, ?_⟩, fun j hj => ?_⟩
  · obtain ⟨_, _, h1, _⟩ := hc 0 hn
    exact World.block_lt_of_cell? _ _ h1
  · obtain ⟨A', C', h1, h2, h3, h4⟩ := hc j hj
    exact ⟨A', C', h1, h2, h3, h4.in2⟩
end Go.Proofs.YtcokmmanajdioaaGreat
