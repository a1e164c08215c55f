/- Plain mathematics of chapter 3, no program: the places of a choice in their order, and what a decoding comes to. Words for chapter 3: a slice of slices that a call owns and of which each reads as a row, rows of places, and what Encode and Decode answer. No function of the program. A slice of slices of bytes: what its element is. No function of the program. A slice of slices of the law's own, made by append, each row its own. No function of the program. Parity as it is made: an own slice of slices of rows, each made longer by append, row by row. No function of the program. -/
import Derived.Test.YtmfikihcoafekaaMag
import Derived.Test.YtmfikihcoafekaaMac
import Derived.Test.YtmfikihcoafekaaChecked
import Derived.Test.YtmfikihcoafekaaMae
namespace Go.Proofs.Ytmfikihcoafekaa.Mx

/-- the places below n that are chosen, in their order -/
def pls (P : Nat → Bool) (n : Nat) : List Nat := (List.range n).filter P
def plsN (P : Nat → Bool) (n : Nat) : Nat := (pls P n).length
def plsAt (P : Nat → Bool) (n j : Nat) : Nat := (pls P n).getD j 0
theorem pls_yes {P : Nat → Bool} {n : Nat} (h : P n = true) : pls P (n + 1) = pls P n ++ [n] := by
  unfold pls; rw [List.range_succ, List.filter_append]; simp [h]
theorem pls_no {P : Nat → Bool} {n : Nat} (h : P n = false) : pls P (n + 1) = pls P n := by
  unfold pls; rw [List.range_succ, List.filter_append]; simp [h]
theorem pls_congr {P P' : Nat → Bool} {n : Nat} (h : ∀ x, x < n → P x = P' x) : pls P n = pls P' n := by
  unfold pls
  exact List.filter_congr fun x hx => by rw [h x (List.mem_range.1 hx)]
theorem plsAt_get {P : Nat → Bool} {n j : Nat} (hj : j < plsN P n) : (pls P n)[j]? = some (plsAt P n j) := by
  unfold plsN at hj
  unfold plsAt
  rw [List.getD_eq_getElem?_getD, List.getElem?_eq_getElem hj]; rfl
theorem plsAt_eq {P : Nat → Bool} {n j : Nat} (hj : j < (pls P n).length) : plsAt P n j = (pls P n)[j] := by
  unfold plsAt
  rw [List.getD_eq_getElem?_getD, List.getElem?_eq_getElem hj]; rfl
theorem plsAt_in {P : Nat → Bool} {n j : Nat} (hj : j < plsN P n) : plsAt P n j < n ∧ P (plsAt P n j) = true := by
  have h := List.mem_of_getElem? (plsAt_get hj)
  unfold pls at h
  rw [List.mem_filter, List.mem_range] at h
  exact h
theorem plsAt_up {P : Nat → Bool} {n s t : Nat} (hst : s < t) (ht : t < plsN P n) : plsAt P n s < plsAt P n t := by
  have h : (pls P n).Pairwise (· < ·) := List.Pairwise.filter _ List.pairwise_lt_range
  have hs : s < (pls P n).length := Nat.lt_trans hst ht
  rw [plsAt_eq hs, plsAt_eq ht]
  exact List.pairwise_iff_getElem.1 h s t hs ht hst
theorem pls_all {P : Nat → Bool} {n x : Nat} (hx : x < n) (h : P x = true) : ∃ j, j < plsN P n ∧ plsAt P n j = x := by
  have hm : x ∈ pls P n := by unfold pls; rw [List.mem_filter, List.mem_range]; exact ⟨hx, h⟩
  obtain ⟨j, hj, e⟩ := List.getElem_of_mem hm
  exact ⟨j, hj, by rw [plsAt_eq hj, e]⟩
theorem plsN_cnt (P : Nat → Bool) (n : Nat) : plsN P n = cnt P n := by
  induction n with
  | zero => rfl
  | succ n ih =>
    unfold plsN at ih ⊢
    cases h : P n with
    | true => rw [pls_yes h, List.length_append, ih]; simp [cnt, h]
    | false => rw [pls_no h, ih]; simp [cnt, h]
theorem plsN_le (P : Nat → Bool) (n : Nat) : plsN P n ≤ n := by rw [plsN_cnt]; exact cnt_le P n
theorem plsN_zero {P : Nat → Bool} {n : Nat} (h : plsN P n = 0) : ∀ x, x < n → P x = false := by
  rw [plsN_cnt] at h; exact cnt_zero n h
/-- rising places are at least their number -/
theorem up_ge {at_ : Nat → Nat} {n : Nat} (hup : ∀ s t, s < t → t < n → at_ s < at_ t) : ∀ t, t < n → t ≤ at_ t := by
  intro t
  induction t with
  | zero => intro _; exact Nat.zero_le _
  | succ t ih =>
    intro ht
    have h1 := ih (by omega)
    have h2 := hup t (t + 1) (by omega) ht
    omega
theorem up_le {at_ : Nat → Nat} {n p : Nat} (hup : ∀ s t, s < t → t < n → at_ s < at_ t) (hlt : ∀ t, t < n → at_ t < n + p) : ∀ k t, t + k + 1 = n → at_ t ≤ t + p := by
  intro k
  induction k with
  | zero =>
    intro t ht
    have := hlt t (by omega)
    omega
  | succ k ih =>
    intro t ht
    have h1 := ih (t + 1) (by omega)
    have h2 := hup t (t + 1) (by omega) (by omega)
    omega
/-- without parity each is there -/
theorem up_none {at_ : Nat → Nat} {n : Nat} (hup : ∀ s t, s < t → t < n → at_ s < at_ t) (hlt : ∀ t, t < n → at_ t < n) {t : Nat} (ht : t < n) : at_ t = t := by
  have h1 := up_ge hup t ht
  have h2 := up_le (p := 0) hup hlt (n - t - 1) t (by omega)
  omega
/-- the inverse -/
def invOf (n : Nat) (E : Mat) : Mat := match gjs n E n with
  | some (_, V) => V
  | none => one
theorem invOf_some {n : Nat} {E R V : Mat} (h : gjs n E n = some (R, V)) : invOf n E = V := by unfold invOf; rw [h]
theorem mv_inv_left {n : Nat} {E R V : Mat} (h : gjs n E n = some (R, V)) (v : Nat → Fe) {x : Nat} (hx : x < n) : mv n (invOf n E) (mv n E v) x = v x := by
  rw [invOf_some h, mv_mv]
  rw [mv_congr (B := one) (u := v) (fun k hk => (gjs_ok h).2 x hx k hk) (fun _ _ => rfl)]
  exact mv_one hx v
theorem mv_inv_right {n : Nat} {E R V : Mat} (h : gjs n E n = some (R, V)) (v : Nat → Fe) {x : Nat} (hx : x < n) : mv n E (mv n (invOf n E) v) x = v x := by
  rw [invOf_some h, mv_mv]
  rw [mv_congr (B := one) (u := v) (fun k hk => (gjs_ok h).1 x hx k hk) (fun _ _ => rfl)]
  exact mv_one hx v
end Go.Proofs.Ytmfikihcoafekaa.Mx
namespace Go.Proofs.Ytmfikihcoafekaa
open Go.RowKit Mx

/-- block b is an own slice of n slices, each of which reads as a row -/
structure TopR (w : World) (b n : Nat) (A : Nat → Option Addr) (L C : Nat → Nat) (M : Mat) : Prop where
  top : RowV w 24 b n (fun i => .slice (A i) (L i) (C i))
  rows : ∀ i, i < n → Rd w (A i) (L i) (M i) (· ≠ b)
namespace TopR
variable {w w' : World} {b n : Nat} {A : Nat → Option Addr} {L L' C : Nat → Nat} {M M' : Mat}
theorem rdM (h : TopR w b n A L C M) : RdM w (some ⟨b, 0, none⟩) n L M (· < w.heap.size) :=
  RdM.in_ (G := fun _ => True) fun _ => ⟨b, 0, rfl, trivial, fun i hi => ⟨A i, C i, by rw [Nat.zero_add]; exact h.top.cell hi, (h.rows i hi).mono fun _ _ => trivial⟩⟩
theorem old (h : TopR w b n A L C M) (hb : Below w.heap.size w w') : TopR w' b n A L C M := ⟨h.top.old hb, fun i hi => (h.rows i hi).old hb⟩
theorem congr (h : TopR w b n A L C M) (hl : ∀ i, i < n → L i = L' i) (he : ∀ i, i < n → ∀ j, j < L i → M i j = M' i j) : TopR w b n A L' C M' :=
  ⟨h.top.congr fun i hi => by rw [hl i hi], fun i hi => by rw [← hl i hi]; exact (h.rows i hi).congr (he i hi)⟩
theorem start (w : World) (n : Nat) (M : Mat) : TopR (w.alloc (.cells (madeCells #[.slice none 0 0] n) 24)) w.heap.size n (fun _ => none) (fun _ => 0) (fun _ => 0) M :=
  ⟨RowV.made w _ _ n, fun _ _ => Rd.empty _ _ _ _⟩
/-- a row is laid -/
theorem set (h : TopR w b n A L C M) (k : Nat) {a : Option Addr} {l c : Nat} {r : Nat → Fe} (hr : Rd w a l r (· ≠ b)) :
    TopR (w.setCell ⟨b, k, none⟩ (.slice a l c)) b n (fun i => if i = k then a else A i) (fun i => if i = k then l else L i) (fun i => if i = k then c else C i) (fun i => if i = k then r else M i) := by
  refine ⟨(h.top.set k _).congr fun i _ => ?_, fun i hi => ?_⟩
  · by_cases e : i = k <;> simp [e]
  · by_cases e : i = k
    · simp only [e, if_true]; exact hr.kp (Kp.store w b k _) (fun _ hx => hx)
    · simp only [e, if_false]; exact (h.rows i hi).kp (Kp.store w b k _) (fun _ hx => hx)
/-- a row is laid as the matrix has it -/
theorem lay (h : TopR w b n A L C M) (k : Nat) {a : Option Addr} {l c : Nat} (hr : Rd w a l (M k) (· ≠ b)) :
    TopR (w.setCell ⟨b, k, none⟩ (.slice a l c)) b n (fun i => if i = k then a else A i) (fun i => if i = k then l else L i) (fun i => if i = k then c else C i) M :=
  (h.set k hr).congr (fun _ _ => rfl) fun i _ j _ => by by_cases e : i = k <;> simp [e]
end TopR
theorem Rd.ne {w : World} {A : Option Addr} {n : Nat} {r : Nat → Fe} {G : Nat → Prop} {b : Nat} (h : Rd w A n r G) (hb : w.heap.size ≤ b) : Rd w A n r (· ≠ b) :=
  h.in_.mono fun x hx => by omega
/-- the first of what reads -/
theorem RdM.first {w : World} {A : Option Addr} {n k : Nat} {L : Nat → Nat} {M : Mat} {G : Nat → Prop} (h : RdM w A n L M G) (hk : k ≤ n) : RdM w A k L M G := by
  intro h0
  obtain ⟨b, off, e, hg, hc⟩ := h (by omega)
  exact ⟨b, off, e, hg, fun i hi => hc i (by omega)⟩
theorem RdI.first {w : World} {A : Option Addr} {n k : Nat} {z : Nat → Int} (h : RdI w A n z) (hk : k ≤ n) : RdI w A k z := by
  intro h0
  obtain ⟨b, off, e, hc⟩ := h (by omega)
  exact ⟨b, off, e, fun i hi => hc i (by omega)⟩
theorem RdI.kp {w w' : World} {A : Option Addr} {n : Nat} {z : Nat → Int} {S : Nat → Prop} (h : RdI w A n z) (hk : Kp S w w') (hs : ∀ a, A = some a → ¬ S a.block) : RdI w' A n z := by
  intro h0
  obtain ⟨b, off, e, hc⟩ := h h0
  exact ⟨b, off, e, fun j hj => hk.cell (hc j hj) (hs ⟨b, off, none⟩ e)⟩
theorem RdI.congr {w : World} {A : Option Addr} {n : Nat} {z z' : Nat → Int} (h : RdI w A n z) (he : ∀ j, j < n → z j = z' j) : RdI w A n z' := by
  intro h0
  obtain ⟨b, off, e, hc⟩ := h h0
  exact ⟨b, off, e, fun j hj => by rw [hc j hj, he j hj]⟩
theorem infoInt : (Try.prog.info? 3).map (fun i => (i.zero, i.size, i.bytes)) = some (some (.int .i64 0), 1, 8) := by kernel_rfl
/-- numbers as cells -/
def intsOf (l : List Nat) : List Value := l.map fun (x : Nat) => .int .i64 (x : Int)
theorem intsOf_one {l : List Nat} : ∀ u ∈ intsOf l, u.oneCell' = true := by
  intro u hu
  simp only [intsOf, List.mem_map] at hu
  obtain ⟨j, _, rfl⟩ := hu
  rfl
theorem oneInt (x : Int) : ∀ u ∈ [Value.int .i64 x], u.oneCell' = true := by
  intro u hu; simp at hu; subst hu; rfl
/-- an own row of numbers reads -/
theorem RdI.of_owns {w : World} {base : Nat} {l : List Nat} {v : Value} (h : w.ownsRow base 3 1 v l.length (intsOf l)) :
    ∃ A C, v = .slice A l.length C ∧ l.length ≤ C ∧ (∀ a, A = some a → base ≤ a.block) ∧ RdI w A l.length (fun j => (l.getD j 0 : Int)) := by
  rcases Nat.eq_zero_or_pos l.length with h0 | h0
  · rcases h.2 with ⟨e, _⟩ | ⟨g, cap, cur, e, hb, _, hc, _⟩
    · exact ⟨none, 0, by rw [h0]; exact e, by omega, fun a ha => by (cases ha), fun hh => by omega⟩
    · exact ⟨_, cap, e, hc, fun a ha => by (cases ha; exact hb), fun hh => by omega⟩
  · obtain ⟨g, C, h1, h2, h3, h4⟩ := RowV.of_owns h h0
    refine ⟨_, C, h1, h3, fun a ha => by (cases ha; exact h2), fun _ => ⟨g, 0, rfl, fun j hj => ?_⟩⟩
    rw [Nat.zero_add, h4.cell hj]
    congr 1
    unfold intsOf
    simp only [List.getD_eq_getElem?_getD, List.getElem?_map, List.getElem?_eq_getElem hj, Option.map_some, Option.getD_some]

/-! ### What is answered -/
/-- parity: byte by byte Cauchy's product -/
def par (n p : Nat) (D : Mat) : Mat := fun i c => mv n (cau p) (fun j => D j c) i
def EncOk (n : Nat) (L : Nat → Nat) (p : Int) : Prop := 1 ≤ n ∧ (∀ i, i < n → L i = L 0) ∧ 0 ≤ p ∧ p ≤ 255 - n
open Classical in
def EncAny (n : Nat) (L : Nat → Nat) (D : Mat) (p : Int) (w : World) (e : Ending) (w' : World) : Prop :=
  if EncOk n L p then ResM 0 p.toNat (L 0) (par n p.toNat D) w e w' else ResM 1 0 0 one w e w'
/-- a new matrix, and an error's number -/
def OwnM (code : Int) (n m : Nat) (M : Mat) (w : World) (e : Ending) (w' : World) : Prop :=
  ∃ b G C, e = .returned (.tuple #[.slice (some ⟨b, 0, none⟩) n n, .int .i64 code]) ∧ w.heap.size ≤ b ∧ OwnK w' w.heap.size b n n m G C M ∧ Below w.heap.size w w'
theorem OwnM.res {code : Int} {n m : Nat} {M : Mat} {w : World} {e : Ending} {w' : World} (h : OwnM code n m M w e w') : ResM code n m M w e w' := by
  obtain ⟨b, G, C, he, _, hr, hb⟩ := h
  exact ⟨_, n, he, hr.rdAll (Nat.le_refl _), hb⟩
/-- the same, with whatever room behind it -/
def NewM (code : Int) (n m : Nat) (M : Mat) (w : World) (e : Ending) (w' : World) : Prop :=
  ∃ b q G C, e = .returned (.tuple #[.slice (some ⟨b, 0, none⟩) n q, .int .i64 code]) ∧ n ≤ q ∧ w.heap.size ≤ b ∧ OwnK w' w.heap.size b n n m G C M ∧ Below w.heap.size w w'
theorem OwnM.new {code : Int} {n m : Nat} {M : Mat} {w : World} {e : Ending} {w' : World} (h : OwnM code n m M w e w') : NewM code n m M w e w' := by
  obtain ⟨b, G, C, he, hb, hr, h'⟩ := h
  exact ⟨b, n, G, C, he, Nat.le_refl _, hb, hr, h'⟩
theorem NewM.res {code : Int} {n m : Nat} {M : Mat} {w : World} {e : Ending} {w' : World} (h : NewM code n m M w e w') : ResM code n m M w e w' := by
  obtain ⟨b, q, G, C, he, _, _, hr, hb⟩ := h
  exact ⟨_, q, he, hr.rdAll (Nat.le_refl _), hb⟩
open Classical in
/-- what Encode answers, all of it new memory -/
def EncNew (n : Nat) (L : Nat → Nat) (D : Mat) (p : Int) (w : World) (e : Ending) (w' : World) : Prop :=
  if EncOk n L p then (p = 0 ∧ e = .returned (.tuple #[.slice none 0 0, .int .i64 0]) ∧ Below w.heap.size w w') ∨ (0 < p ∧ NewM 0 p.toNat (L 0) (par n p.toNat D) w e w') else e = .returned (.tuple #[.slice none 0 0, .int .i64 1]) ∧ Below w.heap.size w w'
theorem EncNew.any {n : Nat} {L : Nat → Nat} {D : Mat} {p : Int} {w : World} {e : Ending} {w' : World} (h : EncNew n L D p w e w') : EncAny n L D p w e w' := by
  unfold EncNew at h
  unfold EncAny
  split
  · rename_i hok
    rw [if_pos hok] at h
    rcases h with ⟨rfl, rfl, hb⟩ | ⟨_, h⟩
    · exact ⟨none, 0, rfl, RdM.empty _ _ _ _ _, hb⟩
    · exact h.res
  · rename_i hok
    rw [if_neg hok] at h
    obtain ⟨rfl, hb⟩ := h
    exact ⟨none, 0, rfl, RdM.empty _ _ _ _ _, hb⟩
theorem EncNew.bad {n : Nat} {L : Nat → Nat} {D : Mat} {p : Int} (hn : ¬ EncOk n L p) (w : World) {w' : World} (h : Below w.heap.size w w') : EncNew n L D p w (.returned (.tuple #[.slice none 0 0, .int .i64 1])) w' := by
  unfold EncNew; rw [if_neg hn]; exact ⟨rfl, h⟩
theorem EncNew.none {n : Nat} {L : Nat → Nat} {D : Mat} (hn : EncOk n L 0) (w : World) {w' : World} (h : Below w.heap.size w w') : EncNew n L D 0 w (.returned (.tuple #[.slice none 0 0, .int .i64 0])) w' := by
  unfold EncNew; rw [if_pos hn]; exact .inl ⟨rfl, rfl, h⟩
theorem EncNew.some {n : Nat} {L : Nat → Nat} {D : Mat} {p : Nat} (hn : EncOk n L (p : Int)) (hp : 0 < p) {w : World} {e : Ending} {w' : World} (h : NewM 0 p (L 0) (par n p D) w e w') : EncNew n L D (p : Int) w e w' := by
  unfold EncNew; rw [if_pos hn]; exact .inr ⟨by omega, h⟩
/-- the rows of what was made of the data -/
def encM (d p : Nat) (at_ : Nat → Nat) : Mat := fun t => enc d (cau p) (at_ t)
theorem encM_some {d p : Nat} {at_ : Nat → Nat} (hdp : d + p ≤ 255) (hup : ∀ s t, s < t → t < d → at_ s < at_ t) (hlt : ∀ t, t < d → at_ t < d + p) : ∃ R V, gjs d (encM d p at_) d = some (R, V) :=
  enc_some (x := fun i => el i) (y := fun j => el (p + j)) (fun i j _ _ => rfl)
    (fun i j hi hj h => el_ne (by omega) (by omega) h) (fun i j hi hj h => el_ne (by omega) (by omega) (by omega)) (fun i j hi hj => el_ne (by omega) (by omega) (by omega)) hup hlt
/-- the data that rows tell -/
def dec (d p : Nat) (at_ : Nat → Nat) (Y : Mat) : Mat := fun x c => mv d (invOf d (encM d p at_)) (fun t => Y t c) x
/-- those of data among them are as they are -/
theorem dec_same {d p : Nat} {at_ : Nat → Nat} (hdp : d + p ≤ 255) (hup : ∀ s t, s < t → t < d → at_ s < at_ t) (hlt : ∀ t, t < d → at_ t < d + p) (Y : Mat) {t : Nat} (ht : t < d) (h : at_ t < d) (c : Nat) : Y t c = dec d p at_ Y (at_ t) c := by
  obtain ⟨R, V, hg⟩ := encM_some hdp hup hlt
  have h1 := mv_inv_right hg (fun t => Y t c) ht
  rw [← h1]
  show mv d (encM d p at_) (fun x => dec d p at_ Y x c) t = _
  rw [show mv d (encM d p at_) (fun x => dec d p at_ Y x c) t = mv d one (fun x => dec d p at_ Y x c) (at_ t) from sm_congr fun k _ => by
    show (if at_ t < d then one (at_ t) k else cau p (at_ t - d) k) * _ = _
    rw [if_pos h], mv_one h]
/-- what was made of data tells it -/
theorem dec_back {d p : Nat} {at_ : Nat → Nat} (hdp : d + p ≤ 255) (hup : ∀ s t, s < t → t < d → at_ s < at_ t) (hlt : ∀ t, t < d → at_ t < d + p) (D Y : Mat) {c : Nat} (hY : ∀ t, t < d → Y t c = mv d (encM d p at_) (fun x => D x c) t) {x : Nat} (hx : x < d) : dec d p at_ Y x c = D x c := by
  obtain ⟨R, V, hg⟩ := encM_some hdp hup hlt
  rw [← mv_inv_left hg (fun x => D x c) hx]
  exact mv_congr (fun _ _ => rfl) hY
def there (L : Nat → Nat) (x : Nat) : Bool := decide (0 < L x)
theorem there_true {L : Nat → Nat} {x : Nat} : there L x = true ↔ 0 < L x := decide_eq_true_iff
def DecOk (n : Nat) (L : Nat → Nat) (d : Int) : Prop := 1 ≤ d ∧ d ≤ n ∧ n ≤ 255 ∧ 0 < plsN (there L) n ∧ ∀ j, j < plsN (there L) n → L (plsAt (there L) n j) = L (plsAt (there L) n 0)
open Classical in
def DecAny (n : Nat) (L : Nat → Nat) (H : Mat) (d : Int) (w : World) (e : Ending) (w' : World) : Prop :=
  if DecOk n L d then if plsN (there L) n < d.toNat then ResM 10 0 0 one w e w' else ResM 0 d.toNat (L (plsAt (there L) n 0)) (dec d.toNat (n - d.toNat) (plsAt (there L) n) (fun t => H (plsAt (there L) n t))) w e w' else ResM 1 0 0 one w e w'
theorem EncAny.res (n : Nat) (L : Nat → Nat) (D : Mat) (p : Int) : ∃ (code : Int) (k q : Nat) (X : Mat), k ≤ 255 ∧ ∀ w e w', EncAny n L D p w e w' → ResM code k q X w e w' := by
  by_cases h : EncOk n L p
  · have h1 := h.1
    have h2 := h.2.2.1
    have h3 := h.2.2.2
    exact ⟨0, p.toNat, L 0, par n p.toNat D, by omega, fun w e w' hh => by unfold EncAny at hh; rw [if_pos h] at hh; exact hh⟩
  · exact ⟨1, 0, 0, one, by omega, fun w e w' hh => by unfold EncAny at hh; rw [if_neg h] at hh; exact hh⟩
theorem DecAny.res (n : Nat) (L : Nat → Nat) (H : Mat) (d : Int) : ∃ (code : Int) (k q : Nat) (X : Mat), k ≤ 255 ∧ ∀ w e w', DecAny n L H d w e w' → ResM code k q X w e w' := by
  by_cases h : DecOk n L d
  · have h1 := h.1
    have h2 := h.2.1
    have h3 := h.2.2.1
    by_cases hn : plsN (there L) n < d.toNat
    · exact ⟨10, 0, 0, one, by omega, fun w e w' hh => by unfold DecAny at hh; rw [if_pos h, if_pos hn] at hh; exact hh⟩
    · exact ⟨0, d.toNat, _, _, by omega, fun w e w' hh => by unfold DecAny at hh; rw [if_pos h, if_neg hn] at hh; exact hh⟩
  · exact ⟨1, 0, 0, one, by omega, fun w e w' hh => by unfold DecAny at hh; rw [if_neg h] at hh; exact hh⟩
end Go.Proofs.Ytmfikihcoafekaa
namespace Go.Proofs.Ytmfikihcoafekaa
open Go.RowKit

theorem infoRowT : (Try.prog.info? 24).map (fun i => (i.zero, i.size, i.bytes)) = some (some (.slice none 0 0), 1, 24) := by kernel_rfl
end Go.Proofs.Ytmfikihcoafekaa
namespace Go.Proofs.Ytmfikihcoafekaa
open Go.RowKit
open Pt (Tx)

/-- v is a slice of the call's own whose rows us are the call's own, hold bs, and lie in blocks of G, no two in one -/
structure TopB (w : World) (B : Nat) (G : Nat → Prop) (v : Value) (us : List Value) (bs : List Tx) : Prop where
  top : w.ownsRow B 24 1 v us.length us
  len : us.length = bs.length
  rows : ∀ i (h : i < us.length) (h' : i < bs.length), OwnL w B us[i] bs[i]
  gs : ∀ i (h : i < us.length) k, us[i].ownBlock = some k → G k
  inj : ∀ i j (hi : i < us.length) (hj : j < us.length) k, us[i].ownBlock = some k → us[j].ownBlock = some k → i = j
theorem own_blk {w : World} {B : Nat} {t : TypeId} {v : Value} {n : Nat} {xs : List Value} (h : w.ownsRow B t 1 v n xs) : ∀ k, v.ownBlock = some k → ∃ c, w.heap[k]? = some (.cells c t (0, 0)) := by
  intro k hk
  rcases h.2 with ⟨rfl, _⟩ | ⟨g, cap, cur, rfl, _, hg, _⟩
  · cases hk
  · cases hk; exact ⟨cur, hg⟩
theorem own_of {w w' : World} {B : Nat} {t : TypeId} {v : Value} {n : Nat} {xs : List Value} (h : w.ownsRow B t 1 v n xs) (hb : ∀ k, v.ownBlock = some k → w'.heap[k]? = w.heap[k]?) : w'.ownsRow B t 1 v n xs := by
  refine ⟨h.1, ?_⟩
  rcases h.2 with h0 | ⟨g, cap, cur, rfl, hb', hg, hr⟩
  · exact .inl h0
  · exact .inr ⟨g, cap, cur, rfl, hb', (hb g rfl).trans hg, hr⟩
namespace TopB
variable {w w' : World} {B : Nat} {G G' : Nat → Prop} {v : Value} {us : List Value} {bs : List Tx}
theorem nil (w : World) (B : Nat) (G : Nat → Prop) : TopB w B G (.slice none 0 0) [] [] :=
  ⟨World.ownsRow_nil _ _ _ _, rfl, fun i h => absurd h (by simp), fun i h => absurd h (by simp), fun i j h => absurd h (by simp)⟩
/-- what is not touched is as it was -/
theorem kp {S : Nat → Prop} (h : TopB w B G v us bs) (hk : Kp S w w') (h1 : ∀ k c, S k → w.heap[k]? ≠ some (.cells c 24 (0, 0))) (h2 : ∀ k, S k → ¬ G k) : TopB w' B G v us bs := by
  refine ⟨own_of h.top fun k e => ?_, h.len, fun i hi hi' => (h.rows i hi hi').kp hk fun k e hs => h2 k hs (h.gs i hi k e), h.gs, h.inj⟩
  obtain ⟨c, hc⟩ := own_blk h.top k e
  exact hk.block k (heap_lt hc) fun hs => h1 k c hs hc
/-- the same, told by what lies there -/
theorem kpT {S : Nat → Prop} (h : TopB w B G v us bs) (hk : Kp S w w') (h1 : ∀ k c, S k → w.heap[k]? ≠ some (.cells c 24 (0, 0))) (h2 : ∀ k c, S k → w.heap[k]? ≠ some (.cells c 5 (0, 0))) : TopB w' B G v us bs := by
  refine ⟨own_of h.top fun k e => ?_, h.len, fun i hi hi' => (h.rows i hi hi').kp hk fun k e hs => ?_, h.gs, h.inj⟩
  · obtain ⟨c, hc⟩ := own_blk h.top k e
    exact hk.block k (heap_lt hc) fun hs => h1 k c hs hc
  · obtain ⟨c, hc⟩ := (h.rows i hi hi').block k e
    exact h2 k c hs hc
theorem old (h : TopB w B G v us bs) (hb : Below w.heap.size w w') : TopB w' B G v us bs :=
  h.kp (S := fun _ => False) (Kp.of_below hb) (fun _ _ h => h.elim) (fun _ h => h.elim)
theorem mono (h : TopB w B G v us bs) (hg : ∀ k, G k → G' k) : TopB w B G' v us bs := ⟨h.top, h.len, h.rows, fun i hi k e => hg k (h.gs i hi k e), h.inj⟩
/-- all its rows are there -/
theorem there (h : TopB w B G v us bs) : TopB w B (fun k => G k ∧ k < w.heap.size) v us bs :=
  ⟨h.top, h.len, h.rows, fun i hi k e => ⟨h.gs i hi k e, (h.rows i hi (by rw [← h.len]; exact hi)).lt k e⟩, h.inj⟩
/-- as a value -/
theorem val (h : TopB w B G v us bs) : ∃ A C, v = .slice A bs.length C ∧ bs.length ≤ C ∧ C ≤ maxLen ∧ (A = none → bs.length = 0 ∧ C = 0) := by
  rcases h.top.2 with ⟨rfl, h0⟩ | ⟨g, cap, cur, rfl, _, _, hnc, hcm, _⟩
  · have : bs.length = 0 := by rw [← h.len, h0]
    exact ⟨none, 0, by rw [this], by omega, by decide, fun _ => ⟨this, rfl⟩⟩
  · exact ⟨_, cap, by rw [← h.len], by rw [← h.len]; exact hnc, hcm, fun h => by cases h⟩
/-- as what reads -/
theorem rdB {A : Option Addr} {n C : Nat} (h : TopB w B G (.slice A n C) us bs) : RdB w A bs (fun k => B ≤ k) := by
  intro hn
  rcases h.top.2 with ⟨e, h0⟩ | ⟨g, cap, cur, e, hb, hg, hnc, _, hs, ht⟩
  · have := h.len; omega
  · injection e with e1 e2 e3
    subst e1
    refine ⟨g, 0, rfl, hb, fun i hi => ?_⟩
    have hi' : i < us.length := by rw [h.len]; exact hi
    obtain ⟨A', C', hv, h1, -, h2, h3⟩ := (h.rows i hi' hi).rd
    refine ⟨A', C', ?_, h1, h2, h3.mono fun _ h => h.1⟩
    have hx : us[i]? = some (.slice A' bs[i].length C') := by rw [List.getElem?_eq_getElem hi', hv]
    rw [← ht, List.getElem?_take, if_pos (by omega), Array.getElem?_toList] at hx
    rw [Nat.zero_add, heap_cell hg, hx]
/-- a row is appended -/
theorem push (h : TopB w B G v us bs) {w1 : World} (hw : Below w.heap.size w w1) {u : Value} {s : Tx} (hu : OwnL w1 B u s) (hun : ∀ k, u.ownBlock = some k → w.heap.size ≤ k) (hG : ∀ k, u.ownBlock = some k → G k) {v' : Value} (ho : w'.ownsRow B 24 1 v' (us.length + 1) (us ++ [u])) (hg : w1.grownBy w' v.ownBlock) :
    TopB w' B G v' (us ++ [u]) (bs ++ [s]) := by
  have keep : ∀ {x : Value} {l : Tx}, OwnL w1 B x l → OwnL w' B x l := fun {x l} hx => hx.of_block fun k e => by
    refine hg.block k (hx.lt k e) fun e' => ?_
    obtain ⟨c, hc⟩ := own_blk h.top k e'.symm
    obtain ⟨c', hc'⟩ := hx.block k e
    rw [hw.block k (heap_lt hc), hc] at hc'
    injection hc' with hc'
    injection hc' with _ e2
    exact absurd e2 (by decide)
  have oldlt : ∀ i (hi : i < us.length) k, us[i].ownBlock = some k → k < w.heap.size := fun i hi k e => (h.rows i hi (by rw [← h.len]; exact hi)).lt k e
  refine ⟨by simpa using ho, by simp [h.len], fun i hi hi' => ?_, fun i hi k e => ?_, fun i j hi hj k e e' => ?_⟩
  · rcases Nat.lt_or_ge i us.length with hl | hl
    · rw [List.getElem_append_left hl, List.getElem_append_left (by rw [← h.len]; exact hl)]
      exact keep ((h.rows i hl (by rw [← h.len]; exact hl)).of_block fun k e => hw.block k (oldlt i hl k e))
    · have : i = us.length := by simp at hi; omega
      subst this
      have e2 : (bs ++ [s])[us.length] = s := by simp [h.len]
      rw [e2]
      simp only [List.getElem_concat_length]
      exact keep hu
  · rcases Nat.lt_or_ge i us.length with hl | hl
    · rw [List.getElem_append_left hl] at e
      exact h.gs i hl k e
    · have : i = us.length := by simp at hi; omega
      subst this
      simp only [List.getElem_concat_length] at e
      exact hG k e
  · rcases Nat.lt_or_ge i us.length with hl | hl <;> rcases Nat.lt_or_ge j us.length with hm | hm
    · rw [List.getElem_append_left hl] at e
      rw [List.getElem_append_left hm] at e'
      exact h.inj i j hl hm k e e'
    · have : j = us.length := by simp at hj; omega
      subst this
      rw [List.getElem_append_left hl] at e
      simp only [List.getElem_concat_length] at e'
      have := oldlt i hl k e
      have := hun k e'
      omega
    · have : i = us.length := by simp at hi; omega
      subst this
      rw [List.getElem_append_left hm] at e'
      simp only [List.getElem_concat_length] at e
      have := oldlt j hm k e'
      have := hun k e
      omega
    · simp at hi hj; omega
end TopB
/-- append of one row -/
theorem wpList_append_tp (w : World) {ops : Array Oper} {rest : List Oper} {o : Oper} {a : Act} {Q : Exit → Act → World → Prop} (hgd : o.guard = none) (s x : Operand)
    (ho : o.op = .call { callee := .builtin .append, args := #[s, x], argTypes := #[30, 30] })
    (base : Nat) (v : Value) (us : List Value) (hs : a.eval s = v) (hown : w.ownsRow base 24 1 v us.length us) (hl : us.length ≤ 1000000)
    (b off c : Nat) (A : Option Addr) (L C : Nat) (hx : a.eval x = .slice (some ⟨b, off, none⟩) 1 c) (hc : w.cell? ⟨b, off, none⟩ = some (.slice A L C)) (hbase : base ≤ w.heap.size)
    (h : ∀ v' w', w'.ownsRow base 24 1 v' (us.length + 1) (us ++ [.slice A L C]) → w.grownBy w' v.ownBlock → wpList Try.prog ops Q rest (a.put o.dst v') w') : wpList Try.prog ops Q (o :: rest) a w := by
  obtain ⟨i0, hi, hz0, hz1, hz2⟩ := info_parts infoRowT
  refine wpList_append_opt w hgd s x 30 ho base 24 i0 (.slice none 0 0) 24 Try.underlying30 hi hz0 hz1 hz2 rfl v us.length us hs hown (some ⟨b, off, none⟩) 1 c [.slice A L C] hx (fun h => by cases h) rfl (fun ad had j u hu => ?_) (fun u hu => by rw [List.mem_singleton.1 hu]; rfl) (by unfold maxLen; omega) (by omega) hbase h
  cases had
  have hj : j = 0 := by
    rcases Nat.eq_zero_or_pos j with h0 | h0
    · exact h0
    · rw [List.getElem?_eq_none (by simp; omega)] at hu; cases hu
  subst hj
  cases hu
  exact hc
end Go.Proofs.Ytmfikihcoafekaa
namespace Go.Proofs.Ytmfikihcoafekaa
open Go.RowKit Mx
open Pt (Tx)

/-- a block whose cells are of type t -/
def Typed (w : World) (g : Nat) (t : TypeId) : Prop := ∃ c, w.heap[g]? = some (.cells c t (0, 0))
theorem Typed.ne {w : World} {g g' : Nat} {t t' : TypeId} (h : Typed w g t) (h' : Typed w g' t') (ht : t ≠ t') : g ≠ g' := by
  rintro rfl
  obtain ⟨c, e⟩ := h
  obtain ⟨c', e'⟩ := h'
  rw [e] at e'
  injection e' with e'
  injection e' with _ e2
  exact ht e2
theorem RowV.typed {w : World} {t : TypeId} {g n : Nat} {V : Nat → Value} (h : RowV w t g n V) : Typed w g t := by
  obtain ⟨c, hb, _⟩ := h
  exact ⟨c, hb⟩
/-- v is an own slice of n slices, each an own row of m elements, row i as X has it -/
def OneP (w : World) (B m : Nat) (v : Value) (n : Nat) (X : Mat) : Prop :=
  ∃ us, w.ownsRow B 24 1 v n us ∧ ∀ i, i < n → ∃ g c, us[i]? = some (.slice (some ⟨g, 0, none⟩) m c) ∧ m ≤ c ∧ B ≤ g ∧ RowAt w g m (X i)
namespace OneP
variable {w w' : World} {B m n : Nat} {v : Value} {X Y : Mat}
theorem keep (h : OneP w B m v n X) (h1 : ∀ k, v.ownBlock = some k → w'.heap[k]? = w.heap[k]?) (h2 : ∀ g, Typed w g 5 → w'.heap[g]? = w.heap[g]?) : OneP w' B m v n X := by
  obtain ⟨us, ho, hr⟩ := h
  refine ⟨us, own_of ho h1, fun i hi => ?_⟩
  obtain ⟨g, c, e, hc, hg, hrow⟩ := hr i hi
  exact ⟨g, c, e, hc, hg, hrow.of_block (h2 g (RowV.typed hrow))⟩
theorem typed (h : OneP w B m v n X) {k : Nat} (e : v.ownBlock = some k) : Typed w k 24 := by
  obtain ⟨us, ho, _⟩ := h
  exact own_blk ho k e
theorem lt (h : OneP w B m v n X) {k : Nat} (e : v.ownBlock = some k) : B ≤ k ∧ k < w.heap.size := by
  obtain ⟨us, ho, _⟩ := h
  exact ho.lt k e
theorem nil (w : World) (B m : Nat) (X : Mat) : OneP w B m (.slice none 0 0) 0 X := ⟨[], World.ownsRow_nil _ _ _ _, fun i hi => absurd hi (by omega)⟩
theorem congr (h : OneP w B m v n X) (he : ∀ i, i < n → ∀ c, c < m → X i c = Y i c) : OneP w B m v n Y := by
  obtain ⟨us, ho, hr⟩ := h
  refine ⟨us, ho, fun i hi => ?_⟩
  obtain ⟨g, c, e, hc, hg, hrow⟩ := hr i hi
  exact ⟨g, c, e, hc, hg, hrow.congr (he i hi)⟩
/-- as a value that reads -/
theorem val (h : OneP w B m v n X) : ∃ A C, v = .slice A n C ∧ n ≤ C ∧ (A = none → n = 0 ∧ C = 0) ∧ RdM w A n (fun _ => m) X (B ≤ ·) := by
  obtain ⟨us, ho, hr⟩ := h
  rcases ho.2 with ⟨e, h0⟩ | ⟨g, cap, cur, e, hb, hg, hnc, hcm, hs, ht⟩
  · exact ⟨none, 0, by rw [e, h0], by omega, fun _ => ⟨h0, rfl⟩, fun hn => by omega⟩
  · refine ⟨_, cap, e, hnc, (fun h => by cases h), fun hn => ⟨g, 0, rfl, hb, fun i hi => ?_⟩⟩
    obtain ⟨r, c, e', hc, hg', hrow⟩ := hr i hi
    refine ⟨_, c, ?_, hrow.rd _ hg'⟩
    rw [Nat.zero_add, heap_cell hg]
    rw [← ht, List.getElem?_take] at e'
    split at e'
    · rw [Array.getElem?_toList] at e'; exact e'
    · cases e'
end OneP
/-- block b holds p such slices, no two in one block, of N j rows each -/
structure OutP (w : World) (B b p m : Nat) (V : Nat → Value) (N : Nat → Nat) (X : Nat → Mat) : Prop where
  lo : B ≤ b
  top : 0 < p → RowV w 30 b p V
  rows : ∀ j, j < p → OneP w B m (V j) (N j) (X j)
  inj : ∀ i j, i < p → j < p → ∀ k, (V i).ownBlock = some k → (V j).ownBlock = some k → i = j
namespace OutP
variable {w w1 w2 : World} {B b p m : Nat} {V : Nat → Value} {N N' : Nat → Nat} {X Y : Nat → Mat}
theorem old (h : OutP w B b p m V N X) (hb : Below w.heap.size w w2) : OutP w2 B b p m V N X :=
  ⟨h.lo, fun hp => (h.top hp).old hb, fun j hj => (h.rows j hj).keep (fun k e => hb.block k ((h.rows j hj).lt e).2) (fun g hg => hb.block g (by obtain ⟨c, e⟩ := hg; exact heap_lt e)), h.inj⟩
theorem congr (h : OutP w B b p m V N X) (he : ∀ j, j < p → ∀ i, i < N j → ∀ c, c < m → X j i c = Y j i c) : OutP w B b p m V N Y :=
  ⟨h.lo, h.top, fun j hj => (h.rows j hj).congr (he j hj), h.inj⟩
theorem counts (h : OutP w B b p m V N X) (he : ∀ j, j < p → N j = N' j) : OutP w B b p m V N' X :=
  ⟨h.lo, h.top, fun j hj => by rw [← he j hj]; exact h.rows j hj, h.inj⟩
/-- all of them are empty -/
theorem start (w : World) (B b p m : Nat) (X : Nat → Mat) (hb : B ≤ b) (h : 0 < p → RowV w 30 b p (fun _ => .slice none 0 0)) : OutP w B b p m (fun _ => .slice none 0 0) (fun _ => 0) X :=
  ⟨hb, h, fun j _ => OneP.nil _ _ _ _, fun i j _ _ k e => by cases e⟩
/-- a row is appended to one of them, and that is stored -/
theorem push (h : OutP w B b p m V N X) {j : Nat} (hj : j < p) {us : List Value} (hus : w.ownsRow B 24 1 (V j) (N j) us)
    (hrows : ∀ i, i < N j → ∃ g c, us[i]? = some (.slice (some ⟨g, 0, none⟩) m c) ∧ m ≤ c ∧ B ≤ g ∧ RowAt w g m (X j i)) (hb : Below w.heap.size w w1) (hg : w1.grownBy w2 (V j).ownBlock) {g cap : Nat} {r c : Nat} {f : Nat → Fe}
    (hown : w2.ownsRow B 24 1 (.slice (some ⟨g, 0, none⟩) (N j + 1) cap) (N j + 1) (us ++ [.slice (some ⟨r, 0, none⟩) m c])) (hat : (V j).ownBlock = some g ∨ w.heap.size ≤ g) (hc : m ≤ c) (hr : B ≤ r) (hrow : RowAt w r m f) :
    OutP (w2.setCell ⟨b, j, none⟩ (.slice (some ⟨g, 0, none⟩) (N j + 1) cap)) B b p m (fun i => if i = j then .slice (some ⟨g, 0, none⟩) (N j + 1) cap else V i) (fun i => if i = j then N j + 1 else N i) (fun i => if i = j then (fun t => if t = N j then f else X j t) else X i) := by
  have hjo := h.rows j hj
  have htop := h.top (by omega)
  have htb := htop.typed
  -- blocks of another type, or of another row, are as they were
  have k2 : ∀ k, k < w.heap.size → (V j).ownBlock ≠ some k → w2.heap[k]? = w.heap[k]? := fun k hk hne =>
    (hg.block k (Nat.lt_of_lt_of_le hk hb.size) (fun e => hne e.symm)).trans (hb.block k hk)
  have kT : ∀ k t, Typed w k t → t ≠ 24 → w2.heap[k]? = w.heap[k]? := fun k t hk ht => by
    obtain ⟨c, e⟩ := hk
    exact k2 k (heap_lt e) fun e' => Typed.ne ⟨c, e⟩ (hjo.typed e') ht rfl
  have kS : ∀ k, k ≠ b → ∀ v, (w2.setCell ⟨b, j, none⟩ v).heap[k]? = w2.heap[k]? := fun k hk v => Below.heap_setCell _ _ _ _ (fun e => hk e)
  have t2 : RowV w2 30 b p V := htop.of_block (kT b _ htb (by decide))
  have k8 : ∀ k, Typed w k 5 → ∀ v, (w2.setCell ⟨b, j, none⟩ v).heap[k]? = w.heap[k]? := fun k hk v => (kS k (Typed.ne hk htb (by decide)) v).trans (kT k _ hk (by decide))
  have hgb : g ≠ b := by
    have h1 : Typed w2 g 24 := own_blk hown g rfl
    exact Typed.ne h1 t2.typed (by decide)
  refine ⟨h.lo, fun _ => t2.set j _, fun i hi => ?_, fun i i' hi hi' k e e' => ?_⟩
  · by_cases e : i = j
    · subst e
      simp only [if_true]
      refine ⟨_, own_of hown (fun k e => ?_), fun t ht => ?_⟩
      · cases e; exact kS g hgb _
      · have hlen : us.length = N i := by have := hus.1; omega
        by_cases et : t = N i
        · refine ⟨r, c, by rw [et, List.getElem?_append_right (by omega), hlen]; simp, hc, hr, ?_⟩
          simp only [et, if_true]
          exact hrow.of_block (k8 r (RowV.typed hrow) _)
        · obtain ⟨g', c', e1, e2, e3, e4⟩ := hrows t (by omega)
          refine ⟨g', c', by rw [List.getElem?_append_left (by omega)]; exact e1, e2, e3, ?_⟩
          simp only [et, if_false]
          exact e4.of_block (k8 g' (RowV.typed e4) _)
    · simp only [e, if_false]
      refine (h.rows i hi).keep (fun k ek => ?_) (fun x hx => k8 x hx _)
      have hk := (h.rows i hi).lt ek
      exact (kS k (Typed.ne ((h.rows i hi).typed ek) htb (by decide)) _).trans (k2 k hk.2 fun ej => e (h.inj i j hi hj k ek ej))
  · have key : ∀ i, i < p → i ≠ j → ∀ k, (V i).ownBlock = some k → k ≠ g := fun i hi hne k ek hkg => by
      subst hkg
      rcases hat with hat | hat
      · exact hne (h.inj i j hi hj k ek hat)
      · have := ((h.rows i hi).lt ek).2; omega
    by_cases ei : i = j <;> by_cases ei' : i' = j
    · omega
    · simp only [ei, if_true] at e
      simp only [ei', if_false] at e'
      cases e
      exact absurd rfl (key i' hi' ei' _ e')
    · simp only [ei', if_true] at e'
      simp only [ei, if_false] at e
      cases e'
      exact absurd rfl (key i hi ei _ e)
    · simp only [ei, if_false] at e
      simp only [ei', if_false] at e'
      exact h.inj i i' hi hi' k e e'
/-- as what reads -/
theorem rdP (h : OutP w B b p m V N X) {n : Nat} (hn : ∀ j, j < p → N j = n) : RdP w (some ⟨b, 0, none⟩) p n m X (B ≤ ·) := fun hp => by
  refine ⟨b, 0, rfl, h.lo, fun j hj => ?_⟩
  have h1 := h.rows j hj
  rw [hn j hj] at h1
  obtain ⟨A, C, e, hc, ha, hr⟩ := h1.val
  refine ⟨A, C, ?_, hc, ha, hr⟩
  rw [Nat.zero_add, (h.top hp).cell hj, e]
end OutP
end Go.Proofs.Ytmfikihcoafekaa
