/- Items are read alike by package code and by the document's own. -/
import Derived.Test.YtnblebgoajhaiaaCdWrite
import Derived.Test.YtnblebgoajhaiaaRefCdW
import Derived.Test.YtnblebgoajhaiaaRefCdR
namespace Go.Proofs.Ytnblebgoajhaiaa
open Go.RowKit
open Pt (Tx)

/-- items that came in: a way, a number, a text each -/
def ItR (w : World) (A : Option Addr) (n : Nat) (way num : Nat → Int) (st : Nat → Tx) (B : Nat) : Prop :=
  0 < n → ∃ b off, A = some ⟨b, off, none⟩ ∧ b < B ∧ ∀ i, i < n → w.cell? ⟨b, off + i * 3, none⟩ = some (.int .i64 (way i)) ∧ w.cell? ⟨b, off + i * 3 + 1, none⟩ = some (.int .i64 (num i)) ∧ w.cell? ⟨b, off + i * 3 + 2, none⟩ = some (.string (tx (st i)))
theorem ItR.below {w w' : World} {A : Option Addr} {n : Nat} {way num : Nat → Int} {st : Nat → Tx} {B : Nat} (h : ItR w A n way num st B) (hb : Below B w w') : ItR w' A n way num st B := by
  intro hn
  obtain ⟨b, off, e, hB, hc⟩ := h hn
  refine ⟨b, off, e, hB, fun i hi => ?_⟩
  obtain ⟨h1, h2, h3⟩ := hc i hi
  exact ⟨(hb.cell (p := ⟨b, off + i * 3, none⟩) hB).trans h1, (hb.cell (p := ⟨b, off + i * 3 + 1, none⟩) hB).trans h2, (hb.cell (p := ⟨b, off + i * 3 + 2, none⟩) hB).trans h3⟩
/-- two Readers, with the same left -/
structure Two6 (w0 w : World) (g g' : Nat) (s : Cd.St) (G G' : Nat → Prop) : Prop where
  r : Rr w g s G
  f : Rf w g' s G'
  ne : g ≠ g'
  ng : ¬ G g'
  nf : ¬ G' g
  lo : w0.heap.size ≤ g
  lo' : w0.heap.size ≤ g'
  bel : Below w0.heap.size w0 w
theorem Two6.step {w0 w w1 w2 : World} {g g' : Nat} {s s' : Cd.St} {G G' : Nat → Prop} (h : Two6 w0 w g g' s G G') (hr : Rr w1 g s' G) (hk : Kp (· = g) w w1) (hf : Rf w2 g' s' G') (hk' : Kp (· = g') w1 w2) : Two6 w0 w2 g g' s' G G' :=
  ⟨hr.kp hk' h.ne (fun b hb e => h.ng (e ▸ hb)), hf, h.ne, h.ng, h.nf, h.lo, h.lo',
    h.bel.trans ((hk.below (B := w0.heap.size) (Nat.le_trans h.bel.size (Nat.le_refl _)) (fun k hk => by subst hk; exact h.lo)).trans (hk'.below (B := w0.heap.size) (Nat.le_trans h.bel.size hk.size) (fun k hk => by subst hk; exact h.lo')))⟩
theorem Two6.mid {w0 w w1 : World} {g g' : Nat} {s : Cd.St} {G G' : Nat → Prop} (h : Two6 w0 w g g' s G G') (hk : Kp (· = g) w w1) : Rf w1 g' s G' :=
  h.f.kp hk (fun e => h.ne e.symm) (fun _ hb e => h.nf (e ▸ hb))
set_option maxRecDepth 100000 in
theorem reads_any (A AI : Option Addr) (l : Tx) (c n cI : Nat) (way num : Nat → Int) (st : Nat → Tx) (G : Nat → Prop) (w : World) (hA : A = none → l.length = 0 ∧ c = 0) (hc : l.length ≤ c) (hc' : c ≤ maxLen) (hr : RdL w A l G) (hl : l.length ≤ 1000000) (hi : ItR w AI n way num st w.heap.size) (hn : n ≤ 1000) :
    Calls Try.prog 14 #[.slice A l.length c, .slice AI n cI] w fun e w' => e = .returned (.bool true) ∧ Below w.heap.size w w' := by
  have HA := Lib.hid hA
  have HI := Lib.hid hi
  have HR := Lib.hid hr
  clear hA hi hr
  go_enter Try.func14, Try.ntmps14
  go_wp2_with (first
    | (at_builtin; refine wpList_append_bl _ rfl _ _ rfl w.heap.size _ [] rfl (OwnL.nil w _) A l.length c l G rfl rfl HA.out HR.out (by simp; omega) (Nat.le_refl _) ?_; intro v' w1 hv hg; have hB1 : Below w.heap.size w w1 := (Below.refl _ _).grown hg (Nat.le_refl _) (fun k h => by cases h); obtain ⟨A1, C1, rfl, -, -, h2, h3⟩ := OwnL.rd (l := l) hv; have H2 := Lib.hid h2; have H3 := Lib.hid h3; have HB1 := Lib.hid hB1; clear h2 h3 hB1 hv hg)
    | (go_at_call 15; refine (newReader_any A1 l C1 _ w1 H2.out H3.out (by omega)).mono ?_; rintro e w2 ⟨g, rfl, hg1, hg2, hg3⟩; have HG1 := Lib.hid hg1; have HG2 := Lib.hid hg2; have HB2 := Lib.hid (HB1.out.trans (hg3.mono HB1.out.size)); clear hg1 hg2 hg3)
    | (go_at_call 21; refine (refNewReader_any A l c (· < w.heap.size) w2 HA.out hc hc' ((HR.out.in_.old HB2.out).mono fun b h => h.2) (fun h => by have := HB2.out.size; omega)).mono ?_; rintro e w3 ⟨rfl, hf1, hf2⟩; have HF1 := Lib.hid hf1; have HF2 := Lib.hid hf2; clear hf1 hf2))
  obtain ⟨g', hg'⟩ : ∃ g', g' = w2.heap.size := ⟨_, rfl⟩
  have H0 : Hid (Two6 w w3 g g' (l, false) (fun b => w1.heap.size ≤ b ∧ b < g) (· < w.heap.size)) := Lib.hid (by
    have hlt := HG2.out.lt
    have h1 := HB1.out.size
    have h2 := HB2.out.size
    have h3 := HG1.out
    subst hg'
    refine ⟨HG2.out.kp (S := fun _ => False) (Kp.of_below HF2.out) (fun h => h) (fun _ _ h => h), HF1.out, by omega, fun h => by omega, fun h => by omega, by omega, by omega, HB2.out.trans (HF2.out.mono h2)⟩)
  rw [← hg']
  clear hg' HF1 HG2
  go_loopw [7] (fun vi wr => ∃ (k : Nat) (s : Cd.St), k ≤ n ∧ vi = .int .i64 (k : Int) ∧ Hid (Two6 w wr g g' s (fun b => w1.heap.size ≤ b ∧ b < g) (· < w.heap.size)) ∧ Hid (s.1.length ≤ l.length)) (fun vi _ => n - (intOf vi).toNat)
  case atStart => exact ⟨0, (l, false), Nat.zero_le _, rfl, H0, Lib.hid (Nat.le_refl _)⟩
  case round =>
    obtain ⟨k, s, hk, rfl, HT, HL⟩ := hrel
    by_cases hlt : k < n
    · obtain ⟨b, off, rfl, hb, hcs⟩ := (HI.out.below HT.out.bel) (by omega)
      obtain ⟨hw, -, -⟩ := hcs k hlt
      clear hcs
      have hll : s.1.length ≤ 1000000000 := Nat.le_trans HL.out (by omega)
      obtain ⟨y, hy⟩ : ∃ y, y = way k := ⟨_, rfl⟩
      rw [← hy] at hw
      clear hy
      by_cases h0 : y = 0
      · subst h0
        go_wp2_with (first
          | (go_at_call 17; refine (rint_any g s _ wr HT.out.r hll).mono ?_; rintro e v1 ⟨rfl, hR1, hK1⟩; have hF1 := HT.out.mid hK1; have HR1 := Lib.hid hR1; have HK1 := Lib.hid hK1; have HF1 := Lib.hid hF1; clear hR1 hK1 hF1)
          | (go_at_call 22; refine (refInt_any g' s _ v1 HF1.out).mono ?_; rintro e v2 ⟨rfl, hF2, hK2⟩; have hT := HT.out.step HR1.out HK1.out hF2 hK2; have hw2 : v2.cell? ⟨b, off + k * 3, none⟩ = _ := (((HK1.out.below (B := w.heap.size) HT.out.bel.size (fun x hx => by subst hx; exact HT.out.lo)).trans (hK2.below (B := w.heap.size) (Nat.le_trans HT.out.bel.size HK1.out.size) (fun x hx => by subst hx; exact HT.out.lo'))).cell (p := ⟨b, off + k * 3, none⟩) hb).trans hw; have HT2 := Lib.hid hT; clear hT hF2 hK2)
          | (go_at_call 18; refine (left_any g _ _ _ HT2.out.r).mono ?_; rintro e _ ⟨rfl, rfl⟩)
          | (go_at_call 26; refine (refLeft_any g' _ _ _ HT2.out.f).mono ?_; rintro e _ ⟨rfl, rfl⟩)
          | (go_at_call 19; refine (bad_any g _ _ _ HT2.out.r).mono ?_; rintro e _ ⟨rfl, rfl⟩)
          | (go_at_call 27; refine (refBad_any g' _ _ _ HT2.out.f).mono ?_; rintro e _ ⟨rfl, rfl⟩))
        go_roundw
        case rel => exact ⟨k + 1, Cd.af 4 s, by omega, by go_num, HT2, Lib.hid (Nat.le_trans (Cd.af_le 4 s) HL.out)⟩
        case measure => simp [intOf]; omega
      by_cases h1 : y = 1
      · subst h1
        go_wp2_with (first
          | (go_at_call 23; refine (rbyte_any g s _ wr HT.out.r hll).mono ?_; rintro e v1 ⟨rfl, hR1, hK1⟩; have hF1 := HT.out.mid hK1; have HR1 := Lib.hid hR1; have HK1 := Lib.hid hK1; have HF1 := Lib.hid hF1; clear hR1 hK1 hF1)
          | (go_at_call 24; refine (refByte_any g' s _ v1 HF1.out).mono ?_; rintro e v2 ⟨rfl, hF2, hK2⟩; have hT := HT.out.step HR1.out HK1.out hF2 hK2; have hw2 : v2.cell? ⟨b, off + k * 3, none⟩ = _ := (((HK1.out.below (B := w.heap.size) HT.out.bel.size (fun x hx => by subst hx; exact HT.out.lo)).trans (hK2.below (B := w.heap.size) (Nat.le_trans HT.out.bel.size HK1.out.size) (fun x hx => by subst hx; exact HT.out.lo'))).cell (p := ⟨b, off + k * 3, none⟩) hb).trans hw; have HT2 := Lib.hid hT; clear hT hF2 hK2)
          | (go_at_call 18; refine (left_any g _ _ _ HT2.out.r).mono ?_; rintro e _ ⟨rfl, rfl⟩)
          | (go_at_call 26; refine (refLeft_any g' _ _ _ HT2.out.f).mono ?_; rintro e _ ⟨rfl, rfl⟩)
          | (go_at_call 19; refine (bad_any g _ _ _ HT2.out.r).mono ?_; rintro e _ ⟨rfl, rfl⟩)
          | (go_at_call 27; refine (refBad_any g' _ _ _ HT2.out.f).mono ?_; rintro e _ ⟨rfl, rfl⟩))
        go_roundw
        case rel => exact ⟨k + 1, Cd.af 1 s, by omega, by go_num, HT2, Lib.hid (Nat.le_trans (Cd.af_le 1 s) HL.out)⟩
        case measure => simp [intOf]; omega
      by_cases h2 : y = 2
      · subst h2
        go_wp2_with (first
          | (go_at_call 16; refine (rtext_any g s _ wr HT.out.r hll).mono ?_; rintro e v1 ⟨rfl, hR1, hK1⟩; have hF1 := HT.out.mid hK1; have HR1 := Lib.hid hR1; have HK1 := Lib.hid hK1; have HF1 := Lib.hid hF1; clear hR1 hK1 hF1)
          | (go_at_call 25; refine (refText_any g' s _ v1 HF1.out).mono ?_; rintro e v2 ⟨rfl, hF2, hK2⟩; have hT := HT.out.step HR1.out HK1.out hF2 hK2; have hw2 : v2.cell? ⟨b, off + k * 3, none⟩ = _ := (((HK1.out.below (B := w.heap.size) HT.out.bel.size (fun x hx => by subst hx; exact HT.out.lo)).trans (hK2.below (B := w.heap.size) (Nat.le_trans HT.out.bel.size HK1.out.size) (fun x hx => by subst hx; exact HT.out.lo'))).cell (p := ⟨b, off + k * 3, none⟩) hb).trans hw; have HT2 := Lib.hid hT; clear hT hF2 hK2)
          | (go_at_call 18; refine (left_any g _ _ _ HT2.out.r).mono ?_; rintro e _ ⟨rfl, rfl⟩)
          | (go_at_call 26; refine (refLeft_any g' _ _ _ HT2.out.f).mono ?_; rintro e _ ⟨rfl, rfl⟩)
          | (go_at_call 19; refine (bad_any g _ _ _ HT2.out.r).mono ?_; rintro e _ ⟨rfl, rfl⟩)
          | (go_at_call 27; refine (refBad_any g' _ _ _ HT2.out.f).mono ?_; rintro e _ ⟨rfl, rfl⟩))
        go_roundw
        case rel => exact ⟨k + 1, Cd.afT s, by omega, by go_num, HT2, Lib.hid (Nat.le_trans (Nat.le_trans (Cd.af_le _ _) (Cd.af_le 1 s)) HL.out)⟩
        case measure => simp [intOf]; omega
      have q0 : (y == 0) = false := beq_eq_false_iff_ne.2 h0
      have q1 : (y == 1) = false := beq_eq_false_iff_ne.2 h1
      have q2 : (y == 2) = false := beq_eq_false_iff_ne.2 h2
      go_wp2_with (first
          | (go_at_call 18; refine (left_any g _ _ _ HT.out.r).mono ?_; rintro e _ ⟨rfl, rfl⟩)
          | (go_at_call 26; refine (refLeft_any g' _ _ _ HT.out.f).mono ?_; rintro e _ ⟨rfl, rfl⟩)
          | (go_at_call 19; refine (bad_any g _ _ _ HT.out.r).mono ?_; rintro e _ ⟨rfl, rfl⟩)
          | (go_at_call 27; refine (refBad_any g' _ _ _ HT.out.f).mono ?_; rintro e _ ⟨rfl, rfl⟩))
      go_roundw
      case rel => exact ⟨k + 1, s, by omega, by go_num, HT, HL⟩
      case measure => simp [intOf]; omega
    · go_wp2
      go_ret
      exact ⟨rfl, HT.out.bel⟩
end Go.Proofs.Ytnblebgoajhaiaa
