/- The example of chapter 3 holds, and what Decode answers of rows that one Encode made, some of them missing. -/
import Derived.Test.YtelkeoopfejgnaaErEnc
import Derived.Test.YtelkeoopfejgnaaErDecode
import Derived.Test.YtelkeoopfejgnaaRefEnc
import Derived.Test.YtelkeoopfejgnaaRefDec
import Derived.Test.YtelkeoopfejgnaaRefSame
import Derived.Test.YtelkeoopfejgnaaLawFew
import Derived.Lib.SlBytesConst
namespace Go.Proofs.Ytelkeoopfejgnaa
open Go.RowKit Mx

theorem num3_any (z : Int) (w : World) : Calls Try.prog 13 #[.int .i64 z] w fun e w' => e = .returned (.int .i64 z) ∧ w = w' := by
  go_enter Try.func13, Try.ntmps13
  go_wp2
  go_ret
  exact ⟨rfl, rfl⟩
/-- the data, and below it its parity -/
def encD (d p : Nat) (D : Mat) : Mat := fun x c => if x < d then D x c else par d p D (x - d) c
theorem mv_encM (d p : Nat) (at_ : Nat → Nat) (D : Mat) (c t : Nat) : mv d (encM d p at_) (fun x => D x c) t = encD d p D (at_ t) c := by
  unfold encD
  by_cases h : at_ t < d
  · rw [if_pos h, ← mv_one h (fun x => D x c)]
    exact sm_congr fun k _ => by
      show (if at_ t < d then one (at_ t) k else cau p (at_ t - d) k) * _ = _
      rw [if_pos h]
  · rw [if_neg h]
    exact sm_congr fun k _ => by
      show (if at_ t < d then one (at_ t) k else cau p (at_ t - d) k) * _ = _
      rw [if_neg h]
theorem ResM.congr {code : Int} {n m : Nat} {M M' : Mat} {w : World} {e : Ending} {w' : World} (h : ResM code n m M w e w') (he : ∀ i, i < n → ∀ j, j < m → M i j = M' i j) : ResM code n m M' w e w' := by
  obtain ⟨A, C, h1, h2, h3⟩ := h
  exact ⟨A, C, h1, h2.congr (fun _ _ => rfl) he, h3⟩
/-- what is there is of one Encode: too few, or the data -/
theorem DecAny.tells {d p m : Nat} {L : Nat → Nat} {D H : Mat} (hd0 : 0 < d) (hdp : d + p ≤ 255) (hL : ∀ x, x < d + p → L x = 0 ∨ L x = m) (hH : ∀ x, x < d + p → 0 < L x → ∀ c, c < m → H x c = encD d p D x c)
    {w : World} {e : Ending} {w' : World} (h : DecAny (d + p) L H (d : Int) w e w') :
    if plsN (there L) (d + p) = 0 then ResM 1 0 0 one w e w' else if plsN (there L) (d + p) < d then ResM 10 0 0 one w e w' else ResM 0 d m D w e w' := by
  have hin : ∀ j, j < plsN (there L) (d + p) → plsAt (there L) (d + p) j < d + p ∧ L (plsAt (there L) (d + p) j) = m := fun j hj => by
    obtain ⟨h1, h2⟩ := plsAt_in hj
    refine ⟨h1, ?_⟩
    have := there_true.1 h2
    rcases hL _ h1 with h3 | h3
    · omega
    · exact h3
  unfold DecAny at h
  by_cases h0 : plsN (there L) (d + p) = 0
  · rw [if_pos h0]
    rw [if_neg (fun hh => by have := hh.2.2.2.1; omega)] at h
    exact h
  · rw [if_neg h0]
    rw [if_pos ⟨by omega, by omega, hdp, by omega, fun j hj => by rw [(hin j hj).2, (hin 0 (by omega)).2]⟩, Int.toNat_natCast] at h
    by_cases h1 : plsN (there L) (d + p) < d
    · rw [if_pos h1] at h ⊢; exact h
    · rw [if_neg h1] at h ⊢
      rw [(hin 0 (by omega)).2, Nat.add_sub_cancel_left] at h
      refine h.congr fun x hx c hc => ?_
      refine dec_back hdp (fun s t hs ht => plsAt_up hs (by omega)) (fun t ht => (hin t (by omega)).1) D _ (fun t ht => ?_) hx
      have ht' := hin t (by omega)
      rw [mv_encM]
      exact hH _ ht'.1 (there_true.1 (plsAt_in (show t < plsN (there L) (d + p) by omega)).2) c hc
/-! ### The example -/
def exAB : Mat := fun _ j => if j = 0 then el 97 else el 98
theorem par_exAB (c : Nat) : par 1 1 exAB 0 c = exAB 0 c := by
  show (0 : Fe) + cau 1 0 0 * exAB 0 c = _
  rw [show cau 1 0 0 = 1 by decide +kernel, one_mul, zero_add]
theorem str_exAB : strOf 2 (exAB 0) = ⟨#[97, 98]⟩ := by decide +kernel
theorem cell_new_z (w : World) (c : Array Value) (t : TypeId) (z : Nat × Nat) (s i : Nat) (hs : s = w.heap.size) : (w.alloc (.cells c t z)).cell? ⟨s, i, none⟩ = c[i]? := by
  subst hs; exact cell_of_row _ _ _ _ _ z (heap_alloc_new w _)
theorem lit_ab (w : World) : RdM ((w.alloc (.cells #[.int .u8 97, .int .u8 98] 5 (2, 3))).alloc (.cells #[.slice (some ⟨w.heap.size, 0, none⟩) 2 2] 34)) (some ⟨w.heap.size + 1, 0, none⟩) 1 (fun _ => 2) exAB (fun _ => True) := by
  intro _
  refine ⟨w.heap.size + 1, 0, rfl, trivial, fun i hi => ⟨some ⟨w.heap.size, 0, none⟩, 2, ?_, fun _ => ⟨w.heap.size, 0, rfl, trivial, fun j hj => ?_⟩⟩⟩
  · rw [show i = 0 by omega, cell_new _ _ _ _ _ (by simp)]; rfl
  · have hj' : j < 2 := hj
    rw [cell_past _ _ _ _ (by simp), cell_new_z _ _ _ _ _ _ rfl]
    rcases (show j = 0 ∨ j = 1 by omega) with rfl | rfl <;> rfl
theorem lit_nil (w : World) (g C : Nat) (f : Nat → Fe) (h : RowAt w g 2 f) : RdM (w.alloc (.cells #[.slice none 0 0, .slice (some ⟨g, 0, none⟩) 2 C] 34)) (some ⟨w.heap.size, 0, none⟩) 2 (fun i => if i = 0 then 0 else 2) (fun _ => f) (fun _ => True) := by
  intro _
  refine ⟨w.heap.size, 0, rfl, trivial, fun i hi => ?_⟩
  rcases (show i = 0 ∨ i = 1 by omega) with rfl | rfl
  · exact ⟨none, 0, by rw [cell_new _ _ _ _ _ rfl]; rfl, Rd.empty _ _ _ _⟩
  · exact ⟨some ⟨g, 0, none⟩, C, by rw [cell_new _ _ _ _ _ rfl]; rfl, (h.rd (fun _ => True) trivial).old ((Below.refl _ _).alloc (Nat.le_refl _) _)⟩
set_option maxRecDepth 100000 in
set_option maxHeartbeats 2000000 in
theorem alive3_true (w : World) : Calls Try.prog 6 #[] w fun e w' => e = .returned (.bool true) ∧ Below w.heap.size w w' := by
  have kc := fun (w : World) (C : Array Value) (n c : Nat) => Lib.run_convert_bytes_const (P := Try.prog) w 34 5 C n c Try.underlying34 Try.underlying5
  go_enter Try.func6, Try.ntmps6
  go_wp2_with fail
  refine (encode_main _ 1 1 (fun _ => 2) exAB _ 1 _ (by omega) (by omega) (by omega) (fun _ _ => rfl) (by omega) (lit_ab w)).mono ?_
  rintro e w1 ⟨b, G, C, rfl, hb, hO, hB⟩
  clear kc
  have HB : Hid (Below w.heap.size w w1) := Lib.hid ((((Below.refl w.heap.size w).alloc (Nat.le_refl _) _).alloc (by simp) _).trans (hB.mono (by simp; omega)))
  have hc := hO.top.cell (j := 0) (by omega)
  rw [if_pos (by omega)] at hc
  have HR := Lib.hid ((hO.rows 0 (by omega)).congr (f' := exAB 0) fun c _ => par_exAB c)
  clear hO hB hb
  go_wp2_with (first
    | (go_at_call 13; refine (num3_any _ _).mono ?_; rintro e w' ⟨rfl, rfl⟩))
  go_wp2_with fail
  refine (decode_in _ 2 2 (fun i => if i = 0 then 0 else 2) (fun _ => exAB 0) _ 1 _ (by omega) (by omega) (by omega) (fun i _ => by split <;> omega) (lit_nil w1 (G 0) (C 0) _ HR.out)).mono ?_
  intro e w2 hres
  have hres2 := DecAny.tells (d := 1) (p := 1) (m := 2) (D := exAB) (by omega) (by omega) (fun x _ => by by_cases e : x = 0 <;> simp [e]) (fun x hx h0 c hc => by
    have hx1 : x = 1 := by
      rcases (show x = 0 ∨ x = 1 by omega) with rfl | rfl
      · simp at h0
      · rfl
    rw [hx1]
    unfold encD
    rw [if_neg (by omega)]
    exact (par_exAB c).symm) hres
  rw [show plsN (there fun i => if i = 0 then 0 else 2) (1 + 1) = 1 by decide +kernel, if_neg (by omega), if_neg (by omega)] at hres2
  obtain ⟨A2, C2, rfl, hr2, hB2⟩ := hres2
  have HB2 : Hid (Below w.heap.size w w2) := Lib.hid ((HB.out.alloc HB.out.size _).trans (hB2.mono (by have := HB.out.size; simp; omega)))
  obtain ⟨b3, off3, A3, C3, rfl, _, d1, hr3⟩ := hr2.row (i := 0) (by omega)
  rw [Nat.add_zero] at d1
  have s1 := str_run hr3 C3
  rw [str_exAB] at s1
  clear hr2 hB2 hr3 hres HR
  go_wp2_with (first
    | (go_at_call 13; refine (num3_any _ _).mono ?_; rintro e w' ⟨rfl, rfl⟩))
  go_ret
  exact ⟨rfl, HB2.out⟩
end Go.Proofs.Ytelkeoopfejgnaa
