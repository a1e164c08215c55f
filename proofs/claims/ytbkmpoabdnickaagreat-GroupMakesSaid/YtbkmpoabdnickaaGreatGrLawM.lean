/- The law GroupMakes answers true: which parity tapes any tapes have, or why none. -/
import Derived.Test.YtbkmpoabdnickaaGreatMay
import Derived.Test.YtbkmpoabdnickaaGreatRefGrMk
import Derived.Test.YtbkmpoabdnickaaGreatMbe
import Derived.Test.YtbkmpoabdnickaaGreatMbf
import Derived.Deep.DeepFit
namespace Go.Proofs.YtbkmpoabdnickaaGreat
open Go.RowKit
open Pt (Tx)

/-- the parity tapes, or none -/
noncomputable def Gr.res (data blank : List St.T) (number : Int) : List St.T := if Gr.mkE data blank number = 0 then Gr.made data blank number else []
theorem MakeA.res {data blank : List St.T} {number : Int} {w w' : World} {e : Ending} (h : MakeA data blank number w e w') :
    ∃ A n C, e = .returned (.tuple #[.slice A n C, .int .i64 (Gr.mkE data blank number)]) ∧ n = (Gr.res data blank number).length ∧ RdT w' A (Gr.res data blank number) (fun _ => True) ∧ Below w.heap.size w w' := by
  unfold MakeA at h
  unfold Gr.res
  by_cases h0 : Gr.mkE data blank number = 0
  · rw [if_pos h0] at h ⊢
    obtain ⟨A, C, rfl, -, -, -, hr, hb⟩ := h
    exact ⟨A, _, C, by rw [h0], (Gr.made_len _ _ _).symm, hr.mono fun _ _ => trivial, hb⟩
  · rw [if_neg h0] at h ⊢
    obtain ⟨rfl, hb⟩ := h
    exact ⟨none, 0, 0, rfl, rfl, RdT.empty _ _ _, hb⟩
theorem MakeS.res {data blank : List St.T} {number : Int} {w w' : World} {e : Ending} (h : MakeS data blank number w e w') :
    ∃ A n C, e = .returned (.tuple #[.slice A n C, .int .i64 (Gr.mkE data blank number)]) ∧ n = (Gr.res data blank number).length ∧ RdT w' A (Gr.res data blank number) (fun _ => True) ∧ Below w.heap.size w w' := by
  unfold MakeS at h
  unfold Gr.res
  by_cases h0 : Gr.mkE data blank number = 0
  · rw [if_pos h0] at h ⊢
    obtain ⟨v, tvs, L, rfl, ho, hr, hb⟩ := h
    obtain ⟨A, C, rfl, -, -, -, hrd⟩ := ho.rd
    exact ⟨A, _, C, by rw [h0], hr.len, hr.rdT (hrd.mono fun _ _ => trivial) (fun _ _ => trivial), hb⟩
  · rw [if_neg h0] at h ⊢
    obtain ⟨rfl, hb⟩ := h
    exact ⟨none, 0, 0, rfl, rfl, RdT.empty _ _ _, hb⟩
theorem Gr.res_sizes {data blank : List St.T} {number : Int} (h : St.len data ≤ 1000) : ∀ t ∈ Gr.res data blank number, t.blocks.length ≤ 1000000 := fun t ht => by
  unfold Gr.res at ht
  split at ht
  · exact (made_sizes h t ht).1
  · cases ht
theorem Gr.res_len (data blank : List St.T) (number : Int) : (Gr.res data blank number).length ≤ blank.length := by
  unfold Gr.res
  split
  · rw [Gr.made_len]; exact Nat.le_refl _
  · exact Nat.zero_le _
set_option maxRecDepth 100000 in
set_option maxHeartbeats 8000000 in
theorem groupMakes_few (A1 : Option Addr) (data : List St.T) (C1 : Nat) (A2 : Option Addr) (blank : List St.T) (C2 : Nat) (G : Nat → Prop) (number : Int) (w : World) (hn1 : A1 = none → data.length = 0 ∧ C1 = 0) (hn2 : A2 = none → blank.length = 0 ∧ C2 = 0) (hf1 : St.few data = true) (hf2 : St.few blank = true) (hr1 : RdT w A1 data G) (hr2 : RdT w A2 blank G) :
    Calls Tryz.prog 3 #[.slice A1 data.length C1, .slice A2 blank.length C2, .int .i64 number] w (AnsB true w) := by
  have H1 := Lib.hid hr1
  have H2 := Lib.hid hr2
  have h14 := (St.few_of hf1).1
  have h14' := (St.few_of hf2).1
  have HL : Hid (∀ t ∈ data, t.blocks.length ≤ 1000 ∧ ∀ s ∈ t.blocks, s.length ≤ 1000) := Lib.hid fun t ht => by
    have h := Tp.few_of ((St.few_of hf1).2.1 t ht)
    exact ⟨by have := h.1; omega, fun s hs => by have := h.2 s hs; omega⟩
  have HS : Hid (∀ t ∈ Gr.res data blank number, t.blocks.length ≤ 1000000) := Lib.hid (Gr.res_sizes (Nat.le_trans (St.few_len hf1) (by decide)))
  have HRL := Lib.hid (Gr.res_len data blank number)
  have HF1 := Lib.hid hf1
  have HF2 := Lib.hid hf2
  have HN1 := Lib.hid hn1
  have HN2 := Lib.hid hn2
  obtain ⟨R, hR⟩ : ∃ R, R = Gr.res data blank number := ⟨_, rfl⟩
  obtain ⟨er, her⟩ : ∃ er, er = Gr.mkE data blank number := ⟨_, rfl⟩
  have HA : Hid (∀ y, Below w.heap.size w y → Calls Tryz.prog 7 #[.slice A1 data.length C1, .slice A2 blank.length C2, .int .i64 number] y fun e y' => ∃ A n C, e = .returned (.tuple #[.slice A n C, .int .i64 er]) ∧ n = R.length ∧ RdT y' A R (fun _ => True) ∧ Below y.heap.size y y') := Lib.hid fun y hy => by
    have h := make_any A1 data C1 A2 blank C2 G number y (by omega) (by omega) hn1 hn2 (fun t ht => ⟨by have := (HL.out t ht).1; omega, fun s hs => by have := (HL.out t ht).2 s hs; omega⟩) (hr1.old hy) (hr2.old hy)
    rw [hR, her]
    exact h.mono fun e y' hh => hh.res
  have HB : Hid (∀ y, Below w.heap.size w y → Calls Tryz.prog 8 #[.slice A1 data.length C1, .slice A2 blank.length C2, .int .i64 number] y fun e y' => ∃ A n C, e = .returned (.tuple #[.slice A n C, .int .i64 er]) ∧ n = R.length ∧ RdT y' A R (fun _ => True) ∧ Below y.heap.size y y') := Lib.hid fun y hy => by
    have h := refMake_walk A1 data C1 A2 blank C2 G number data.length blank.length y rfl rfl (by omega) (by omega) HL.out (hr1.old hy) (hr2.old hy)
    rw [hR, her]
    exact h.mono fun e y' hh => hh.res
  rw [← hR] at HS HRL
  clear hr1 hr2 hf1 hf2 hn1 hn2 hR her HL
  go_enter Tryz.func3, Tryz.ntmps3
  go_wp2_with fail
  refine (alive14_true _).mono ?_
  rintro e w1 ⟨rfl, hb1⟩
  have HB1 := Lib.hid hb1
  clear hb1
  go_wp2_with fail
  refine (few13_any A1 data C1 _ w1 (by unfold maxLen; omega) (H1.out.old HB1.out)).mono ?_
  rw [HF1.out]
  rintro e w2 ⟨rfl, hb2⟩
  have HB2 := Lib.hid (HB1.out.trans (hb2.mono HB1.out.size))
  clear hb2
  go_wp2_with fail
  refine (few13_any A2 blank C2 _ w2 (by unfold maxLen; omega) (H2.out.old HB2.out)).mono ?_
  rw [HF2.out]
  rintro e w3 ⟨rfl, hb3⟩
  have HB3 := Lib.hid (HB2.out.trans (hb3.mono HB2.out.size))
  clear hb3
  go_wp2_with fail
  refine (HA.out w3 HB3.out).mono ?_
  rintro e w4 ⟨A4, n4, C4, rfl, hn4, hr4, hb4⟩
  have HB4 := Lib.hid (HB3.out.trans (hb4.mono HB3.out.size))
  have HR4 := Lib.hid hr4
  have HN4 := Lib.hid hn4
  clear hb4 hr4 hn4
  go_wp2_with fail
  refine (HB.out w4 HB4.out).mono ?_
  rintro e w5 ⟨A5, n5, C5, rfl, hn5, hr5, hb5⟩
  have HB5 := Lib.hid (HB4.out.trans (hb5.mono HB4.out.size))
  have HR5 := Lib.hid hr5
  have HR45 := Lib.hid (HR4.out.old hb5)
  have hnn : n5 = n4 := by rw [hn5, HN4.out]
  clear hb5 hr5 hn5
  subst hnn
  have HC := Lib.hid (sameTapes_yes A4 C4 R _ A5 C5 _ n5 w5 HN4.out.symm (by rw [HN4.out]; have := HRL.out; omega) HS.out HR45.out HR5.out)
  have q3 : (er == er) = true := by simp
  go_wp2_with fail
  refine HC.out.mono ?_
  rintro e w6 ⟨rfl, hb6⟩
  have HB6 := Lib.hid (HB5.out.trans (hb6.mono HB5.out.size))
  clear hb6
  go_wp2_with fail
  refine (num14 er w6).mono ?_
  rintro e w7 ⟨rfl, hw⟩
  subst hw
  go_wp2
  go_ret
  exact ⟨rfl, HB6.out⟩
theorem groupMakes_walk (A1 : Option Addr) (data : List St.T) (C1 : Nat) (A2 : Option Addr) (blank : List St.T) (C2 : Nat) (G : Nat → Prop) (number : Int) (w : World) (hl1 : data.length ≤ maxLen) (hl2 : blank.length ≤ maxLen) (hn1 : A1 = none → data.length = 0 ∧ C1 = 0) (hn2 : A2 = none → blank.length = 0 ∧ C2 = 0) (hr1 : RdT w A1 data G) (hr2 : RdT w A2 blank G) :
    Calls Tryz.prog 3 #[.slice A1 data.length C1, .slice A2 blank.length C2, .int .i64 number] w (AnsB true w) := by
  cases hf1 : St.few data with
  | false =>
    have H1 := Lib.hid hr1
    have HF := Lib.hid hf1
    clear hr1 hr2 hf1 hn1 hn2
    go_enter Tryz.func3, Tryz.ntmps3
    go_wp2_with fail
    refine (alive14_true _).mono ?_
    rintro e w1 ⟨rfl, hb1⟩
    have HB1 := Lib.hid hb1
    clear hb1
    go_wp2_with fail
    refine (few13_any A1 data C1 _ w1 hl1 (H1.out.old HB1.out)).mono ?_
    rw [HF.out]
    rintro e w2 ⟨rfl, hb2⟩
    have HB2 := Lib.hid (HB1.out.trans (hb2.mono HB1.out.size))
    clear hb2
    go_wp2
    go_ret
    exact ⟨rfl, HB2.out⟩
  | true =>
    cases hf2 : St.few blank with
    | true => exact groupMakes_few A1 data C1 A2 blank C2 G number w hn1 hn2 hf1 hf2 hr1 hr2
    | false =>
      have H1 := Lib.hid hr1
      have H2 := Lib.hid hr2
      have HF1 := Lib.hid hf1
      have HF2 := Lib.hid hf2
      clear hr1 hr2 hf1 hf2 hn1 hn2
      go_enter Tryz.func3, Tryz.ntmps3
      go_wp2_with fail
      refine (alive14_true _).mono ?_
      rintro e w1 ⟨rfl, hb1⟩
      have HB1 := Lib.hid hb1
      clear hb1
      go_wp2_with fail
      refine (few13_any A1 data C1 _ w1 hl1 (H1.out.old HB1.out)).mono ?_
      rw [HF1.out]
      rintro e w2 ⟨rfl, hb2⟩
      have HB2 := Lib.hid (HB1.out.trans (hb2.mono HB1.out.size))
      clear hb2
      go_wp2_with fail
      refine (few13_any A2 blank C2 _ w2 hl2 (H2.out.old HB2.out)).mono ?_
      rw [HF2.out]
      rintro e w3 ⟨rfl, hb3⟩
      have HB3 := Lib.hid (HB2.out.trans (hb3.mono HB2.out.size))
      clear hb3
      go_wp2
      go_ret
      exact ⟨rfl, HB3.out⟩
end Go.Proofs.YtbkmpoabdnickaaGreat
