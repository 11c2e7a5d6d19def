/- Own texts, joined: A18. -/
import Derived.Test.YtjjoffadieoaaaaGreatDoorB25
namespace Go.Proofs.YtjjoffadieoaaaaGreatDoor
open Go.RowKit

theorem shown_text {l : List AM} (h : rightA l = true) : ∃ X : ByteArray, bstr (showA l).1 = .string X ∧ (showA l).2 = 0 ∧ X.size ≤ 9223372036854775807 ∧ parseA X.data.toList = (l, 0) := by
  obtain ⟨X, hX, hXl⟩ := bstr_some (showA l).1
  refine ⟨X, hX, (backA h).2, ?_, by rw [hXl]; exact (backA h).1⟩
  have h' := h
  unfold rightA at h'
  simp only [Bool.and_eq_true, decide_eq_true_eq] at h'
  obtain ⟨⟨_, h8⟩, hall⟩ := h'
  have e : (showA l).1 = Lib.join (l.map textA) [59] := by unfold showA; rw [if_pos h]
  have hj := join_len (l.map textA) (by intro t ht; obtain ⟨a, ha, rfl⟩ := List.mem_map.1 ht; exact textA_len (List.all_eq_true.1 hall a ha))
  rw [List.length_map] at hj
  rw [Lib.size_eq, hXl, e]
  omega

set_option maxRecDepth 100000 in
set_option maxHeartbeats 8000000 in
theorem actsBack_law (vl : Value) (ps : List AP) (s : ByteArray) (w : World) (hA : RdA w vl ps) (hpl : ps.length * 48 ≤ 140737488355328) (hs : s.size ≤ 9223372036854775807) (hO : Ops w) (hL : Laid w) (hM : ML w) :
    Calls Tryz.prog 5 #[vl, .string s] w fun e w' => e = .returned (.bool true) ∧ Below w.heap.size w w' := by
  have HWK := Lib.hid (wakes6_any w hO hM)
  have HAW : Hid (∀ W, Below w.heap.size w W → RdA W vl ps) := fun W hb => hA.below hb
  have HCP : Hid (∀ W, Below w.heap.size w W → Calls Tryz.prog 10 #[vl] W (CopyPost ps W)) := fun W hb => copied6_any vl ps W (hA.below hb) hpl
  have HSHW : Hid (∀ W v (qs : List AP), Below w.heap.size w W → RdA W v qs → qs.length ≤ 4611686018427387904 → Calls Tryz.prog 9 #[v] W (ShowAPost (qs.map Prod.fst) W)) := fun W v qs hb h h2 => aShow_any v qs W h h2 (hO.below hb) (hL.below hb)
  have HPA : Hid (∀ W (X : ByteArray), Below w.heap.size w W → X.size ≤ 9223372036854775807 → Calls Tryz.prog 15 #[.string X] W (ParsedPost (parseA X.data.toList).1 (parseA X.data.toList).2 W)) := fun W X hb h => parseA_any X W (hO.below hb) (hM.below hb) h
  have HSM : Hid (∀ W va vb (xs ys : List AP), RdA W va xs → RdA W vb ys → xs.length ≤ 140737488355328 → xs.map Prod.fst = ys.map Prod.fst → Calls Tryz.prog 17 #[va, vb] W fun e w' => e = .returned (.bool true) ∧ ∃ n, w' = W.drewN n) := fun W va vb xs ys h1 h2 h3 h4 => by
    have h := aSame_any va vb xs ys W h1 h2 h3
    rw [decide_eq_true h4] at h
    exact h
  have HRT : Hid (∀ W v (qs : List AP), RdA W v qs → qs.length ≤ 4611686018427387904 → Calls Tryz.prog 13 #[v] W fun e w' => e = .returned (.bool (rightA (qs.map Prod.fst))) ∧ Below W.heap.size W w') := fun W v qs h1 h2 => aRight_any v qs W h1 h2
  obtain ⟨P, pc, rfl⟩ := hA.form
  clear hA hO hL hM
  cases hr : rightA (ps.map Prod.fst) with
  | true =>
    obtain ⟨X, hX, hX0, hXs, hXp⟩ := shown_text hr
    have HX := Lib.hid hX; have HX0 := Lib.hid hX0; have HXP := Lib.hid hXp
    clear hr hX hX0 hXp
    go_enter Tryz.func5, Tryz.ntmps5
    go_wp2_with fail
    refine HWK.out.mono ?_
    rintro e w1 ⟨rfl, hb1⟩
    have HB1 := Lib.hid hb1; clear hb1
    go_wp2_with fail
    refine (HCP.out w1 HB1.out).mono ?_
    rintro e w2 ⟨v2, qs, rfl, hq, ho, ha, hb2⟩
    have HB2 := Lib.hid (HB1.out.trans (hb2.mono HB1.out.size))
    have hS := HSHW.out w2 v2 qs HB2.out ⟨Inn.of_own ho, ha⟩ (by have := congrArg List.length hq; simp at this; omega)
    rw [hq] at hS
    unfold ShowAPost at hS
    rw [HX.out, HX0.out] at hS
    have HS := Lib.hid hS
    clear hb2 hq ho ha hS
    go_wp2_with fail
    refine HS.out.mono ?_
    rintro e w3 ⟨rfl, hb3⟩
    have HB3 := Lib.hid (HB2.out.trans (hb3.mono HB2.out.size))
    have hP3 := HPA.out w3 X HB3.out hXs
    rw [HXP.out] at hP3
    have HP3 := Lib.hid hP3
    clear hb3 hP3
    go_wp2_with fail
    refine HP3.out.mono ?_
    rintro e w4 ⟨v4, ps4, rfl, h41, h42, h43, hb4⟩
    have HB4 := Lib.hid (HB3.out.trans (hb4.mono HB3.out.size))
    have HSM4 := Lib.hid (HSM.out w4 _ v4 ps ps4 (HAW.out w4 HB4.out) ⟨Inn.of_own h42, h43⟩ (by omega) h41.symm)
    clear h41 h42 h43 hb4
    go_wp2_with fail
    refine HSM4.out.mono ?_
    rintro e w5 ⟨rfl, n5, hw5⟩
    have HB5 : Hid (Below w.heap.size w w5) := by subst hw5; exact below_drewN HB4.out n5
    clear hw5
    by_cases h2 : (parseA s.data.toList).2 = 0
    · have hr2 := soundA h2
      obtain ⟨Y, hY, hY0, hYs, hYp⟩ := shown_text hr2
      have hlq : (parseA s.data.toList).1.length ≤ 8 := by have h := hr2; unfold rightA at h; simp at h; omega
      have hP := HPA.out w5 s HB5.out hs
      rw [h2] at hP
      generalize (parseA s.data.toList).1 = l2 at *
      have HP := Lib.hid hP
      have HYP := Lib.hid hYp; have HYY := Lib.hid hY; have HY0 := Lib.hid hY0; have HR2 := Lib.hid hr2; have HLQ := Lib.hid hlq
      clear hP hYp hY hY0 h2 hr2 hlq
      go_wp2_with fail
      refine HP.out.mono ?_
      rintro e w6 ⟨v6, ps6, rfl, h61, h62, h63, hb6⟩
      have HQ6 : Hid (RdA w6 v6 ps6) := ⟨Inn.of_own h62, h63⟩
      have HB6 := Lib.hid (HB5.out.trans (hb6.mono HB5.out.size))
      have HE6 := Lib.hid h61
      have HL6 : Hid (ps6.length ≤ 8) := by show _ ≤ _; have h := congrArg List.length h61; rw [List.length_map] at h; have := HLQ.out; omega
      have hS6 := HSHW.out w6 v6 ps6 HB6.out HQ6.out (by have := HL6.out; omega)
      rw [h61] at hS6
      unfold ShowAPost at hS6
      rw [HYY.out, HY0.out] at hS6
      have HS6 := Lib.hid hS6
      clear h61 h62 h63 hb6 hS6
      go_wp2_with fail
      refine HS6.out.mono ?_
      rintro e w7 ⟨rfl, hb7⟩
      have HB7 := Lib.hid (HB6.out.trans (hb7.mono HB6.out.size))
      have HQ7 := Lib.hid (HQ6.out.below hb7)
      have hP7 := HPA.out w7 Y HB7.out hYs
      rw [HYP.out] at hP7
      have HP7 := Lib.hid hP7
      clear hb7 hP7
      go_wp2_with fail
      refine HP7.out.mono ?_
      rintro e w8 ⟨v8, ps8, rfl, h81, h82, h83, hb8⟩
      have HQ8 : Hid (RdA w8 v8 ps8) := ⟨Inn.of_own h82, h83⟩
      have HB8 := Lib.hid (HB7.out.trans (hb8.mono HB7.out.size))
      have HQ78 := Lib.hid (HQ7.out.below hb8)
      have HE8 : Hid (ps6.map Prod.fst = ps8.map Prod.fst) := HE6.out.trans h81.symm
      have hRT := HRT.out w8 v6 ps6 HQ78.out (by have := HL6.out; omega)
      rw [HE6.out, HR2.out] at hRT
      have HRT8 := Lib.hid hRT
      clear h81 h82 h83 hb8 hRT
      go_wp2_with fail
      refine HRT8.out.mono ?_
      rintro e w9 ⟨rfl, hb9⟩
      have HB9 := Lib.hid (HB8.out.trans (hb9.mono HB8.out.size))
      have HSM9 := Lib.hid (HSM.out w9 v6 v8 ps6 ps8 (HQ78.out.below hb9) (HQ8.out.below hb9) (by have := HL6.out; omega) HE8.out)
      clear hb9
      go_wp2_with fail
      refine HSM9.out.mono ?_
      rintro e w10 ⟨rfl, n10, rfl⟩
      have HBF := Lib.hid (below_drewN HB9.out n10)
      go_wp2
      go_ret
      exact ⟨rfl, HBF.out⟩
    · have hno := noneA h2
      have hP := HPA.out w5 s HB5.out hs
      rw [hno] at hP
      generalize (parseA s.data.toList).2 = er at *
      have HP := Lib.hid hP
      have h3 := int_ne h2
      have h4 : (er != 0) = true := bne_iff_ne.2 h2
      clear hno hP
      go_wp2_with fail
      refine HP.out.mono ?_
      rintro e w6 ⟨v6, ps6, rfl, h61, h62, _, hb6⟩
      have HB6 := Lib.hid (HB5.out.trans (hb6.mono HB5.out.size))
      obtain rfl : ps6 = [] := by simpa using h61
      obtain ⟨A6, c6, rfl⟩ := own_slice h62
      clear h61 h62 hb6
      go_wp2
      go_ret
      exact ⟨rfl, HB6.out⟩
  | false =>
    have hs0 : showA (ps.map Prod.fst) = ([], 1) := if_neg (by rw [hr]; decide)
    have HX := Lib.hid hs0
    clear hr hs0
    go_enter Tryz.func5, Tryz.ntmps5
    go_wp2_with fail
    refine HWK.out.mono ?_
    rintro e w1 ⟨rfl, hb1⟩
    have HB1 := Lib.hid hb1; clear hb1
    go_wp2_with fail
    refine (HCP.out w1 HB1.out).mono ?_
    rintro e w2 ⟨v2, qs, rfl, hq, ho, ha, hb2⟩
    have HB2 := Lib.hid (HB1.out.trans (hb2.mono HB1.out.size))
    have hS := HSHW.out w2 v2 qs HB2.out ⟨Inn.of_own ho, ha⟩ (by have := congrArg List.length hq; simp at this; omega)
    rw [hq] at hS
    unfold ShowAPost at hS
    rw [HX.out] at hS
    have HS := Lib.hid hS
    clear hb2 hq ho ha hS
    go_wp2_with fail
    refine HS.out.mono ?_
    rintro e w3 ⟨rfl, hb3⟩
    have HB3 := Lib.hid (HB2.out.trans (hb3.mono HB2.out.size))
    clear hb3
    by_cases h2 : (parseA s.data.toList).2 = 0
    · have hr2 := soundA h2
      obtain ⟨Y, hY, hY0, hYs, hYp⟩ := shown_text hr2
      have hlq : (parseA s.data.toList).1.length ≤ 8 := by have h := hr2; unfold rightA at h; simp at h; omega
      have hP := HPA.out w3 s HB3.out hs
      rw [h2] at hP
      generalize (parseA s.data.toList).1 = l2 at *
      have HP := Lib.hid hP
      have HYP := Lib.hid hYp; have HYY := Lib.hid hY; have HY0 := Lib.hid hY0; have HR2 := Lib.hid hr2; have HLQ := Lib.hid hlq
      clear hP hYp hY hY0 h2 hr2 hlq
      go_wp2_with fail
      refine HP.out.mono ?_
      rintro e w6 ⟨v6, ps6, rfl, h61, h62, h63, hb6⟩
      have HQ6 : Hid (RdA w6 v6 ps6) := ⟨Inn.of_own h62, h63⟩
      have HB6 := Lib.hid (HB3.out.trans (hb6.mono HB3.out.size))
      have HE6 := Lib.hid h61
      have HL6 : Hid (ps6.length ≤ 8) := by show _ ≤ _; have h := congrArg List.length h61; rw [List.length_map] at h; have := HLQ.out; omega
      have hS6 := HSHW.out w6 v6 ps6 HB6.out HQ6.out (by have := HL6.out; omega)
      rw [h61] at hS6
      unfold ShowAPost at hS6
      rw [HYY.out, HY0.out] at hS6
      have HS6 := Lib.hid hS6
      clear h61 h62 h63 hb6 hS6
      go_wp2_with fail
      refine HS6.out.mono ?_
      rintro e w7 ⟨rfl, hb7⟩
      have HB7 := Lib.hid (HB6.out.trans (hb7.mono HB6.out.size))
      have HQ7 := Lib.hid (HQ6.out.below hb7)
      have hP7 := HPA.out w7 Y HB7.out hYs
      rw [HYP.out] at hP7
      have HP7 := Lib.hid hP7
      clear hb7 hP7
      go_wp2_with fail
      refine HP7.out.mono ?_
      rintro e w8 ⟨v8, ps8, rfl, h81, h82, h83, hb8⟩
      have HQ8 : Hid (RdA w8 v8 ps8) := ⟨Inn.of_own h82, h83⟩
      have HB8 := Lib.hid (HB7.out.trans (hb8.mono HB7.out.size))
      have HQ78 := Lib.hid (HQ7.out.below hb8)
      have HE8 : Hid (ps6.map Prod.fst = ps8.map Prod.fst) := HE6.out.trans h81.symm
      have hRT := HRT.out w8 v6 ps6 HQ78.out (by have := HL6.out; omega)
      rw [HE6.out, HR2.out] at hRT
      have HRT8 := Lib.hid hRT
      clear h81 h82 h83 hb8 hRT
      go_wp2_with fail
      refine HRT8.out.mono ?_
      rintro e w9 ⟨rfl, hb9⟩
      have HB9 := Lib.hid (HB8.out.trans (hb9.mono HB8.out.size))
      have HSM9 := Lib.hid (HSM.out w9 v6 v8 ps6 ps8 (HQ78.out.below hb9) (HQ8.out.below hb9) (by have := HL6.out; omega) HE8.out)
      clear hb9
      go_wp2_with fail
      refine HSM9.out.mono ?_
      rintro e w10 ⟨rfl, n10, rfl⟩
      have HBF := Lib.hid (below_drewN HB9.out n10)
      go_wp2
      go_ret
      exact ⟨rfl, HBF.out⟩
    · have hno := noneA h2
      have hP := HPA.out w3 s HB3.out hs
      rw [hno] at hP
      generalize (parseA s.data.toList).2 = er at *
      have HP := Lib.hid hP
      have h3 := int_ne h2
      have h4 : (er != 0) = true := bne_iff_ne.2 h2
      clear hno hP
      go_wp2_with fail
      refine HP.out.mono ?_
      rintro e w6 ⟨v6, ps6, rfl, h61, h62, _, hb6⟩
      have HB6 := Lib.hid (HB3.out.trans (hb6.mono HB3.out.size))
      obtain rfl : ps6 = [] := by simpa using h61
      obtain ⟨A6, c6, rfl⟩ := own_slice h62
      clear h61 h62 hb6
      go_wp2
      go_ret
      exact ⟨rfl, HB6.out⟩
end Go.Proofs.YtjjoffadieoaaaaGreatDoor
