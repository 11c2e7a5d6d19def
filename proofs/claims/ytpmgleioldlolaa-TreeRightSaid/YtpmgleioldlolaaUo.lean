/- The laws TreeRight, TreePlaces, TreeWithin, walked. -/
import Derived.Test.YtpmgleioldlolaaUm
namespace Go.Proofs.Ytpmgleioldlolaa
open Go.RowKit

set_option maxHeartbeats 1000000 in
theorem treeRight_law (v : Value) (xs : List SM) (w : World) (hR : RdT w v xs) (hl : xs.length * 96 ≤ 140737488355328) :
    Calls Try.prog 3 #[v] w fun e w' => e = .returned (.bool true) ∧ Below w.heap.size w w' := by
  obtain ⟨A, c, rfl⟩ := hR.form
  have HR := Lib.hid hR
  have HW := Lib.hid wakes_any
  have HCO := Lib.hid (fun W (h : RdT W _ xs) => copied_any (.slice A xs.length c) xs W h hl)
  have HRI := Lib.hid (fun u W (h : RdT W u xs) => right_any u xs W h (by omega))
  have HRF := Lib.hid (fun u W (h : RdT W u xs) => refRight_any u xs W h (by omega))
  generalize decide (RightP (dp xs) (kp xs) xs.length) = q at *
  clear hR
  go_enter Try.func3, Try.ntmps3
  go_wp2_with (fail)
  refine (HW.out _).mono ?_
  rintro e w1 ⟨rfl, hb⟩
  have HB1 := Lib.hid hb; clear hb
  go_wp2_with (fail)
  refine (HCO.out _ (HR.out.below HB1.out)).mono ?_
  rintro e w2 ⟨u2, rfl, hr2, hb⟩
  have HB2 := Lib.hid (HB1.out.trans (hb.mono HB1.out.size)); have HR2 := Lib.hid hr2; clear hb hr2
  go_wp2_with (fail)
  refine (HRI.out _ _ HR2.out).mono ?_
  rintro e w3 ⟨rfl, hb⟩
  have HB3 := Lib.hid (HB2.out.trans (hb.mono HB2.out.size)); clear hb
  go_wp2_with (fail)
  refine (HRF.out _ _ (HR.out.below HB3.out)).mono ?_
  rintro e w4 ⟨rfl, hb⟩
  have HB4 := Lib.hid (HB3.out.trans (hb.mono HB3.out.size)); clear hb
  go_wp2
  go_ret
  exact ⟨ret_bool (by simp), HB4.out⟩

set_option maxHeartbeats 4000000 in
theorem treePlaces_law (v : Value) (xs : List SM) (i : Int) (w : World) (hR : RdT w v xs) (hl : xs.length * 96 ≤ 140737488355328) :
    Calls Try.prog 4 #[v, .int .i64 i] w fun e w' => e = .returned (.bool true) ∧ Below w.heap.size w w' := by
  obtain ⟨A, c, rfl⟩ := hR.form
  have HR := Lib.hid hR
  have HW := Lib.hid wakes_any
  have HCO := Lib.hid (fun W (h : RdT W _ xs) => copied_any (.slice A xs.length c) xs W h hl)
  have HHA := Lib.hid (fun u W (h : RdT W u xs) => refHas_any u xs i W h (by omega))
  by_cases hh : HasP xs i
  rotate_left
  · have H1 := Lib.hid (fun u W (h : RdT W u xs) => parent_no u xs i W h (by omega) hh)
    have H2 := Lib.hid (fun u W (h : RdT W u xs) => end_no u xs i W h (by omega) hh)
    have H3 := Lib.hid (fun u W (h : RdT W u xs) => kids_no u xs i W h (by omega) hh)
    have H4 := Lib.hid (fun u W (h : RdT W u xs) => region_no u xs i W h (by omega) hh)
    rw [decide_eq_false hh] at HHA
    clear hR hh
    go_enter Try.func4, Try.ntmps4
    go_wp2_with (fail)
    refine (HW.out _).mono ?_
    rintro e w1 ⟨rfl, hb⟩
    have HB1 := Lib.hid hb; clear hb
    go_wp2_with (fail)
    refine (HCO.out _ (HR.out.below HB1.out)).mono ?_
    rintro e w2 ⟨u2, rfl, hr, hb⟩
    have HB2 := Lib.hid (HB1.out.trans (hb.mono HB1.out.size)); have HR2 := Lib.hid hr; clear hb hr
    go_wp2_with (fail)
    refine (H1.out _ _ HR2.out).mono ?_
    rintro e w3 ⟨rfl, hb⟩
    have HB3 := Lib.hid (HB2.out.trans (hb.mono HB2.out.size)); clear hb
    go_wp2_with (fail)
    refine (HCO.out _ (HR.out.below HB3.out)).mono ?_
    rintro e w4 ⟨u4, rfl, hr, hb⟩
    have HB4 := Lib.hid (HB3.out.trans (hb.mono HB3.out.size)); have HR4 := Lib.hid hr; clear hb hr
    go_wp2_with (fail)
    refine (H2.out _ _ HR4.out).mono ?_
    rintro e w5 ⟨rfl, hb⟩
    have HB5 := Lib.hid (HB4.out.trans (hb.mono HB4.out.size)); clear hb
    go_wp2_with (fail)
    refine (HCO.out _ (HR.out.below HB5.out)).mono ?_
    rintro e w6 ⟨u6, rfl, hr, hb⟩
    have HB6 := Lib.hid (HB5.out.trans (hb.mono HB5.out.size)); have HR6 := Lib.hid hr; clear hb hr
    go_wp2_with (fail)
    refine (H3.out _ _ HR6.out).mono ?_
    rintro e w7 ⟨rfl, hb⟩
    have HB7 := Lib.hid (HB6.out.trans (hb.mono HB6.out.size)); clear hb
    go_wp2_with (fail)
    refine (HCO.out _ (HR.out.below HB7.out)).mono ?_
    rintro e w8 ⟨u8, rfl, hr, hb⟩
    have HB8 := Lib.hid (HB7.out.trans (hb.mono HB7.out.size)); have HR8 := Lib.hid hr; clear hb hr
    go_wp2_with (fail)
    refine (H4.out _ _ HR8.out).mono ?_
    rintro e w9 ⟨rfl, hb⟩
    have HB9 := Lib.hid (HB8.out.trans (hb.mono HB8.out.size)); clear hb
    have HBL := HB9
    go_wp2_with (fail)
    refine (HHA.out _ _ (HR.out.below HBL.out)).mono ?_
    rintro e wz ⟨rfl, hb⟩
    have HBZ := Lib.hid (HBL.out.trans (hb.mono HBL.out.size)); clear hb
    go_wp2
    go_ret
    exact ⟨rfl, HBZ.out⟩
  have hP := hh.2.2
  rw [decide_eq_true hh] at HHA
  obtain ⟨k, rfl⟩ : ∃ k : Nat, i = k := ⟨i.toNat, by have := hh.1; omega⟩
  have hk : k < xs.length := by have := hh.2.1; omega
  have H1 := Lib.hid (fun u W (h : RdT W u xs) => parent_yes u xs k W h hk hP)
  have H2 := Lib.hid (fun u W (h : RdT W u xs) => end_yes u xs k W h hk hP)
  have H3 := Lib.hid (fun u W (h : RdT W u xs) => kids_any u xs k W h hk hP)
  have H4 := Lib.hid (fun u W (h : RdT W u xs) => region_yes u xs k W h hk hP)
  have R1 := Lib.hid (fun u W (h : RdT W u xs) => refParent_any u xs k W h hk (by omega) hP.nst)
  have R2 := Lib.hid (fun u W (h : RdT W u xs) => refEnd_any u xs k W h hk hP)
  have R3 := Lib.hid (fun u W (h : RdT W u xs) => refKids_any u xs k W h hk hP.le hP.nst)
  have R4 := Lib.hid (fun u W (h : RdT W u xs) => refRegion_any u xs k W h hk hP)
  have hkl := kids_len (dp xs) xs.length k
  have h40 := hP.le
  clear hR hh hP
  generalize par (dp xs) k = pv at *
  generalize en (dp xs) xs.length k = ev at *
  generalize rootF (dp xs) k = rv at *
  obtain ⟨L, hL⟩ : ∃ L, L = kids (dp xs) xs.length k := ⟨_, rfl⟩
  rw [← hL] at H3 R3 hkl
  clear hL
  go_enter Try.func4, Try.ntmps4
  go_wp2_with (fail)
  refine (HW.out _).mono ?_
  rintro e w1 ⟨rfl, hb⟩
  have HB1 := Lib.hid hb; clear hb
  go_wp2_with (fail)
  refine (HCO.out _ (HR.out.below HB1.out)).mono ?_
  rintro e w2 ⟨u2, rfl, hr, hb⟩
  have HB2 := Lib.hid (HB1.out.trans (hb.mono HB1.out.size)); have HR2 := Lib.hid hr; clear hb hr
  go_wp2_with (fail)
  refine (H1.out _ _ HR2.out).mono ?_
  rintro e w3 ⟨rfl, hb⟩
  have HB3 := Lib.hid (HB2.out.trans (hb.mono HB2.out.size)); clear hb
  go_wp2_with (fail)
  refine (HCO.out _ (HR.out.below HB3.out)).mono ?_
  rintro e w4 ⟨u4, rfl, hr, hb⟩
  have HB4 := Lib.hid (HB3.out.trans (hb.mono HB3.out.size)); have HR4 := Lib.hid hr; clear hb hr
  go_wp2_with (fail)
  refine (H2.out _ _ HR4.out).mono ?_
  rintro e w5 ⟨rfl, hb⟩
  have HB5 := Lib.hid (HB4.out.trans (hb.mono HB4.out.size)); clear hb
  go_wp2_with (fail)
  refine (HCO.out _ (HR.out.below HB5.out)).mono ?_
  rintro e w6 ⟨u6, rfl, hr, hb⟩
  have HB6 := Lib.hid (HB5.out.trans (hb.mono HB5.out.size)); have HR6 := Lib.hid hr; clear hb hr
  go_wp2_with (fail)
  refine (H3.out _ _ HR6.out).mono ?_
  rintro e w7 ⟨⟨uk, rfl, hown⟩, hb⟩
  have HB7 := Lib.hid (HB6.out.trans (hb.mono HB6.out.size)); have HK : Hid (RdN w7 uk L) := Inn.of_own hown; clear hb hown
  obtain ⟨AK, cK, eK⟩ := Inn.form HK.out
  subst eK
  go_wp2_with (fail)
  refine (HCO.out _ (HR.out.below HB7.out)).mono ?_
  rintro e w8 ⟨u8, rfl, hr, hb⟩
  have HB8 := Lib.hid (HB7.out.trans (hb.mono HB7.out.size)); have HR8 := Lib.hid hr; have HKn := Lib.hid (Inn.below HK.out hb); replace HK := HKn; clear HKn; clear hb hr
  go_wp2_with (fail)
  refine (H4.out _ _ HR8.out).mono ?_
  rintro e w9 ⟨rfl, hb⟩
  have HB9 := Lib.hid (HB8.out.trans (hb.mono HB8.out.size)); have HKn := Lib.hid (Inn.below HK.out hb); replace HK := HKn; clear HKn; clear hb
  have HBL := HB9
  have HKL := HK
  go_wp2_with (fail)
  refine (HHA.out _ _ (HR.out.below HBL.out)).mono ?_
  rintro e wa ⟨rfl, hb⟩
  have HBa := Lib.hid (HBL.out.trans (hb.mono HBL.out.size)); have HKa := Lib.hid (Inn.below HKL.out hb); clear hb
  go_wp2_with (fail)
  refine (R1.out _ _ (HR.out.below HBa.out)).mono ?_
  rintro e wb ⟨rfl, q1, rfl⟩
  go_wp2_with (fail)
  refine (R2.out _ _ ((HR.out.below HBa.out).drew q1)).mono ?_
  rintro e wb ⟨rfl, q2, rfl⟩
  go_wp2_with (fail)
  refine (R3.out _ _ ((HR.out.below HBa.out).drew (q1 + q2))).mono ?_
  rintro e wc ⟨⟨u, rfl, hown⟩, hb⟩
  have HBc : Hid (Below w.heap.size w wc) := (below_drewN HBa.out (q1 + q2)).trans (hb.mono HBa.out.size)
  have HSM := Lib.hid (same_any _ u L L wc (Inn.below (Inn.below HKa.out (below_drewN (Below.refl _ _) (q1 + q2))) hb) (Inn.of_own hown) (by omega) (by omega))
  rw [decide_eq_true rfl] at HSM
  clear hb hown
  go_wp2_with (fail)
  refine HSM.out.mono ?_
  rintro e wd ⟨rfl, q3, rfl⟩
  go_wp2_with (fail)
  refine (R4.out _ _ ((HR.out.below HBc.out).drew q3)).mono ?_
  rintro e we ⟨rfl, q4, rfl⟩
  go_wp2
  go_ret
  exact ⟨rfl, below_drewN HBc.out (q3 + q4)⟩
end Go.Proofs.Ytpmgleioldlolaa
