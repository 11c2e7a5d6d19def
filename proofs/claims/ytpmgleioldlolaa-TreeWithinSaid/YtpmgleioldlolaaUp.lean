/- The laws TreeWithin, TreeDomains, walked. -/
import Derived.Test.YtpmgleioldlolaaUm
namespace Go.Proofs.Ytpmgleioldlolaa
open Go.RowKit

set_option maxHeartbeats 2000000 in
theorem treeWithin_law (v : Value) (xs : List SM) (i j : Int) (w : World) (hR : RdT w v xs) (hl : xs.length * 96 ≤ 140737488355328) :
    Calls Try.prog 5 #[v, .int .i64 i, .int .i64 j] w fun e w' => e = .returned (.bool true) ∧ Below w.heap.size w w' := by
  obtain ⟨A, c, rfl⟩ := hR.form
  have HR := Lib.hid hR
  have HW := Lib.hid wakes_any
  have HCO := Lib.hid (fun W (h : RdT W _ xs) => copied_any (.slice A xs.length c) xs W h hl)
  have HHI := Lib.hid (fun u W (h : RdT W u xs) => refHas_any u xs i W h (by omega))
  have HHJ := Lib.hid (fun u W (h : RdT W u xs) => refHas_any u xs j W h (by omega))
  by_cases hh : HasP xs i ∧ HasP xs j
  rotate_left
  · have H1 := Lib.hid (fun u W (h : RdT W u xs) => within_no u xs i j W h (by omega) hh)
    have H2 := Lib.hid (fun u W (h : RdT W u xs) => domain_no u xs i j W h (by omega) hh)
    have hb2 : decide (HasP xs i) = false ∨ (decide (HasP xs i) = true ∧ decide (HasP xs j) = false) := by
      by_cases h1 : HasP xs i
      · exact Or.inr ⟨decide_eq_true h1, decide_eq_false fun h2 => hh ⟨h1, h2⟩⟩
      · exact Or.inl (decide_eq_false h1)
    clear hR hh
    go_enter Try.func5, Try.ntmps5
    go_wp2_with (fail)
    refine (HW.out _).mono ?_
    rintro e w1 ⟨rfl, hb⟩
    have HB1 := Lib.hid hb; clear hb
    go_wp2_with (fail)
    refine (HCO.out _ (HR.out.below HB1.out)).mono ?_
    rintro e w2 ⟨u2, rfl, hr, hb⟩
    have HB2 := Lib.hid (HB1.out.trans (hb.mono HB1.out.size)); have HR2 := Lib.hid hr; clear hb hr
    go_wp2_with (fail)
    refine (H1.out _ _ HR2.out).mono ?_
    rintro e w3 ⟨rfl, hb⟩
    have HB3 := Lib.hid (HB2.out.trans (hb.mono HB2.out.size)); clear hb
    go_wp2_with (fail)
    refine (HCO.out _ (HR.out.below HB3.out)).mono ?_
    rintro e w4 ⟨u4, rfl, hr, hb⟩
    have HB4 := Lib.hid (HB3.out.trans (hb.mono HB3.out.size)); have HR4 := Lib.hid hr; clear hb hr
    go_wp2_with (fail)
    refine (H2.out _ _ HR4.out).mono ?_
    rintro e w5 ⟨rfl, hb⟩
    have HB5 := Lib.hid (HB4.out.trans (hb.mono HB4.out.size)); clear hb
    go_wp2_with (fail)
    refine (HHI.out _ _ (HR.out.below HB5.out)).mono ?_
    rintro e w6 ⟨rfl, hb⟩
    have HB6 := Lib.hid (HB5.out.trans (hb.mono HB5.out.size)); clear hb
    rcases hb2 with hi | ⟨hi, hj⟩
    · rw [hi]
      clear hi
      go_wp2
      go_ret
      exact ⟨rfl, HB6.out⟩
    · rw [hi]
      have HJ := Lib.hid hj
      clear hi hj
      go_wp2_with (fail)
      refine (HHJ.out _ _ (HR.out.below HB6.out)).mono ?_
      rintro e w7 ⟨rfl, hb⟩
      have HB7 := Lib.hid (HB6.out.trans (hb.mono HB6.out.size)); clear hb
      rw [HJ.out]
      go_wp2
      go_ret
      exact ⟨rfl, HB7.out⟩
  have hP := hh.1.2.2
  rw [decide_eq_true hh.1] at HHI
  rw [decide_eq_true hh.2] at HHJ
  obtain ⟨a, rfl⟩ : ∃ k : Nat, i = k := ⟨i.toNat, by have := hh.1.1; omega⟩
  obtain ⟨b, rfl⟩ : ∃ k : Nat, j = k := ⟨j.toNat, by have := hh.2.1; omega⟩
  have ha : a < xs.length := by have := hh.1.2.1; omega
  have hb' : b < xs.length := by have := hh.2.2.1; omega
  have H1 := Lib.hid (fun u W (h : RdT W u xs) => within_yes u xs a b W h ha hb' hP)
  have H2 := Lib.hid (fun u W (h : RdT W u xs) => domain_yes u xs a b W h ha hb' hP)
  have R1 := Lib.hid (fun u W (h : RdT W u xs) => refWithin_any u xs a b W h hb' (by omega) hP.nst)
  have R2 := Lib.hid (fun u W (h : RdT W u xs) => refDomain_any u xs a b W h ha hb' hP)
  clear hR hh hP
  generalize decide (wi (dp xs) a b) = q at *
  generalize dom (dp xs) (kp xs) a b = dv at *
  go_enter Try.func5, Try.ntmps5
  go_wp2_with (fail)
  refine (HW.out _).mono ?_
  rintro e w1 ⟨rfl, hb⟩
  have HB1 := Lib.hid hb; clear hb
  go_wp2_with (fail)
  refine (HCO.out _ (HR.out.below HB1.out)).mono ?_
  rintro e w2 ⟨u2, rfl, hr, hb⟩
  have HB2 := Lib.hid (HB1.out.trans (hb.mono HB1.out.size)); have HR2 := Lib.hid hr; clear hb hr
  go_wp2_with (fail)
  refine (H1.out _ _ HR2.out).mono ?_
  rintro e w3 ⟨rfl, hb⟩
  have HB3 := Lib.hid (HB2.out.trans (hb.mono HB2.out.size)); clear hb
  go_wp2_with (fail)
  refine (HCO.out _ (HR.out.below HB3.out)).mono ?_
  rintro e w4 ⟨u4, rfl, hr, hb⟩
  have HB4 := Lib.hid (HB3.out.trans (hb.mono HB3.out.size)); have HR4 := Lib.hid hr; clear hb hr
  go_wp2_with (fail)
  refine (H2.out _ _ HR4.out).mono ?_
  rintro e w5 ⟨rfl, hb⟩
  have HB5 := Lib.hid (HB4.out.trans (hb.mono HB4.out.size)); clear hb
  go_wp2_with (fail)
  refine (HHI.out _ _ (HR.out.below HB5.out)).mono ?_
  rintro e w6 ⟨rfl, hb⟩
  have HB6 := Lib.hid (HB5.out.trans (hb.mono HB5.out.size)); clear hb
  go_wp2_with (fail)
  refine (HHJ.out _ _ (HR.out.below HB6.out)).mono ?_
  rintro e w7 ⟨rfl, hb⟩
  have HB7 := Lib.hid (HB6.out.trans (hb.mono HB6.out.size)); clear hb
  go_wp2_with (fail)
  refine (R1.out _ _ (HR.out.below HB7.out)).mono ?_
  rintro e w8 ⟨rfl, q1, rfl⟩
  cases q
  · go_wp2_with (fail)
    refine (R2.out _ _ ((HR.out.below HB7.out).drew q1)).mono ?_
    rintro e w9 ⟨rfl, q2, rfl⟩
    go_wp2
    go_ret
    exact ⟨rfl, below_drewN HB7.out (q1 + q2)⟩
  · go_wp2_with (fail)
    refine (R2.out _ _ ((HR.out.below HB7.out).drew q1)).mono ?_
    rintro e w9 ⟨rfl, q2, rfl⟩
    go_wp2
    go_ret
    exact ⟨rfl, below_drewN HB7.out (q1 + q2)⟩

/-- the chain from i up to d holds no domain of j -/
theorem dom_chain {d kd : Nat → Int} {i j k : Nat} (hu : up d i k = true) (hg : ∀ p : Nat, dom d kd i j = (p : Int) → p < k) : one d kd j k = false := by
  have hki : k ≤ i := by
    have h2 := of_decide_eq_true hu
    rcases h2 with e | h2
    · omega
    · have := h2.1; omega
  rcases dom_spec (d := d) (kd := kd) i j with ⟨_, h2⟩ | ⟨p, hp, _, _, _, h2⟩
  · exact h2 k hki hu
  · exact h2 k (hg p hp) hki hu
theorem up_par {d : Nat → Int} {n i k p : Nat} (h : Nst d n) (hi : i < n) (hu : up d i k = true) (hp : par d k = (p : Int)) : up d i p = true := by
  have h2 := of_decide_eq_true hu
  have hki : k ≤ i := by
    rcases h2 with e | h2
    · omega
    · have := h2.1; omega
  have hpk : wi d p k := (h.wi_par (by omega)).2 ⟨p, hp, Or.inl rfl⟩
  rcases h2 with rfl | h2
  · exact decide_eq_true (Or.inr hpk)
  · exact decide_eq_true (Or.inr (wi_trans hpk h2))

set_option maxHeartbeats 4000000 in
theorem treeDomains_law (v : Value) (xs : List SM) (i j : Int) (w : World) (hR : RdT w v xs) (hl : xs.length * 96 ≤ 140737488355328) :
    Calls Try.prog 7 #[v, .int .i64 i, .int .i64 j] w fun e w' => e = .returned (.bool true) ∧ Below w.heap.size w w' := by
  obtain ⟨A, c, rfl⟩ := hR.form
  have HR := Lib.hid hR
  have HW := Lib.hid wakes_any
  have HCO := Lib.hid (fun W (h : RdT W _ xs) => copied_any (.slice A xs.length c) xs W h hl)
  by_cases hh : HasP xs i ∧ HasP xs j
  rotate_left
  · have H2 := Lib.hid (fun u W (h : RdT W u xs) => domain_no u xs i j W h (by omega) hh)
    clear hR hh
    go_enter Try.func7, Try.ntmps7
    go_wp2_with (fail)
    refine (HW.out _).mono ?_
    rintro e w1 ⟨rfl, hb⟩
    have HB1 := Lib.hid hb; clear hb
    go_wp2_with (fail)
    refine (HCO.out _ (HR.out.below HB1.out)).mono ?_
    rintro e w2 ⟨u2, rfl, hr, hb⟩
    have HB2 := Lib.hid (HB1.out.trans (hb.mono HB1.out.size)); have HR2 := Lib.hid hr; clear hb hr
    go_wp2_with (fail)
    refine (H2.out _ _ HR2.out).mono ?_
    rintro e w3 ⟨rfl, hb⟩
    have HB3 := Lib.hid (HB2.out.trans (hb.mono HB2.out.size)); clear hb
    go_wp2
    go_ret
    exact ⟨rfl, HB3.out⟩
  have hP := hh.1.2.2
  obtain ⟨a, rfl⟩ : ∃ k : Nat, i = k := ⟨i.toNat, by have := hh.1.1; omega⟩
  obtain ⟨b, rfl⟩ : ∃ k : Nat, j = k := ⟨j.toNat, by have := hh.2.1; omega⟩
  have ha : a < xs.length := by have := hh.1.2.1; omega
  have hb' : b < xs.length := by have := hh.2.2.1; omega
  have H2 := Lib.hid (fun u W (h : RdT W u xs) => domain_yes u xs a b W h ha hb' hP)
  rcases dom_spec (d := dp xs) (kd := kp xs) a b with ⟨hd, _⟩ | ⟨p, hd, hpa, hup, hone, _⟩
  · rw [hd] at H2
    clear hR hh hP
    go_enter Try.func7, Try.ntmps7
    go_wp2_with (fail)
    refine (HW.out _).mono ?_
    rintro e w1 ⟨rfl, hb⟩
    have HB1 := Lib.hid hb; clear hb
    go_wp2_with (fail)
    refine (HCO.out _ (HR.out.below HB1.out)).mono ?_
    rintro e w2 ⟨u2, rfl, hr, hb⟩
    have HB2 := Lib.hid (HB1.out.trans (hb.mono HB1.out.size)); have HR2 := Lib.hid hr; clear hb hr
    go_wp2_with (fail)
    refine (H2.out _ _ HR2.out).mono ?_
    rintro e w3 ⟨rfl, hb⟩
    have HB3 := Lib.hid (HB2.out.trans (hb.mono HB2.out.size)); clear hb
    go_wp2
    go_ret
    exact ⟨rfl, HB3.out⟩
  · rw [hd] at H2
    have hpn : p < xs.length := by omega
    obtain ⟨hk2, hpb⟩ := of_decide_eq_true hone
    have HH := Lib.hid (fun u W (h : RdT W u xs) => refHas_any u xs (p : Int) W h (by omega))
    rw [decide_eq_true (show HasP xs (p : Int) from ⟨by omega, by omega, hP⟩)] at HH
    have HWB := Lib.hid (fun W (h : RdT W _ xs) => within_yes (.slice A xs.length c) xs p b W h hpn hb' hP)
    rw [decide_eq_true hpb] at HWB
    have HWA := Lib.hid (fun W (h : RdT W _ xs) => within_yes (.slice A xs.length c) xs p a W h hpn ha hP)
    have HWK := Lib.hid (fun k W (hk : k < xs.length) (h : RdT W _ xs) => within_yes (.slice A xs.length c) xs k b W h hk hb' hP)
    have HPK := Lib.hid (fun k W (hk : k < xs.length) (h : RdT W _ xs) => parent_yes (.slice A xs.length c) xs k W h hk hP)
    have HN := Lib.hid hP.nst
    have HD := Lib.hid hd
    have h40 := hP.le
    obtain ⟨bb, oo, rfl, hbl, hcc⟩ := hR.base (by omega)
    obtain ⟨n, hn⟩ : ∃ n, xs.length = n := ⟨_, rfl⟩
    have HCL : Hid (∀ m, m < n → w.cell? ⟨bb, oo + m * 6 + 1, none⟩ = some (.int .i64 (kp xs m))) := fun m hm => (hcc m (by omega)).2.1
    have HBL := Lib.hid hbl
    have HUP := Lib.hid hup
    have HAP : Hid (a = p ∨ wi (dp xs) p a) := (of_decide_eq_true hup).imp Eq.symm id
    have HK2 := Lib.hid hk2
    rw [hn] at HR HCO HWB HWA HWK HPK HN ha hb' hpn h40 ⊢
    clear hR hh hP hd hk2 hpb hone hup hcc hbl hn
    go_enter Try.func7, Try.ntmps7
    go_wp2_with (fail)
    refine (HW.out _).mono ?_
    rintro e w1 ⟨rfl, hb⟩
    have HB1 := Lib.hid hb; clear hb
    go_wp2_with (fail)
    refine (HCO.out _ (HR.out.below HB1.out)).mono ?_
    rintro e w2 ⟨u2, rfl, hr, hb⟩
    have HB2 := Lib.hid (HB1.out.trans (hb.mono HB1.out.size)); have HR2 := Lib.hid hr; clear hb hr
    go_wp2_with (fail)
    refine (H2.out _ _ HR2.out).mono ?_
    rintro e w3 ⟨rfl, hb⟩
    have HB3 := Lib.hid (HB2.out.trans (hb.mono HB2.out.size)); clear hb
    go_wp2_with (fail)
    refine (HH.out _ _ (HR.out.below HB3.out)).mono ?_
    rintro e w4 ⟨rfl, hb⟩
    have HB4 := Lib.hid (HB3.out.trans (hb.mono HB3.out.size)); clear hb
    have cp := (HB4.out.cell HBL.out).trans (HCL.out p hpn)
    rw [HK2.out] at cp
    go_wp2_with (fail)
    refine (HWB.out _ (HR.out.below HB4.out)).mono ?_
    rintro e w5 ⟨rfl, hb⟩
    have HB5 := Lib.hid (HB4.out.trans (hb.mono HB4.out.size)); clear hb
    by_cases hpa2 : p = a
    · subst hpa2
      go_wp2
      go_loopw [8] (fun x8 wr => Below w.heap.size w wr ∧ x8 = .int .i64 p) (fun _ _ => 0)
      case atStart => exact ⟨HB5.out, rfl⟩
      case round =>
        obtain ⟨hbw, hx⟩ := hrel
        subst hx
        have HBW := Lib.hid hbw; clear hbw
        go_wp2
        go_ret
        exact ⟨rfl, HBW.out⟩
    · have hne : ((p : Int) != (a : Int)) = true := bne_iff_ne.2 (by omega)
      have hwpa : decide (wi (dp xs) p a) = true := decide_eq_true (HAP.out.resolve_left (fun e => hpa2 e.symm))
      rw [hwpa] at HWA
      clear hwpa
      go_wp2_with (fail)
      refine (HWA.out _ (HR.out.below HB5.out)).mono ?_
      rintro e w6 ⟨rfl, hb⟩
      have HB6 := Lib.hid (HB5.out.trans (hb.mono HB5.out.size)); clear hb
      go_wp2
      go_loopw [8] (fun x8 wr => Below w.heap.size w wr ∧ ∃ k : Nat, k < n ∧ x8 = .int .i64 k ∧ Hid (up (dp xs) a k = true ∧ (k = p ∨ wi (dp xs) p k))) (fun x _ => (intOf x).toNat)
      case atStart => exact ⟨HB6.out, a, ha, rfl, decide_eq_true (Or.inl rfl), HAP.out⟩
      case round =>
        obtain ⟨hbw, k, hk, hx, HI⟩ := hrel
        subst hx
        have HBW := Lib.hid hbw; clear hbw
        by_cases hkp : k = p
        · subst hkp
          go_wp2
          go_ret
          exact ⟨rfl, HBW.out⟩
        · have hw := HI.out.2.resolve_left hkp
          have ho := dom_chain HI.out.1 (fun q hq => by rw [HD.out] at hq; have := hw.1; omega)
          obtain ⟨q, hq, hqp⟩ := (HN.out.wi_par hk).1 hw
          have hqk := (HN.out.kid hk hq).1
          have HUQ := Lib.hid (up_par HN.out ha HI.out.1 hq)
          have HQP := Lib.hid hqp
          have HQ := Lib.hid hq
          have hne2 : ((k : Int) != (p : Int)) = true := bne_iff_ne.2 (by omega)
          have ck := (HBW.out.cell HBL.out).trans (HCL.out k hk)
          by_cases h2 : kp xs k = 2
          · have hwk : decide (wi (dp xs) k b) = false := decide_eq_false (fun h => by
              have h3 : one (dp xs) (kp xs) b k = true := decide_eq_true ⟨h2, h⟩
              rw [ho] at h3; cases h3)
            have HWD := Lib.hid hwk
            rw [h2] at ck
            clear hwk ho hq hqp hw h2 HI
            go_wp2_with (fail)
            refine (HWK.out k _ hk (HR.out.below HBW.out)).mono ?_
            rintro e w7 ⟨rfl, hb⟩
            have HB7 := Lib.hid (HBW.out.trans (hb.mono HBW.out.size)); clear hb
            rw [HWD.out]
            go_wp2_with (fail)
            refine (HPK.out k _ hk (HR.out.below HB7.out)).mono ?_
            rintro e w8 ⟨rfl, hb⟩
            have HB8 := Lib.hid (HB7.out.trans (hb.mono HB7.out.size)); clear hb
            rw [HQ.out]
            go_wp2
            go_roundw
            case rel => exact ⟨HB8.out, q, by omega, rfl, HUQ.out, HQP.out⟩
            case measure => simp [intOf] <;> omega
          · have hk2 := int_ne h2
            clear ho hq hqp hw h2 HI
            go_wp2_with (fail)
            refine (HPK.out k _ hk (HR.out.below HBW.out)).mono ?_
            rintro e w8 ⟨rfl, hb⟩
            have HB8 := Lib.hid (HBW.out.trans (hb.mono HBW.out.size)); clear hb
            rw [HQ.out]
            go_wp2
            go_roundw
            case rel => exact ⟨HB8.out, q, by omega, rfl, HUQ.out, HQP.out⟩
            case measure => simp [intOf] <;> omega
end Go.Proofs.Ytpmgleioldlolaa
