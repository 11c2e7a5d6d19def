/- The document's Has, End, Region, Domain. -/
import Derived.Test.YtpmgleioldlolaaUi
import Derived.Test.YtpmgleioldlolaaUk
namespace Go.Proofs.Ytpmgleioldlolaa
open Go.RowKit

set_option maxHeartbeats 1000000 in
theorem refHas_any (v : Value) (xs : List SM) (i : Int) (w : World) (hR : RdT w v xs) (hl : xs.length ≤ 4611686018427387904) :
    Calls Try.prog 17 #[v, .int .i64 i] w fun e w' => e = .returned (.bool (decide (HasP xs i))) ∧ Below w.heap.size w w' := by
  have hr := refRight_any v xs w hR hl
  obtain ⟨A, c, rfl⟩ := hR.form
  by_cases h0 : 0 ≤ i
  rotate_left
  · have hf : decide (HasP xs i) = false := decide_eq_false fun h => h0 h.1
    rw [hf]
    clear hf hr hR
    go_enter Try.func17, Try.ntmps17
    go_wp2
    go_ret
    exact ⟨rfl, Below.refl _ _⟩
  by_cases hn : i < xs.length
  rotate_left
  · have hf : decide (HasP xs i) = false := decide_eq_false fun h => hn h.2.1
    rw [hf]
    clear hf hr hR
    go_enter Try.func17, Try.ntmps17
    go_wp2
    go_ret
    exact ⟨rfl, Below.refl _ _⟩
  have hf : decide (HasP xs i) = decide (RightP (dp xs) (kp xs) xs.length) := by
    by_cases h : RightP (dp xs) (kp xs) xs.length
    · rw [decide_eq_true h]; exact decide_eq_true ⟨h0, hn, h⟩
    · rw [decide_eq_false h]; exact decide_eq_false fun h2 => h h2.2.2
  rw [hf]
  generalize decide (RightP (dp xs) (kp xs) xs.length) = q at *
  have HR := Lib.hid hr
  clear hf hr hR
  go_enter Try.func17, Try.ntmps17
  go_wp2_with (fail)
  refine HR.out.mono ?_
  rintro e w1 ⟨rfl, hb⟩
  have HB := Lib.hid hb; clear hb
  go_wp2
  go_ret
  exact ⟨rfl, HB.out⟩

set_option maxHeartbeats 1000000 in
theorem refEnd_any (v : Value) (xs : List SM) (i : Nat) (w : World) (hR : RdT w v xs) (hi : i < xs.length) (hP : RightP (dp xs) (kp xs) xs.length) :
    Calls Try.prog 19 #[v, .int .i64 i] w fun e w' => e = .returned (.int .i64 (en (dp xs) xs.length i)) ∧ ∃ n, w' = w.drewN n := by
  obtain ⟨A, c, rfl⟩ := hR.form
  have hl := hP.le
  have HW := Lib.hid (fun k W (hk : k < xs.length) (h : RdT W _ xs) => refWithin_any (.slice A xs.length c) xs i k W h hk (by omega) hP.nst)
  obtain ⟨e1, e2, _, _⟩ := en_spec (dp xs) hi
  have HI := Lib.hid (fun k (hk : k < xs.length) => wi_iff (d := dp xs) (j := k) hi hk)
  have HR := Lib.hid hR
  obtain ⟨n, hn⟩ : ∃ n, xs.length = n := ⟨_, rfl⟩
  rw [hn] at hi hl HW e1 e2 HI HR ⊢
  generalize en (dp xs) n i = E at *
  clear hR hP hn
  go_enter Try.func19, Try.ntmps19
  go_wp2
  go_loopw [5] (fun x5 wr => ∃ k q : Nat, i < k ∧ k ≤ E ∧ wr = w.drewN q ∧ x5 = .int .i64 k) (fun x _ => E - (intOf x).toNat)
  case atStart => exact ⟨i + 1, 0, by omega, by omega, rfl, by go_num⟩
  case round =>
    obtain ⟨k, q, hik, hk, rfl, rfl⟩ := hrel
    by_cases hkn : k < n
    · have hiff := HI.out k hkn
      by_cases hkE : k < E
      · have HD := Lib.hid (decide_eq_true (hiff.2 ⟨hik, hkE⟩))
        clear hiff
        go_wp2_with (fail)
        refine (HW.out k _ hkn (HR.out.drew q)).mono ?_
        rintro e w2 ⟨rfl, q2, rfl⟩
        rw [HD.out]
        go_wp2
        go_roundw
        case rel => exact ⟨k + 1, q + q2, by omega, by omega, rfl, by go_num⟩
        case measure => simp [intOf] <;> omega
      · have HD := Lib.hid (decide_eq_false (fun h => hkE (hiff.1 h).2))
        obtain rfl : k = E := by omega
        clear hiff
        go_wp2_with (fail)
        refine (HW.out k _ hkn (HR.out.drew q)).mono ?_
        rintro e w2 ⟨rfl, q2, rfl⟩
        rw [HD.out]
        go_wp2
        go_ret
        exact ⟨rfl, q + q2, rfl⟩
    · obtain rfl : k = E := by omega
      go_wp2
      go_ret
      exact ⟨rfl, q, rfl⟩

set_option maxHeartbeats 1000000 in
theorem refRegion_any (v : Value) (xs : List SM) (i : Nat) (w : World) (hR : RdT w v xs) (hi : i < xs.length) (hP : RightP (dp xs) (kp xs) xs.length) :
    Calls Try.prog 22 #[v, .int .i64 i] w fun e w' => e = .returned (.int .i64 (rootF (dp xs) i)) ∧ ∃ n, w' = w.drewN n := by
  obtain ⟨A, c, rfl⟩ := hR.form
  have hl := hP.le
  have HP := Lib.hid (fun k W (hk : k < xs.length) (h : RdT W _ xs) => refParent_any (.slice A xs.length c) xs k W h hk (by omega) hP.nst)
  have HN := Lib.hid hP.nst
  have HR := Lib.hid hR
  obtain ⟨n, hn⟩ : ∃ n, xs.length = n := ⟨_, rfl⟩
  rw [hn] at hi hl HP HN HR
  rw [hn]
  clear hR hP hn
  go_enter Try.func22, Try.ntmps22
  go_wp2
  go_loopw [1] (fun x1 wr => ∃ k q : Nat, k < n ∧ wr = w.drewN q ∧ x1 = .int .i64 k ∧ Hid (rootF (dp xs) k = rootF (dp xs) i)) (fun x _ => (intOf x).toNat)
  case atStart => exact ⟨i, 0, hi, rfl, rfl, rfl⟩
  case round =>
    obtain ⟨k, q, hk, rfl, rfl, HK⟩ := hrel
    have hnx : (par (dp xs) k = -1 ∧ rootF (dp xs) i = k) ∨ ∃ p : Nat, par (dp xs) k = p ∧ p < k ∧ rootF (dp xs) p = rootF (dp xs) i := by
      rcases HN.out.nearest hk with ⟨h, h0⟩ | ⟨p, h, h1, _⟩
      · exact Or.inl ⟨h, HK.out.symm.trans (HN.out.root_zero hk h0)⟩
      · exact Or.inr ⟨p, h, h1, (HN.out.root_par hk h).symm.trans HK.out⟩
    rcases hnx with ⟨h, hr⟩ | ⟨p, h, hpk, hr⟩
    · have HH := Lib.hid h; have HRR := Lib.hid hr
      clear h hr HK
      go_wp2_with (fail)
      refine (HP.out k _ hk (HR.out.drew q)).mono ?_
      rintro e w2 ⟨rfl, q2, rfl⟩
      rw [HH.out]
      go_wp2
      go_ret
      exact ⟨ret_int (by rw [HRR.out]), q + q2, rfl⟩
    · have HH := Lib.hid h; have HRR := Lib.hid hr
      clear h hr HK
      go_wp2_with (fail)
      refine (HP.out k _ hk (HR.out.drew q)).mono ?_
      rintro e w2 ⟨rfl, q2, rfl⟩
      rw [HH.out]
      go_wp2_with (fail)
      refine (HP.out k _ hk (HR.out.drew (q + q2))).mono ?_
      rintro e w2 ⟨rfl, q3, rfl⟩
      rw [HH.out]
      go_wp2
      go_roundw
      case rel => exact ⟨p, q + q2 + q3, by omega, rfl, rfl, HRR.out⟩
      case measure => simp [intOf] <;> omega

set_option maxHeartbeats 1000000 in
theorem refDomain_any (v : Value) (xs : List SM) (i j : Nat) (w : World) (hR : RdT w v xs) (hi : i < xs.length) (hj : j < xs.length) (hP : RightP (dp xs) (kp xs) xs.length) :
    Calls Try.prog 26 #[v, .int .i64 i, .int .i64 j] w fun e w' => e = .returned (.int .i64 (dom (dp xs) (kp xs) i j)) ∧ ∃ n, w' = w.drewN n := by
  obtain ⟨A, c, rfl⟩ := hR.form
  have hl := hP.le
  have HP := Lib.hid (fun k W (hk : k < xs.length) (h : RdT W _ xs) => refParent_any (.slice A xs.length c) xs k W h hk (by omega) hP.nst)
  have HW := Lib.hid (fun k W (h : RdT W _ xs) => refWithin_any (.slice A xs.length c) xs k j W h hj (by omega) hP.nst)
  have HN := Lib.hid hP.nst
  have HR := Lib.hid hR
  obtain ⟨b, o, rfl, hb0, hcc⟩ := hR.base (by omega)
  obtain ⟨n, hn⟩ : ∃ n, xs.length = n := ⟨_, rfl⟩
  have HCL : Hid (∀ m, m < n → w.cell? ⟨b, o + m * 6 + 1, none⟩ = some (.int .i64 (kp xs m))) := fun m hm => (hcc m (by omega)).2.1
  rw [hn] at hi hj hl HP HN HW HR
  rw [hn]
  clear hR hP hn hcc hb0
  go_enter Try.func26, Try.ntmps26
  go_wp2
  go_loopw [7] (fun x7 wr => ∃ q : Nat, wr = w.drewN q ∧ ((x7 = .int .i64 (-1) ∧ Hid (dom (dp xs) (kp xs) i j = -1)) ∨ ∃ k : Nat, k < n ∧ x7 = .int .i64 k ∧ Hid (dom (dp xs) (kp xs) k j = dom (dp xs) (kp xs) i j))) (fun x _ => (intOf x + 1).toNat)
  case atStart => exact ⟨0, rfl, Or.inr ⟨i, hi, rfl, rfl⟩⟩
  case round =>
    obtain ⟨q, rfl, ⟨hx, HF⟩ | ⟨k, hk, hx, HK⟩⟩ := hrel
    · subst hx
      go_wp2
      go_ret
      exact ⟨ret_int HF.out.symm, q, rfl⟩
    · subst hx
      have ck := HCL.out k hk
      have hnx : one (dp xs) (kp xs) j k = false → (par (dp xs) k = -1 ∧ dom (dp xs) (kp xs) i j = -1) ∨ ∃ p : Nat, par (dp xs) k = p ∧ p < k ∧ dom (dp xs) (kp xs) p j = dom (dp xs) (kp xs) i j := by
        intro ho
        rcases HN.out.nearest hk with ⟨h, _⟩ | ⟨p, h, h1, _⟩
        · exact Or.inl ⟨h, by rw [← HK.out]; exact HN.out.dom_none hk ho h⟩
        · exact Or.inr ⟨p, h, h1, by rw [← HK.out]; exact (HN.out.dom_par hk ho h).symm⟩
      by_cases h2 : kp xs k = 2
      · by_cases hw : wi (dp xs) k j
        · have hh : dom (dp xs) (kp xs) k j = k := dom_here (decide_eq_true ⟨h2, hw⟩)
          have HH := Lib.hid (hh.symm.trans HK.out)
          have HWD := Lib.hid (decide_eq_true hw)
          rw [h2] at ck
          clear hh hnx h2 hw
          go_wp2_with (fail)
          refine (HW.out k _ (HR.out.drew q)).mono ?_
          rintro e w2 ⟨rfl, q2, rfl⟩
          rw [HWD.out]
          go_wp2
          go_ret
          exact ⟨ret_int HH.out, q + q2, rfl⟩
        · have HNX := Lib.hid (hnx (decide_eq_false (fun h => hw h.2)))
          have HWD := Lib.hid (decide_eq_false hw)
          rw [h2] at ck
          clear hnx h2 hw
          go_wp2_with (fail)
          refine (HW.out k _ (HR.out.drew q)).mono ?_
          rintro e w2 ⟨rfl, q2, rfl⟩
          rw [HWD.out]
          go_wp2_with (fail)
          refine (HP.out k _ hk (HR.out.drew (q + q2))).mono ?_
          rintro e w2 ⟨rfl, q3, rfl⟩
          rcases HNX.out with ⟨h, hf⟩ | ⟨p, h, hpk, hf⟩
          · rw [h]
            have HF := Lib.hid hf
            clear hf h HNX
            go_wp2
            go_roundw
            case rel => exact ⟨q + q2 + q3, rfl, Or.inl ⟨rfl, HF.out⟩⟩
            case measure => simp [intOf] <;> omega
          · rw [h]
            have HF := Lib.hid hf
            clear hf h HNX
            go_wp2
            go_roundw
            case rel => exact ⟨q + q2 + q3, rfl, Or.inr ⟨p, by omega, rfl, HF.out⟩⟩
            case measure => simp [intOf] <;> omega
      · have HNX := Lib.hid (hnx (decide_eq_false (fun h => h2 h.1)))
        have hk2 := int_ne h2
        clear hnx h2
        go_wp2_with (fail)
        refine (HP.out k _ hk (HR.out.drew q)).mono ?_
        rintro e w2 ⟨rfl, q3, rfl⟩
        rcases HNX.out with ⟨h, hf⟩ | ⟨p, h, hpk, hf⟩
        · rw [h]
          have HF := Lib.hid hf
          clear hf h HNX
          go_wp2
          go_roundw
          case rel => exact ⟨q + q3, rfl, Or.inl ⟨rfl, HF.out⟩⟩
          case measure => simp [intOf] <;> omega
        · rw [h]
          have HF := Lib.hid hf
          clear hf h HNX
          go_wp2
          go_roundw
          case rel => exact ⟨q + q3, rfl, Or.inr ⟨p, by omega, rfl, HF.out⟩⟩
          case measure => simp [intOf] <;> omega
end Go.Proofs.Ytpmgleioldlolaa
