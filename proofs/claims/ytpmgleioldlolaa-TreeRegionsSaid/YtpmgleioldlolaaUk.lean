/- Parent, End, Within, Region, Domain of a place that there is, and of one that there isn't. -/
import Derived.Test.YtpmgleioldlolaaUj
namespace Go.Proofs.Ytpmgleioldlolaa
open Go.RowKit


set_option maxHeartbeats 1000000 in
theorem parent_no (v : Value) (xs : List SM) (i : Int) (w : World) (hR : RdT w v xs) (hl : xs.length ≤ 4611686018427387904) (hno : ¬ HasP xs i) :
    Calls Try.prog 13 #[v, .int .i64 i] w fun e w' => e = .returned (.int .i64 (-1)) ∧ Below w.heap.size w w' := by
  obtain ⟨A, c, rfl⟩ := hR.form
  have HB0 : Hid (Below w.heap.size w (w.alloc (.cells #[.int .i64 i] 3))) := (Below.refl _ _).alloc (Nat.le_refl _) _
  have hc := hold_any (.slice A xs.length c) _ xs [i] _ (hR.below HB0.out) (rdZ_new rfl [i] (by simp)) hl (by simp)
  rw [decide_eq_false (fun h => hno (hold_one.1 h))] at hc
  have HC := Lib.hid hc
  clear hc hR hno
  go_enter Try.func13, Try.ntmps13
  go_wp2_with (fail)
  refine HC.out.mono ?_
  rintro e w1 ⟨rfl, hb⟩
  have HB1 := Lib.hid (HB0.out.trans (hb.mono HB0.out.size)); clear hb
  go_wp2
  go_ret
  exact ⟨rfl, HB1.out⟩

set_option maxHeartbeats 1000000 in
theorem end_no (v : Value) (xs : List SM) (i : Int) (w : World) (hR : RdT w v xs) (hl : xs.length ≤ 4611686018427387904) (hno : ¬ HasP xs i) :
    Calls Try.prog 14 #[v, .int .i64 i] w fun e w' => e = .returned (.int .i64 (-1)) ∧ Below w.heap.size w w' := by
  obtain ⟨A, c, rfl⟩ := hR.form
  have HB0 : Hid (Below w.heap.size w (w.alloc (.cells #[.int .i64 i] 3))) := (Below.refl _ _).alloc (Nat.le_refl _) _
  have hc := hold_any (.slice A xs.length c) _ xs [i] _ (hR.below HB0.out) (rdZ_new rfl [i] (by simp)) hl (by simp)
  rw [decide_eq_false (fun h => hno (hold_one.1 h))] at hc
  have HC := Lib.hid hc
  clear hc hR hno
  go_enter Try.func14, Try.ntmps14
  go_wp2_with (fail)
  refine HC.out.mono ?_
  rintro e w1 ⟨rfl, hb⟩
  have HB1 := Lib.hid (HB0.out.trans (hb.mono HB0.out.size)); clear hb
  go_wp2
  go_ret
  exact ⟨rfl, HB1.out⟩

set_option maxHeartbeats 1000000 in
theorem kids_no (v : Value) (xs : List SM) (i : Int) (w : World) (hR : RdT w v xs) (hl : xs.length ≤ 4611686018427387904) (hno : ¬ HasP xs i) :
    Calls Try.prog 15 #[v, .int .i64 i] w fun e w' => e = .returned (.slice none 0 0) ∧ Below w.heap.size w w' := by
  obtain ⟨A, c, rfl⟩ := hR.form
  have HB0 : Hid (Below w.heap.size w (w.alloc (.cells #[.int .i64 i] 3))) := (Below.refl _ _).alloc (Nat.le_refl _) _
  have hc := hold_any (.slice A xs.length c) _ xs [i] _ (hR.below HB0.out) (rdZ_new rfl [i] (by simp)) hl (by simp)
  rw [decide_eq_false (fun h => hno (hold_one.1 h))] at hc
  have HC := Lib.hid hc
  clear hc hR hno
  go_enter Try.func15, Try.ntmps15
  go_wp2_with (fail)
  refine HC.out.mono ?_
  rintro e w1 ⟨rfl, hb⟩
  have HB1 := Lib.hid (HB0.out.trans (hb.mono HB0.out.size)); clear hb
  go_wp2
  go_ret
  exact ⟨rfl, HB1.out⟩

set_option maxHeartbeats 1000000 in
theorem region_no (v : Value) (xs : List SM) (i : Int) (w : World) (hR : RdT w v xs) (hl : xs.length ≤ 4611686018427387904) (hno : ¬ HasP xs i) :
    Calls Try.prog 16 #[v, .int .i64 i] w fun e w' => e = .returned (.int .i64 (-1)) ∧ Below w.heap.size w w' := by
  obtain ⟨A, c, rfl⟩ := hR.form
  have HB0 : Hid (Below w.heap.size w (w.alloc (.cells #[.int .i64 i] 3))) := (Below.refl _ _).alloc (Nat.le_refl _) _
  have hc := hold_any (.slice A xs.length c) _ xs [i] _ (hR.below HB0.out) (rdZ_new rfl [i] (by simp)) hl (by simp)
  rw [decide_eq_false (fun h => hno (hold_one.1 h))] at hc
  have HC := Lib.hid hc
  clear hc hR hno
  go_enter Try.func16, Try.ntmps16
  go_wp2_with (fail)
  refine HC.out.mono ?_
  rintro e w1 ⟨rfl, hb⟩
  have HB1 := Lib.hid (HB0.out.trans (hb.mono HB0.out.size)); clear hb
  go_wp2
  go_ret
  exact ⟨rfl, HB1.out⟩

set_option maxHeartbeats 1000000 in
theorem within_no (v : Value) (xs : List SM) (i j : Int) (w : World) (hR : RdT w v xs) (hl : xs.length ≤ 4611686018427387904) (hno : ¬ (HasP xs i ∧ HasP xs j)) :
    Calls Try.prog 23 #[v, .int .i64 i, .int .i64 j] w fun e w' => e = .returned (.bool false) ∧ Below w.heap.size w w' := by
  obtain ⟨A, c, rfl⟩ := hR.form
  have HB0 : Hid (Below w.heap.size w (w.alloc (.cells #[.int .i64 i, .int .i64 j] 3))) := (Below.refl _ _).alloc (Nat.le_refl _) _
  have hc := hold_any (.slice A xs.length c) _ xs [i, j] _ (hR.below HB0.out) (rdZ_new rfl [i, j] (by simp)) hl (by simp)
  rw [decide_eq_false (fun h => hno (hold_two.1 h))] at hc
  have HC := Lib.hid hc
  clear hc hR hno
  go_enter Try.func23, Try.ntmps23
  go_wp2_with (fail)
  refine HC.out.mono ?_
  rintro e w1 ⟨rfl, hb⟩
  have HB1 := Lib.hid (HB0.out.trans (hb.mono HB0.out.size)); clear hb
  go_wp2
  go_ret
  exact ⟨rfl, HB1.out⟩

set_option maxHeartbeats 1000000 in
theorem domain_no (v : Value) (xs : List SM) (i j : Int) (w : World) (hR : RdT w v xs) (hl : xs.length ≤ 4611686018427387904) (hno : ¬ (HasP xs i ∧ HasP xs j)) :
    Calls Try.prog 24 #[v, .int .i64 i, .int .i64 j] w fun e w' => e = .returned (.int .i64 (-1)) ∧ Below w.heap.size w w' := by
  obtain ⟨A, c, rfl⟩ := hR.form
  have HB0 : Hid (Below w.heap.size w (w.alloc (.cells #[.int .i64 i, .int .i64 j] 3))) := (Below.refl _ _).alloc (Nat.le_refl _) _
  have hc := hold_any (.slice A xs.length c) _ xs [i, j] _ (hR.below HB0.out) (rdZ_new rfl [i, j] (by simp)) hl (by simp)
  rw [decide_eq_false (fun h => hno (hold_two.1 h))] at hc
  have HC := Lib.hid hc
  clear hc hR hno
  go_enter Try.func24, Try.ntmps24
  go_wp2_with (fail)
  refine HC.out.mono ?_
  rintro e w1 ⟨rfl, hb⟩
  have HB1 := Lib.hid (HB0.out.trans (hb.mono HB0.out.size)); clear hb
  go_wp2
  go_ret
  exact ⟨rfl, HB1.out⟩

set_option maxHeartbeats 1000000 in
theorem parent_yes (v : Value) (xs : List SM) (i : Nat) (w : World) (hR : RdT w v xs) (hi : i < xs.length) (hP : RightP (dp xs) (kp xs) xs.length) :
    Calls Try.prog 13 #[v, .int .i64 i] w fun e w' => e = .returned (.int .i64 (par (dp xs) i)) ∧ Below w.heap.size w w' := by
  obtain ⟨A, c, rfl⟩ := hR.form
  have hl := hP.le
  have HB0 : Hid (Below w.heap.size w (w.alloc (.cells #[.int .i64 i] 3))) := (Below.refl _ _).alloc (Nat.le_refl _) _
  have hc := hold_any (.slice A xs.length c) _ xs [(i : Int)] _ (hR.below HB0.out) (rdZ_new rfl [(i : Int)] (by simp)) (by omega) (by simp)
  rw [decide_eq_true (hold_one.2 ⟨by omega, by omega, hP⟩)] at hc
  have HC := Lib.hid hc
  have HCC := Lib.hid (fun W (h : RdT W _ xs) => parent_any (.slice A xs.length c) xs i W h hi (by omega))
  have HR := Lib.hid hR
  clear hc hR hP
  go_enter Try.func13, Try.ntmps13
  go_wp2_with (fail)
  refine HC.out.mono ?_
  rintro e w1 ⟨rfl, hb⟩
  have HB1 := Lib.hid (HB0.out.trans (hb.mono HB0.out.size)); clear hb
  go_wp2_with (fail)
  refine (HCC.out _ (HR.out.below HB1.out)).mono ?_
  rintro e w2 ⟨rfl, q, rfl⟩
  go_wp2
  go_ret
  exact ⟨rfl, below_drewN HB1.out q⟩

set_option maxHeartbeats 1000000 in
theorem end_yes (v : Value) (xs : List SM) (i : Nat) (w : World) (hR : RdT w v xs) (hi : i < xs.length) (hP : RightP (dp xs) (kp xs) xs.length) :
    Calls Try.prog 14 #[v, .int .i64 i] w fun e w' => e = .returned (.int .i64 (en (dp xs) xs.length i)) ∧ Below w.heap.size w w' := by
  obtain ⟨A, c, rfl⟩ := hR.form
  have hl := hP.le
  have HB0 : Hid (Below w.heap.size w (w.alloc (.cells #[.int .i64 i] 3))) := (Below.refl _ _).alloc (Nat.le_refl _) _
  have hc := hold_any (.slice A xs.length c) _ xs [(i : Int)] _ (hR.below HB0.out) (rdZ_new rfl [(i : Int)] (by simp)) (by omega) (by simp)
  rw [decide_eq_true (hold_one.2 ⟨by omega, by omega, hP⟩)] at hc
  have HC := Lib.hid hc
  have HCC := Lib.hid (fun W (h : RdT W _ xs) => end_any (.slice A xs.length c) xs i W h hi (by omega))
  have HR := Lib.hid hR
  clear hc hR hP
  go_enter Try.func14, Try.ntmps14
  go_wp2_with (fail)
  refine HC.out.mono ?_
  rintro e w1 ⟨rfl, hb⟩
  have HB1 := Lib.hid (HB0.out.trans (hb.mono HB0.out.size)); clear hb
  go_wp2_with (fail)
  refine (HCC.out _ (HR.out.below HB1.out)).mono ?_
  rintro e w2 ⟨rfl, q, rfl⟩
  go_wp2
  go_ret
  exact ⟨rfl, below_drewN HB1.out q⟩

set_option maxHeartbeats 1000000 in
theorem within_yes (v : Value) (xs : List SM) (i j : Nat) (w : World) (hR : RdT w v xs) (hi : i < xs.length) (hj : j < xs.length) (hP : RightP (dp xs) (kp xs) xs.length) :
    Calls Try.prog 23 #[v, .int .i64 i, .int .i64 j] w fun e w' => e = .returned (.bool (decide (wi (dp xs) i j))) ∧ Below w.heap.size w w' := by
  obtain ⟨A, c, rfl⟩ := hR.form
  have hl := hP.le
  have HB0 : Hid (Below w.heap.size w (w.alloc (.cells #[.int .i64 i, .int .i64 j] 3))) := (Below.refl _ _).alloc (Nat.le_refl _) _
  have hc := hold_any (.slice A xs.length c) _ xs [(i : Int), (j : Int)] _ (hR.below HB0.out) (rdZ_new rfl [(i : Int), (j : Int)] (by simp)) (by omega) (by simp)
  rw [decide_eq_true (hold_two.2 ⟨⟨by omega, by omega, hP⟩, by omega, by omega, hP⟩)] at hc
  have HC := Lib.hid hc
  have HCC := Lib.hid (fun W (h : RdT W _ xs) => within_any (.slice A xs.length c) xs i j W h hi hj (by omega))
  have HR := Lib.hid hR
  clear hc hR hP
  go_enter Try.func23, Try.ntmps23
  go_wp2_with (fail)
  refine HC.out.mono ?_
  rintro e w1 ⟨rfl, hb⟩
  have HB1 := Lib.hid (HB0.out.trans (hb.mono HB0.out.size)); clear hb
  go_wp2_with (fail)
  refine (HCC.out _ (HR.out.below HB1.out)).mono ?_
  rintro e w2 ⟨rfl, q, rfl⟩
  go_wp2
  go_ret
  exact ⟨rfl, below_drewN HB1.out q⟩

set_option maxHeartbeats 2000000 in
theorem region_yes (v : Value) (xs : List SM) (i : Nat) (w : World) (hR : RdT w v xs) (hi : i < xs.length) (hP : RightP (dp xs) (kp xs) xs.length) :
    Calls Try.prog 16 #[v, .int .i64 i] w fun e w' => e = .returned (.int .i64 (rootF (dp xs) i)) ∧ Below w.heap.size w w' := by
  obtain ⟨A, c, rfl⟩ := hR.form
  have hl := hP.le
  have HN := Lib.hid hP.nst
  have HB0 : Hid (Below w.heap.size w (w.alloc (.cells #[.int .i64 i] 3))) := (Below.refl _ _).alloc (Nat.le_refl _) _
  have hc := hold_any (.slice A xs.length c) _ xs [(i : Int)] _ (hR.below HB0.out) (rdZ_new rfl [(i : Int)] (by simp)) (by omega) (by simp)
  rw [decide_eq_true (hold_one.2 ⟨by omega, by omega, hP⟩)] at hc
  have HC := Lib.hid hc
  have HPA := Lib.hid (fun k W (hk : k < xs.length) (h : RdT W _ xs) => parent_any (.slice A xs.length c) xs k W h hk (by omega))
  obtain ⟨b, o, rfl, hb0, hcc⟩ := hR.base (by omega)
  obtain ⟨n, hn⟩ : ∃ n, xs.length = n := ⟨_, rfl⟩
  have HCL : Hid (∀ m, m < n → w.cell? ⟨b, o + m * 6 + 1, none⟩ = some (.int .i64 (kp xs m)) ∧ w.cell? ⟨b, o + m * 6 + 2, none⟩ = some (.int .i64 (dp xs m))) := fun m hm => ⟨(hcc m (by omega)).2.1, (hcc m (by omega)).2.2.1⟩
  have HR := Lib.hid hR; have HBL := Lib.hid hb0
  rw [hn] at hi hl HN HC HPA HR ⊢
  clear hc hR hP hn hcc hb0
  go_enter Try.func16, Try.ntmps16
  go_wp2_with (fail)
  refine HC.out.mono ?_
  rintro e w1 ⟨rfl, hb⟩
  have HB1 := Lib.hid (HB0.out.trans (hb.mono HB0.out.size)); clear hb
  have HC1 : Hid (∀ m, m < n → w1.cell? ⟨b, o + m * 6 + 1, none⟩ = some (.int .i64 (kp xs m)) ∧ w1.cell? ⟨b, o + m * 6 + 2, none⟩ = some (.int .i64 (dp xs m))) := fun m hm => ⟨(HB1.out.cell HBL.out).trans (HCL.out m hm).1, (HB1.out.cell HBL.out).trans (HCL.out m hm).2⟩
  have HR1 := Lib.hid (HR.out.below HB1.out)
  go_wp2
  go_loopw [1] (fun x1 wr => ∃ k q : Nat, k < n ∧ wr = w1.drewN q ∧ x1 = .int .i64 k ∧ Hid (rootF (dp xs) k = rootF (dp xs) i)) (fun x _ => (intOf x).toNat)
  case atStart => exact ⟨i, 0, hi, rfl, rfl, rfl⟩
  case round =>
    obtain ⟨k, q, hk, rfl, rfl, HK⟩ := hrel
    have ck := (HC1.out k hk).2
    have hlo := HN.out.lo k hk
    by_cases hd : 0 < dp xs k
    · have hnx : ∃ p : Nat, par (dp xs) k = p ∧ p < k := by
        rcases HN.out.nearest hk with ⟨_, h⟩ | ⟨p, h, h1, _⟩
        · omega
        · exact ⟨p, h, h1⟩
      obtain ⟨p, hp, hpk⟩ := hnx
      have HP := Lib.hid hp
      have HK2 := Lib.hid ((HN.out.root_par hk hp).symm.trans HK.out)
      clear HK hp
      go_wp2_with (fail)
      refine (HPA.out k _ hk (HR1.out.drew q)).mono ?_
      rintro e w2 ⟨rfl, q2, rfl⟩
      rw [HP.out]
      go_wp2
      go_roundw
      case rel => exact ⟨p, q + q2, by omega, rfl, rfl, HK2.out⟩
      case measure => simp [intOf] <;> omega
    · have hr := HN.out.root_zero hk (by omega)
      have HR2 := Lib.hid (hr.symm.trans HK.out)
      clear hr HK
      go_wp2
      go_ret
      exact ⟨ret_int (by rw [HR2.out]), below_drewN HB1.out q⟩

set_option maxHeartbeats 2000000 in
theorem domain_yes (v : Value) (xs : List SM) (i j : Nat) (w : World) (hR : RdT w v xs) (hi : i < xs.length) (hj : j < xs.length) (hP : RightP (dp xs) (kp xs) xs.length) :
    Calls Try.prog 24 #[v, .int .i64 i, .int .i64 j] w fun e w' => e = .returned (.int .i64 (dom (dp xs) (kp xs) i j)) ∧ Below w.heap.size w w' := by
  obtain ⟨A, c, rfl⟩ := hR.form
  have hl := hP.le
  have HN := Lib.hid hP.nst
  have HB0 : Hid (Below w.heap.size w (w.alloc (.cells #[.int .i64 i, .int .i64 j] 3))) := (Below.refl _ _).alloc (Nat.le_refl _) _
  have hc := hold_any (.slice A xs.length c) _ xs [(i : Int), (j : Int)] _ (hR.below HB0.out) (rdZ_new rfl [(i : Int), (j : Int)] (by simp)) (by omega) (by simp)
  rw [decide_eq_true (hold_two.2 ⟨⟨by omega, by omega, hP⟩, by omega, by omega, hP⟩)] at hc
  have HC := Lib.hid hc
  have HPA := Lib.hid (fun k W (hk : k < xs.length) (h : RdT W _ xs) => parent_any (.slice A xs.length c) xs k W h hk (by omega))
  have HWI := Lib.hid (fun k W (hk : k < xs.length) (h : RdT W _ xs) => within_any (.slice A xs.length c) xs k j W h hk hj (by omega))
  obtain ⟨b, o, rfl, hb0, hcc⟩ := hR.base (by omega)
  obtain ⟨n, hn⟩ : ∃ n, xs.length = n := ⟨_, rfl⟩
  have HCL : Hid (∀ m, m < n → w.cell? ⟨b, o + m * 6 + 1, none⟩ = some (.int .i64 (kp xs m)) ∧ w.cell? ⟨b, o + m * 6 + 2, none⟩ = some (.int .i64 (dp xs m))) := fun m hm => ⟨(hcc m (by omega)).2.1, (hcc m (by omega)).2.2.1⟩
  have HR := Lib.hid hR; have HBL := Lib.hid hb0
  rw [hn] at hi hj hl HN HC HPA HWI HR ⊢
  clear hc hR hP hn hcc hb0
  go_enter Try.func24, Try.ntmps24
  go_wp2_with (fail)
  refine HC.out.mono ?_
  rintro e w1 ⟨rfl, hb⟩
  have HB1 := Lib.hid (HB0.out.trans (hb.mono HB0.out.size)); clear hb
  have HC1 : Hid (∀ m, m < n → w1.cell? ⟨b, o + m * 6 + 1, none⟩ = some (.int .i64 (kp xs m)) ∧ w1.cell? ⟨b, o + m * 6 + 2, none⟩ = some (.int .i64 (dp xs m))) := fun m hm => ⟨(HB1.out.cell HBL.out).trans (HCL.out m hm).1, (HB1.out.cell HBL.out).trans (HCL.out m hm).2⟩
  have HR1 := Lib.hid (HR.out.below HB1.out)
  go_wp2
  go_loopw [7] (fun x7 wr => ∃ q : Nat, wr = w1.drewN q ∧ ((x7 = .int .i64 (-1) ∧ Hid (dom (dp xs) (kp xs) i j = -1)) ∨ ∃ k : Nat, k < n ∧ x7 = .int .i64 k ∧ Hid (dom (dp xs) (kp xs) k j = dom (dp xs) (kp xs) i j))) (fun x _ => (intOf x + 1).toNat)
  case atStart => exact ⟨0, rfl, Or.inr ⟨i, hi, rfl, rfl⟩⟩
  case round =>
    obtain ⟨q, rfl, ⟨hx, HF⟩ | ⟨k, hk, hx, HK⟩⟩ := hrel
    · subst hx
      go_wp2
      go_ret
      exact ⟨ret_int HF.out.symm, below_drewN HB1.out q⟩
    · subst hx
      have ck := (HC1.out k hk).1
      have hne : ((k : Int) != -1) = true := bne_iff_ne.2 (by omega)
      have hnx : one (dp xs) (kp xs) j k = false → (par (dp xs) k = -1 ∧ dom (dp xs) (kp xs) i j = -1) ∨ ∃ p : Nat, par (dp xs) k = p ∧ p < k ∧ dom (dp xs) (kp xs) p j = dom (dp xs) (kp xs) i j := by
        intro ho
        rcases HN.out.nearest hk with ⟨h, _⟩ | ⟨p, h, h1, _⟩
        · exact Or.inl ⟨h, by rw [← HK.out]; exact HN.out.dom_none hk ho h⟩
        · exact Or.inr ⟨p, h, h1, by rw [← HK.out]; exact (HN.out.dom_par hk ho h).symm⟩
      by_cases h2 : kp xs k = 2
      · by_cases hw : wi (dp xs) k j
        · have hh : dom (dp xs) (kp xs) k j = k := dom_here (decide_eq_true ⟨h2, hw⟩)
          have HH := Lib.hid (hh.symm.trans HK.out)
          have HW := Lib.hid (decide_eq_true hw)
          rw [h2] at ck
          clear hh hnx h2 hw
          go_wp2_with (fail)
          refine (HWI.out k _ hk (HR1.out.drew q)).mono ?_
          rintro e w2 ⟨rfl, q2, rfl⟩
          rw [HW.out]
          go_wp2
          go_ret
          exact ⟨ret_int HH.out, below_drewN HB1.out (q + q2)⟩
        · have HNX := Lib.hid (hnx (decide_eq_false (fun h => hw h.2)))
          have HW := Lib.hid (decide_eq_false hw)
          rw [h2] at ck
          clear hnx h2 hw
          go_wp2_with (fail)
          refine (HWI.out k _ hk (HR1.out.drew q)).mono ?_
          rintro e w2 ⟨rfl, q2, rfl⟩
          rw [HW.out]
          go_wp2_with (fail)
          refine (HPA.out k _ hk (HR1.out.drew (q + q2))).mono ?_
          rintro e w2 ⟨rfl, q3, rfl⟩
          rcases HNX.out with ⟨h, hf⟩ | ⟨p, h, hpk, hf⟩
          · rw [h]
            have HF := Lib.hid hf
            clear hf h HNX
            go_wp2
            go_roundw
            case rel => exact ⟨q + q2 + q3, rfl, Or.inl ⟨rfl, HF.out⟩⟩
            case measure => simp [intOf] <;> omega
          · rw [h]
            have HF := Lib.hid hf
            clear hf h HNX
            go_wp2
            go_roundw
            case rel => exact ⟨q + q2 + q3, rfl, Or.inr ⟨p, by omega, rfl, HF.out⟩⟩
            case measure => simp [intOf] <;> omega
      · have HNX := Lib.hid (hnx (decide_eq_false (fun h => h2 h.1)))
        have hk2 := int_ne h2
        clear hnx h2
        go_wp2_with (fail)
        refine (HPA.out k _ hk (HR1.out.drew q)).mono ?_
        rintro e w2 ⟨rfl, q3, rfl⟩
        rcases HNX.out with ⟨h, hf⟩ | ⟨p, h, hpk, hf⟩
        · rw [h]
          have HF := Lib.hid hf
          clear hf h HNX
          go_wp2
          go_roundw
          case rel => exact ⟨q + q3, rfl, Or.inl ⟨rfl, HF.out⟩⟩
          case measure => simp [intOf] <;> omega
        · rw [h]
          have HF := Lib.hid hf
          clear hf h HNX
          go_wp2
          go_roundw
          case rel => exact ⟨q + q3, rfl, Or.inr ⟨p, by omega, rfl, HF.out⟩⟩
          case measure => simp [intOf] <;> omega
end Go.Proofs.Ytpmgleioldlolaa
