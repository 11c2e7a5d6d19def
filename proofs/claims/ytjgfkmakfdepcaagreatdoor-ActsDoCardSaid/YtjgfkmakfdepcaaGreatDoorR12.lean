/- Own texts, joined: Vp, Vd. -/
import Derived.Test.YtjgfkmakfdepcaaGreatDoorR11
namespace Go.Proofs.YtjgfkmakfdepcaaGreatDoor
open Go.RowKit

theorem vwithin_any (n : Int) (w : World) :
    Calls Tryz.prog 164 #[.int .i64 n] w fun e w' => e = .returned (.bool (inB n)) ∧ w = w' := by
  by_cases h1 : -1048576 ≤ n
  · by_cases h2 : n ≤ 1048576
    · have hL : inB n = true := decide_eq_true ⟨h1, h2⟩
      rw [hL]; clear hL
      go_enter Tryz.func164, Tryz.ntmps164
      go_wp2
      go_ret
      exact ⟨rfl, rfl⟩
    · have hL : inB n = false := decide_eq_false (fun h => h2 h.2)
      rw [hL]; clear hL
      go_enter Tryz.func164, Tryz.ntmps164
      go_wp2
      go_ret
      exact ⟨rfl, rfl⟩
  · have hL : inB n = false := decide_eq_false (fun h => h1 h.1)
    rw [hL]; clear hL
    go_enter Tryz.func164, Tryz.ntmps164
    go_wp2
    go_ret
    exact ⟨rfl, rfl⟩

/-- what is answered of a point -/
def outC (a b : Int) : Ending := if (inB a && inB b) = true then .returned (.tuple #[.complex .f64 (fl a) (fl b), .int .i64 0]) else .returned (.tuple #[.complex .f64 0 0, .int .i64 5])
theorem outC_ok {a b : Int} (h : (inB a && inB b) = true) : outC a b = .returned (.tuple #[.complex .f64 (fl a) (fl b), .int .i64 0]) := if_pos h
theorem outC_no {a b : Int} (h : ¬ (inB a && inB b) = true) : outC a b = .returned (.tuple #[.complex .f64 0 0, .int .i64 5]) := if_neg h

theorem made_any (a b : Int) (w : World) :
    Calls Tryz.prog 139 #[.int .i64 a, .int .i64 b] w fun e w' => e = outC a b ∧ w = w' := by
  by_cases h : (inB a && inB b) = true
  · rw [outC_ok h]
    simp only [Bool.and_eq_true] at h
    obtain ⟨ha, hb⟩ := h
    go_enter Tryz.func139, Tryz.ntmps139
    go_wp2_with (go_at_call 164; refine (vwithin_any _ _).mono ?_; rintro e w' ⟨rfl, rfl⟩)
    go_ret2
    exact ⟨rfl, rfl⟩
  · rw [outC_no h]
    cases ha : inB a
    · clear h
      go_enter Tryz.func139, Tryz.ntmps139
      go_wp2_with (go_at_call 164; refine (vwithin_any _ _).mono ?_; rintro e w' ⟨rfl, rfl⟩)
      go_ret2
      exact ⟨rfl, rfl⟩
    · rw [ha, Bool.true_and] at h
      simp only [Bool.not_eq_true] at h
      go_enter Tryz.func139, Tryz.ntmps139
      go_wp2_with (go_at_call 164; refine (vwithin_any _ _).mono ?_; rintro e w' ⟨rfl, rfl⟩)
      go_ret2
      exact ⟨rfl, rfl⟩

/-! ### words that stand for whole numbers -/
theorem cmp_le (a b : Int) : (some (compare a b) == some Ordering.lt || some (compare a b) == some Ordering.eq) = decide (a ≤ b) := by
  simp only [compare, compareOfLessAndEq]
  rcases Int.lt_trichotomy a b with h | h | h
  · rw [if_pos h, decide_eq_true (by omega)]; rfl
  · rw [if_neg (by omega), if_pos h, decide_eq_true (by omega)]; rfl
  · rw [if_neg (by omega), if_neg (by omega), decide_eq_false (by omega)]; rfl
theorem cmp_eq (a b : Int) : (some (compare a b) == some Ordering.eq) = decide (a = b) := by
  simp only [compare, compareOfLessAndEq]
  rcases Int.lt_trichotomy a b with h | h | h
  · rw [if_pos h, decide_eq_false (by omega)]; rfl
  · rw [if_neg (by omega), if_pos h, decide_eq_true h]; rfl
  · rw [if_neg (by omega), if_neg (by omega), decide_eq_false (by omega)]; rfl
theorem ord_hi {x : Nat} {a : Int} (h : Rep x a) : (FloatKind.f64.format.order x 4697254411347427328 == some .lt || FloatKind.f64.format.order x 4697254411347427328 == some .eq) = decide (a ≤ 1048576) := by
  have e : (4697254411347427328 : Nat) = floatOfInt .f64 1048576 := by kernel_rfl
  show (Ieee.double.order _ _ == _ || Ieee.double.order _ _ == _) = _
  rw [e, rep_order h (rep_int 1048576 (by omega))]
  exact cmp_le _ _
theorem ord_lo {x : Nat} {a : Int} (h : Rep x a) : (FloatKind.f64.format.order 13920626448202203136 x == some .lt || FloatKind.f64.format.order 13920626448202203136 x == some .eq) = decide (-1048576 ≤ a) := by
  have e : (13920626448202203136 : Nat) = floatOfInt .f64 (-1048576) := by kernel_rfl
  show (Ieee.double.order _ _ == _ || Ieee.double.order _ _ == _) = _
  rw [e, rep_order (rep_int (-1048576) (by omega)) h]
  exact cmp_le _ _
theorem ord_eq {x y : Nat} {a b : Int} (h : Rep x a) (h' : Rep y b) : (FloatKind.f64.format.order x y == some .eq) = decide (a = b) := by
  show (Ieee.double.order _ _ == _) = _
  rw [rep_order h h']
  exact cmp_eq _ _
theorem rep_fl {a : Int} (h : inB a = true) : Rep (fl a) a := by rw [inB_iff] at h; exact rep_int a (by omega)
theorem toInt_rep {x : Nat} {a : Int} (h : Rep x a) (ha : inB a = true) : floatToIntVal .f64 x .i64 = some a := by
  rw [inB_iff] at ha
  unfold floatToIntVal
  have := rep_toInt h
  show (match (Ieee.double.read x).toInt .zero with | some n => _ | none => none) = _
  rw [this]
  have h1 : IntKind.i64.min = -9223372036854775808 := by kernel_rfl
  have h2 : IntKind.i64.max = 9223372036854775807 := by kernel_rfl
  simp only [h1, h2]
  rw [if_pos (by omega)]

theorem whole_rep (x : Nat) (a : Int) (w : World) (h : Rep x a) :
    Calls Tryz.prog 184 #[.float .f64 x] w fun e w' => e = .returned (.bool (inB a)) ∧ w = w' := by
  have h1 := ord_lo h
  have h2 := ord_hi h
  by_cases c1 : -1048576 ≤ a
  · rw [decide_eq_true c1] at h1
    by_cases c2 : a ≤ 1048576
    · rw [decide_eq_true c2] at h2
      have hi : inB a = true := inB_iff.2 ⟨c1, c2⟩
      have h3 : (FloatKind.f64.format.order (floatOfInt .f64 a) x == some .eq) = true := by rw [ord_eq (rep_int a (by omega)) h]; exact decide_eq_true rfl
      have h4 := fun (w : World) => run_convert_float_int (P := Tryz.prog) w 175 2 .f64 .i64 x a (by kernel_rfl) Tryz.underlying2 (toInt_rep h hi)
      rw [hi]
      clear h c1 c2 hi
      go_enter Tryz.func184, Tryz.ntmps184
      go_wp2
      go_ret
      exact ⟨rfl, rfl⟩
    · rw [decide_eq_false c2] at h2
      have hi : inB a = false := decide_eq_false (fun e => c2 e.2)
      rw [hi]
      clear h c1 c2 hi
      go_enter Tryz.func184, Tryz.ntmps184
      go_wp2
      go_ret
      exact ⟨rfl, rfl⟩
  · rw [decide_eq_false c1] at h1
    have hi : inB a = false := decide_eq_false (fun e => c1 e.1)
    rw [hi]
    clear h c1 hi
    go_enter Tryz.func184, Tryz.ntmps184
    go_wp2
    go_ret
    exact ⟨rfl, rfl⟩

theorem isPoint_rep (x y : Nat) (a b : Int) (w : World) (h : Rep x a) (h' : Rep y b) :
    Calls Tryz.prog 168 #[.complex .f64 x y] w fun e w' => e = .returned (.bool (inB a && inB b)) ∧ w = w' := by
  have HX := Lib.hid (fun W => whole_rep x a W h)
  have HY := Lib.hid (fun W => whole_rep y b W h')
  clear h h'
  cases ha : inB a
  · go_enter Tryz.func168, Tryz.ntmps168
    go_wp2_with fail
    refine (HX.out _).mono ?_
    rintro e w' ⟨rfl, rfl⟩
    rw [ha]
    go_wp2
    go_ret
    exact ⟨rfl, rfl⟩
  · rw [Bool.true_and]
    go_enter Tryz.func168, Tryz.ntmps168
    go_wp2_with fail
    refine (HX.out _).mono ?_
    rintro e w' ⟨rfl, rfl⟩
    rw [ha]
    go_wp2_with fail
    refine (HY.out _).mono ?_
    rintro e w' ⟨rfl, rfl⟩
    go_wp2
    go_ret
    exact ⟨rfl, rfl⟩

theorem outC_form (a b : Int) : ∃ c1 c2 er, outC a b = .returned (.tuple #[.complex .f64 c1 c2, .int .i64 er]) := by
  unfold outC
  split
  · exact ⟨_, _, _, rfl⟩
  · exact ⟨_, _, _, rfl⟩
theorem mul_bd {a b : Int} (ha : -1048576 ≤ a ∧ a ≤ 1048576) (hb : -1048576 ≤ b ∧ b ≤ 1048576) : -1099511627776 ≤ a * b ∧ a * b ≤ 1099511627776 := by
  have h : (a * b).natAbs ≤ 1048576 * 1048576 := by
    rw [Int.natAbs_mul]
    exact Nat.mul_le_mul (by omega) (by omega)
  omega

theorem settled_rep (x y : Nat) (a b : Int) (w : World) (h : Rep x a) (h' : Rep y b) :
    Calls Tryz.prog 169 #[.complex .f64 x y] w fun e w' => e = outC a b ∧ w = w' := by
  have HP := Lib.hid (fun W => isPoint_rep x y a b W h h')
  by_cases c : (inB a && inB b) = true
  · have HM := Lib.hid (fun W => made_any a b W)
    have HC := Lib.hid c
    have HO := Lib.hid (outC_ok c)
    simp only [Bool.and_eq_true] at c
    have h4 := fun (w : World) => run_convert_float_int (P := Tryz.prog) w 175 2 .f64 .i64 x a (by kernel_rfl) Tryz.underlying2 (toInt_rep h c.1)
    have h5 := fun (w : World) => run_convert_float_int (P := Tryz.prog) w 175 2 .f64 .i64 y b (by kernel_rfl) Tryz.underlying2 (toInt_rep h' c.2)
    clear h h' c
    go_enter Tryz.func169, Tryz.ntmps169
    go_wp2_with fail
    refine (HP.out _).mono ?_
    rintro e w' ⟨rfl, rfl⟩
    rw [HC.out]
    go_wp2_with fail
    refine (HM.out _).mono ?_
    rintro e w' ⟨rfl, rfl⟩
    rw [HO.out]
    go_wp2
    go_ret2
    exact ⟨HO.out.symm, rfl⟩
  · have HO := Lib.hid (outC_no c)
    have HC := Lib.hid ((Bool.not_eq_true _).mp c)
    clear h h' c
    go_enter Tryz.func169, Tryz.ntmps169
    go_wp2_with fail
    refine (HP.out _).mono ?_
    rintro e w' ⟨rfl, rfl⟩
    rw [HC.out]
    go_wp2
    go_ret2
    exact ⟨HO.out.symm, rfl⟩

theorem add_any (a b c d : Int) (w : World) (ha : inB a = true) (hb : inB b = true) (hc : inB c = true) (hd : inB d = true) :
    Calls Tryz.prog 174 #[.complex .f64 (fl a) (fl b), .complex .f64 (fl c) (fl d)] w fun e w' => e = outC (a + c) (b + d) ∧ w = w' := by
  have HP := Lib.hid (fun W => isPoint_rep (fl a) (fl b) a b W (rep_fl ha) (rep_fl hb))
  have HQ := Lib.hid (fun W => isPoint_rep (fl c) (fl d) c d W (rep_fl hc) (rep_fl hd))
  have HC : Hid ((inB a && inB b) = true) := by show _ = _; rw [ha, hb]; rfl
  have HD : Hid ((inB c && inB d) = true) := by show _ = _; rw [hc, hd]; rfl
  have ka := inB_iff.1 ha; have kb := inB_iff.1 hb; have kc := inB_iff.1 hc; have kd := inB_iff.1 hd
  obtain ⟨r, h1, h2⟩ := rep_add (rep_fl ha) (rep_fl hc) (by omega)
  obtain ⟨s, h3, h4⟩ := rep_add (rep_fl hb) (rep_fl hd) (by omega)
  have HS := Lib.hid (fun W => settled_rep r s _ _ W h2 h4)
  have hop := fun (W : World) t => run_complex_sum (P := Tryz.prog) W .add (Or.inl rfl) t .f64 (fl a) (fl b) (fl c) (fl d) r s (by unfold cSumBits; rw [h1, h3]; rfl)
  obtain ⟨c1, c2, er, ho⟩ := outC_form (a + c) (b + d)
  have HO := Lib.hid ho
  clear ha hb hc hd h1 h2 h3 h4 ka kb kc kd ho
  go_enter Tryz.func174, Tryz.ntmps174
  go_wp2_with fail
  refine (HP.out _).mono ?_
  rintro e w' ⟨rfl, rfl⟩
  rw [HC.out]
  go_wp2_with fail
  refine (HQ.out _).mono ?_
  rintro e w' ⟨rfl, rfl⟩
  rw [HD.out]
  go_wp2_with fail
  refine (HS.out _).mono ?_
  rintro e w' ⟨rfl, rfl⟩
  rw [HO.out]
  go_wp2
  go_ret2
  exact ⟨HO.out.symm, rfl⟩
theorem sub_any (a b c d : Int) (w : World) (ha : inB a = true) (hb : inB b = true) (hc : inB c = true) (hd : inB d = true) :
    Calls Tryz.prog 146 #[.complex .f64 (fl a) (fl b), .complex .f64 (fl c) (fl d)] w fun e w' => e = outC (a - c) (b - d) ∧ w = w' := by
  have HP := Lib.hid (fun W => isPoint_rep (fl a) (fl b) a b W (rep_fl ha) (rep_fl hb))
  have HQ := Lib.hid (fun W => isPoint_rep (fl c) (fl d) c d W (rep_fl hc) (rep_fl hd))
  have HC : Hid ((inB a && inB b) = true) := by show _ = _; rw [ha, hb]; rfl
  have HD : Hid ((inB c && inB d) = true) := by show _ = _; rw [hc, hd]; rfl
  have ka := inB_iff.1 ha; have kb := inB_iff.1 hb; have kc := inB_iff.1 hc; have kd := inB_iff.1 hd
  obtain ⟨r, h1, h2⟩ := rep_sub (rep_fl ha) (rep_fl hc) (by omega)
  obtain ⟨s, h3, h4⟩ := rep_sub (rep_fl hb) (rep_fl hd) (by omega)
  have HS := Lib.hid (fun W => settled_rep r s _ _ W h2 h4)
  have hop := fun (W : World) t => run_complex_sum (P := Tryz.prog) W .sub (Or.inr rfl) t .f64 (fl a) (fl b) (fl c) (fl d) r s (by unfold cSumBits; rw [h1, h3]; rfl)
  obtain ⟨c1, c2, er, ho⟩ := outC_form (a - c) (b - d)
  have HO := Lib.hid ho
  clear ha hb hc hd h1 h2 h3 h4 ka kb kc kd ho
  go_enter Tryz.func146, Tryz.ntmps146
  go_wp2_with fail
  refine (HP.out _).mono ?_
  rintro e w' ⟨rfl, rfl⟩
  rw [HC.out]
  go_wp2_with fail
  refine (HQ.out _).mono ?_
  rintro e w' ⟨rfl, rfl⟩
  rw [HD.out]
  go_wp2_with fail
  refine (HS.out _).mono ?_
  rintro e w' ⟨rfl, rfl⟩
  rw [HO.out]
  go_wp2
  go_ret2
  exact ⟨HO.out.symm, rfl⟩
theorem mul_any (a b c d : Int) (w : World) (ha : inB a = true) (hb : inB b = true) (hc : inB c = true) (hd : inB d = true) :
    Calls Tryz.prog 175 #[.complex .f64 (fl a) (fl b), .complex .f64 (fl c) (fl d)] w fun e w' => e = outC (a * c - b * d) (a * d + b * c) ∧ w = w' := by
  have HP := Lib.hid (fun W => isPoint_rep (fl a) (fl b) a b W (rep_fl ha) (rep_fl hb))
  have HQ := Lib.hid (fun W => isPoint_rep (fl c) (fl d) c d W (rep_fl hc) (rep_fl hd))
  have HC : Hid ((inB a && inB b) = true) := by show _ = _; rw [ha, hb]; rfl
  have HD : Hid ((inB c && inB d) = true) := by show _ = _; rw [hc, hd]; rfl
  have ka := inB_iff.1 ha; have kb := inB_iff.1 hb; have kc := inB_iff.1 hc; have kd := inB_iff.1 hd
  have ma := mul_bd ka kc; have mb := mul_bd kb kd; have mc := mul_bd ka kd; have md := mul_bd kb kc
  obtain ⟨r1, g1, g2⟩ := rep_mul (rep_fl ha) (rep_fl hc) (by omega)
  obtain ⟨r2, g3, g4⟩ := rep_mul (rep_fl hb) (rep_fl hd) (by omega)
  obtain ⟨r3, g5, g6⟩ := rep_mul (rep_fl ha) (rep_fl hd) (by omega)
  obtain ⟨r4, g7, g8⟩ := rep_mul (rep_fl hb) (rep_fl hc) (by omega)
  obtain ⟨r, h1, h2⟩ := rep_sub g2 g4 (by omega)
  obtain ⟨s, h3, h4⟩ := rep_add g6 g8 (by omega)
  have HS := Lib.hid (fun W => settled_rep r s _ _ W h2 h4)
  have hop := fun (W : World) t => run_complex_mul (P := Tryz.prog) W t (fl a) (fl b) (fl c) (fl d) r s (by unfold cMulBits; rw [g1, g3, g5, g7]; simp only [Option.bind_some]; rw [h1, h3]; rfl)
  obtain ⟨c1, c2, er, ho⟩ := outC_form (a * c - b * d) (a * d + b * c)
  have HO := Lib.hid ho
  clear ha hb hc hd h1 h2 h3 h4 ka kb kc kd ho g1 g2 g3 g4 g5 g6 g7 g8 ma mb mc md
  go_enter Tryz.func175, Tryz.ntmps175
  go_wp2_with fail
  refine (HP.out _).mono ?_
  rintro e w' ⟨rfl, rfl⟩
  rw [HC.out]
  go_wp2_with fail
  refine (HQ.out _).mono ?_
  rintro e w' ⟨rfl, rfl⟩
  rw [HD.out]
  go_wp2_with fail
  refine (HS.out _).mono ?_
  rintro e w' ⟨rfl, rfl⟩
  rw [HO.out]
  go_wp2
  go_ret2
  exact ⟨HO.out.symm, rfl⟩
end Go.Proofs.YtjgfkmakfdepcaaGreatDoor
namespace Go.Proofs.YtjgfkmakfdepcaaGreatDoor
open Go.RowKit

theorem ptE_ok {a b : Int} (h : (inB a && inB b) = true) : outV (ptE a b) = .returned (.tuple #[.agg #[.int .i64 3, .int .i64 0, .bool false, .complex .f64 (fl a) (fl b)], .int .i64 0]) := by
  unfold ptE; rw [if_pos h]; exact out_pt a b
theorem ptE_no {a b : Int} (h : ¬ (inB a && inB b) = true) : outV (ptE a b) = .returned (.tuple #[.agg #[.int .i64 0, .int .i64 0, .bool false, .complex .f64 0 0], .int .i64 5]) := by
  unfold ptE; rw [if_neg h]; exact out_er 5
theorem point_any (a b : Int) (c1 c2 : Nat) (er : Int) (w : World) (h : outC a b = .returned (.tuple #[.complex .f64 c1 c2, .int .i64 er])) :
    Calls Tryz.prog 141 #[.complex .f64 c1 c2, .int .i64 er] w fun e w' => e = outV (ptE a b) ∧ Below w.heap.size w w' := by
  by_cases c : (inB a && inB b) = true
  · rw [outC_ok c] at h
    have HO := Lib.hid (ptE_ok c)
    simp at h
    obtain ⟨⟨rfl, rfl⟩, rfl⟩ := h
    clear c
    go_enter Tryz.func141, Tryz.ntmps141
    go_wp2
    refine bodyPost_ret ?_ rfl ⟨HO.out.symm, ?_⟩
    · simp [results, Tryz.results141, go_sem]
    · exact (Below.refl _ _).alloc (Nat.le_refl _) _
  · rw [outC_no c] at h
    have HO := Lib.hid (ptE_no c)
    simp at h
    obtain ⟨⟨rfl, rfl⟩, rfl⟩ := h
    clear c
    go_enter Tryz.func141, Tryz.ntmps141
    go_wp2
    refine bodyPost_ret ?_ rfl ⟨HO.out.symm, ?_⟩
    · simp [results, Tryz.results141, go_sem]
    · exact (Below.refl _ _).alloc (Nat.le_refl _) _

set_option maxHeartbeats 2000000 in
theorem ofPoints_any (op a b c d : Int) (w : World) (h : 11 ≤ op ∧ op ≤ 23) (ha : inB a = true) (hb : inB b = true) (hc : inB c = true) (hd : inB d = true) :
    Calls Tryz.prog 149 #[.int .i64 op, .complex .f64 (fl a) (fl b), .complex .f64 (fl c) (fl d)] w fun e w' => e = outV (pointsE op a b c d) ∧ Below w.heap.size w w' := by
  rcases op_bin h with rfl | rfl | rfl | rfl | rfl | rfl | rfl | rfl | rfl | rfl | rfl | rfl | rfl
  · obtain ⟨g1, g2, ge, hg⟩ := outC_form (a + c) (b + d)
    have HOC := Lib.hid hg
    have HA := Lib.hid (fun W => add_any a b c d W ha hb hc hd)
    have HPT := Lib.hid (fun W => point_any (a + c) (b + d) g1 g2 ge W hg)
    rw [show pointsE 11 a b c d = ptE (a + c) (b + d) from rfl]
    obtain ⟨p, hp⟩ : ∃ p, ptE (a + c) (b + d) = p := ⟨_, rfl⟩
    rw [hp] at HPT ⊢
    clear ha hb hc hd hg hp
    obtain ⟨k, x, t, c1, c2, er, hf⟩ := out_form (p)
    have HF := Lib.hid hf
    clear hf
    go_enter Tryz.func149, Tryz.ntmps149
    go_wp2_with fail
    refine (HA.out _).mono ?_
    rintro e w' ⟨rfl, rfl⟩
    rw [HOC.out]
    go_wp2_with fail
    refine (HPT.out _).mono ?_
    rintro e w1 ⟨rfl, hb1⟩
    rw [HF.out]
    obtain ⟨hh, hbw⟩ := fwd4 rfl (Below.refl _ _) hb1
    obtain ⟨d0, d1, d2, d3, f0, f1, f2, f3⟩ := at4 hh
    clear hb1
    go_wp2
    obtain ⟨⟨r0, r1, r2, r3⟩, hbf⟩ := fin4 hh (Nat.le_refl _) hbw (.int .i64 k) (.int .i64 x) (.bool t) (.complex .f64 c1 c2)
    refine bodyPost_ret ?_ rfl ⟨HF.out.symm, hbf⟩
    simp [results, Tryz.results149, go_sem, r0, r1, r2, r3]
  · obtain ⟨g1, g2, ge, hg⟩ := outC_form (a - c) (b - d)
    have HOC := Lib.hid hg
    have HA := Lib.hid (fun W => sub_any a b c d W ha hb hc hd)
    have HPT := Lib.hid (fun W => point_any (a - c) (b - d) g1 g2 ge W hg)
    rw [show pointsE 12 a b c d = ptE (a - c) (b - d) from rfl]
    obtain ⟨p, hp⟩ : ∃ p, ptE (a - c) (b - d) = p := ⟨_, rfl⟩
    rw [hp] at HPT ⊢
    clear ha hb hc hd hg hp
    obtain ⟨k, x, t, c1, c2, er, hf⟩ := out_form (p)
    have HF := Lib.hid hf
    clear hf
    go_enter Tryz.func149, Tryz.ntmps149
    go_wp2_with fail
    refine (HA.out _).mono ?_
    rintro e w' ⟨rfl, rfl⟩
    rw [HOC.out]
    go_wp2_with fail
    refine (HPT.out _).mono ?_
    rintro e w1 ⟨rfl, hb1⟩
    rw [HF.out]
    obtain ⟨hh, hbw⟩ := fwd4 rfl (Below.refl _ _) hb1
    obtain ⟨d0, d1, d2, d3, f0, f1, f2, f3⟩ := at4 hh
    clear hb1
    go_wp2
    obtain ⟨⟨r0, r1, r2, r3⟩, hbf⟩ := fin4 hh (Nat.le_refl _) hbw (.int .i64 k) (.int .i64 x) (.bool t) (.complex .f64 c1 c2)
    refine bodyPost_ret ?_ rfl ⟨HF.out.symm, hbf⟩
    simp [results, Tryz.results149, go_sem, r0, r1, r2, r3]
  · obtain ⟨g1, g2, ge, hg⟩ := outC_form (a * c - b * d) (a * d + b * c)
    have HOC := Lib.hid hg
    have HA := Lib.hid (fun W => mul_any a b c d W ha hb hc hd)
    have HPT := Lib.hid (fun W => point_any (a * c - b * d) (a * d + b * c) g1 g2 ge W hg)
    rw [show pointsE 13 a b c d = ptE (a * c - b * d) (a * d + b * c) from rfl]
    obtain ⟨p, hp⟩ : ∃ p, ptE (a * c - b * d) (a * d + b * c) = p := ⟨_, rfl⟩
    rw [hp] at HPT ⊢
    clear ha hb hc hd hg hp
    obtain ⟨k, x, t, c1, c2, er, hf⟩ := out_form (p)
    have HF := Lib.hid hf
    clear hf
    go_enter Tryz.func149, Tryz.ntmps149
    go_wp2_with fail
    refine (HA.out _).mono ?_
    rintro e w' ⟨rfl, rfl⟩
    rw [HOC.out]
    go_wp2_with fail
    refine (HPT.out _).mono ?_
    rintro e w1 ⟨rfl, hb1⟩
    rw [HF.out]
    obtain ⟨hh, hbw⟩ := fwd4 rfl (Below.refl _ _) hb1
    obtain ⟨d0, d1, d2, d3, f0, f1, f2, f3⟩ := at4 hh
    clear hb1
    go_wp2
    obtain ⟨⟨r0, r1, r2, r3⟩, hbf⟩ := fin4 hh (Nat.le_refl _) hbw (.int .i64 k) (.int .i64 x) (.bool t) (.complex .f64 c1 c2)
    refine bodyPost_ret ?_ rfl ⟨HF.out.symm, hbf⟩
    simp [results, Tryz.results149, go_sem, r0, r1, r2, r3]
  · have HO := Lib.hid (out_er 8)
    unfold zeroO at HO
    rw [show pointsE 14 a b c d = erV 8 from rfl]
    generalize outV (erV 8) = R at *
    clear ha hb hc hd
    go_enter Tryz.func149, Tryz.ntmps149
    go_wp2
    refine bodyPost_ret ?_ rfl ⟨HO.out.symm, ?_⟩
    · simp [results, Tryz.results149, go_sem]
    · exact (Below.refl _ _).alloc (Nat.le_refl _) _
  · have HO := Lib.hid (out_er 8)
    unfold zeroO at HO
    rw [show pointsE 15 a b c d = erV 8 from rfl]
    generalize outV (erV 8) = R at *
    clear ha hb hc hd
    go_enter Tryz.func149, Tryz.ntmps149
    go_wp2
    refine bodyPost_ret ?_ rfl ⟨HO.out.symm, ?_⟩
    · simp [results, Tryz.results149, go_sem]
    · exact (Below.refl _ _).alloc (Nat.le_refl _) _
  · have HO := Lib.hid (out_er 8)
    unfold zeroO at HO
    rw [show pointsE 16 a b c d = erV 8 from rfl]
    generalize outV (erV 8) = R at *
    clear ha hb hc hd
    go_enter Tryz.func149, Tryz.ntmps149
    go_wp2
    refine bodyPost_ret ?_ rfl ⟨HO.out.symm, ?_⟩
    · simp [results, Tryz.results149, go_sem]
    · exact (Below.refl _ _).alloc (Nat.le_refl _) _
  · have HO := Lib.hid (out_er 8)
    unfold zeroO at HO
    rw [show pointsE 17 a b c d = erV 8 from rfl]
    generalize outV (erV 8) = R at *
    clear ha hb hc hd
    go_enter Tryz.func149, Tryz.ntmps149
    go_wp2
    refine bodyPost_ret ?_ rfl ⟨HO.out.symm, ?_⟩
    · simp [results, Tryz.results149, go_sem]
    · exact (Below.refl _ _).alloc (Nat.le_refl _) _
  · have HO := Lib.hid (out_er 8)
    unfold zeroO at HO
    rw [show pointsE 18 a b c d = erV 8 from rfl]
    generalize outV (erV 8) = R at *
    clear ha hb hc hd
    go_enter Tryz.func149, Tryz.ntmps149
    go_wp2
    refine bodyPost_ret ?_ rfl ⟨HO.out.symm, ?_⟩
    · simp [results, Tryz.results149, go_sem]
    · exact (Below.refl _ _).alloc (Nat.le_refl _) _
  · have HO := Lib.hid (out_er 8)
    unfold zeroO at HO
    rw [show pointsE 19 a b c d = erV 8 from rfl]
    generalize outV (erV 8) = R at *
    clear ha hb hc hd
    go_enter Tryz.func149, Tryz.ntmps149
    go_wp2
    refine bodyPost_ret ?_ rfl ⟨HO.out.symm, ?_⟩
    · simp [results, Tryz.results149, go_sem]
    · exact (Below.refl _ _).alloc (Nat.le_refl _) _
  · have HO := Lib.hid (out_er 8)
    unfold zeroO at HO
    rw [show pointsE 20 a b c d = erV 8 from rfl]
    generalize outV (erV 8) = R at *
    clear ha hb hc hd
    go_enter Tryz.func149, Tryz.ntmps149
    go_wp2
    refine bodyPost_ret ?_ rfl ⟨HO.out.symm, ?_⟩
    · simp [results, Tryz.results149, go_sem]
    · exact (Below.refl _ _).alloc (Nat.le_refl _) _
  · have HO := Lib.hid (out_er 8)
    unfold zeroO at HO
    rw [show pointsE 21 a b c d = erV 8 from rfl]
    generalize outV (erV 8) = R at *
    clear ha hb hc hd
    go_enter Tryz.func149, Tryz.ntmps149
    go_wp2
    refine bodyPost_ret ?_ rfl ⟨HO.out.symm, ?_⟩
    · simp [results, Tryz.results149, go_sem]
    · exact (Below.refl _ _).alloc (Nat.le_refl _) _
  · have HO := Lib.hid (out_er 8)
    unfold zeroO at HO
    rw [show pointsE 22 a b c d = erV 8 from rfl]
    generalize outV (erV 8) = R at *
    clear ha hb hc hd
    go_enter Tryz.func149, Tryz.ntmps149
    go_wp2
    refine bodyPost_ret ?_ rfl ⟨HO.out.symm, ?_⟩
    · simp [results, Tryz.results149, go_sem]
    · exact (Below.refl _ _).alloc (Nat.le_refl _) _
  · have HO := Lib.hid (out_er 8)
    unfold zeroO at HO
    rw [show pointsE 23 a b c d = erV 8 from rfl]
    generalize outV (erV 8) = R at *
    clear ha hb hc hd
    go_enter Tryz.func149, Tryz.ntmps149
    go_wp2
    refine bodyPost_ret ?_ rfl ⟨HO.out.symm, ?_⟩
    · simp [results, Tryz.results149, go_sem]
    · exact (Below.refl _ _).alloc (Nat.le_refl _) _

set_option maxHeartbeats 2000000 in
theorem ahead_num (op a : Int) (w : World) (h : 7 ≤ op ∧ op ≤ 10) (ha : inL a = true) :
    Calls Tryz.prog 125 #[.int .i64 op, .agg #[.int .i64 1, .int .i64 a, .bool false, .complex .f64 0 0]] w fun e w' => e = outV (unE op (numV a)) ∧ Below w.heap.size w w' := by
  rcases op_un h with rfl | rfl | rfl | rfl
  · rw [show unE 7 (numV a) = numE (-a) from rfl, show -a = 0 - a by omega]
    have HC := Lib.hid (fun W => less_any 0 a W rfl ha)
    generalize numE (0 - a) = p at *
    clear ha
    obtain ⟨k, x, t, c1, c2, er, hf⟩ := out_form (p)
    have HF := Lib.hid hf
    clear hf
    go_enter Tryz.func125, Tryz.ntmps125
    go_wp2_with fail
    refine (HC.out _).mono ?_
    rintro e w1 ⟨rfl, hb1⟩
    rw [HF.out]
    obtain ⟨hh, hbw⟩ := fwd4 (show (w.alloc _).heap.size = w.heap.size + 1 by simp) ((Below.refl _ _).alloc (Nat.le_refl _) _) hb1
    obtain ⟨d0, d1, d2, d3, f0, f1, f2, f3⟩ := at4 hh
    clear hb1
    go_wp2
    obtain ⟨⟨r0, r1, r2, r3⟩, hbf⟩ := fin4 hh (by omega) hbw (.int .i64 k) (.int .i64 x) (.bool t) (.complex .f64 c1 c2)
    refine bodyPost_ret ?_ rfl ⟨HF.out.symm, hbf⟩
    simp [results, Tryz.results125, go_sem, r0, r1, r2, r3]
  · have HO := Lib.hid (out_er 8)
    unfold zeroO at HO
    rw [show unE 8 (numV a) = erV 8 from rfl]
    generalize outV (erV 8) = R at *
    clear ha
    go_enter Tryz.func125, Tryz.ntmps125
    go_wp2
    refine bodyPost_ret ?_ rfl ⟨HO.out.symm, ?_⟩
    · simp [results, Tryz.results125, go_sem]
    · exact ((Below.refl _ _).alloc (Nat.le_refl _) _).alloc (by first | (simp; done) | (simp; omega)) _
  · have HO := Lib.hid (out_er 8)
    unfold zeroO at HO
    rw [show unE 9 (numV a) = erV 8 from rfl]
    generalize outV (erV 8) = R at *
    clear ha
    go_enter Tryz.func125, Tryz.ntmps125
    go_wp2
    refine bodyPost_ret ?_ rfl ⟨HO.out.symm, ?_⟩
    · simp [results, Tryz.results125, go_sem]
    · exact ((Below.refl _ _).alloc (Nat.le_refl _) _).alloc (by first | (simp; done) | (simp; omega)) _
  · have HO := Lib.hid (out_er 8)
    unfold zeroO at HO
    rw [show unE 10 (numV a) = erV 8 from rfl]
    generalize outV (erV 8) = R at *
    clear ha
    go_enter Tryz.func125, Tryz.ntmps125
    go_wp2
    refine bodyPost_ret ?_ rfl ⟨HO.out.symm, ?_⟩
    · simp [results, Tryz.results125, go_sem]
    · exact ((Below.refl _ _).alloc (Nat.le_refl _) _).alloc (by first | (simp; done) | (simp; omega)) _

set_option maxHeartbeats 2000000 in
theorem ahead_tru (op : Int) (b : Bool) (w : World) (h : 7 ≤ op ∧ op ≤ 10) :
    Calls Tryz.prog 125 #[.int .i64 op, .agg #[.int .i64 2, .int .i64 0, .bool b, .complex .f64 0 0]] w fun e w' => e = outV (unE op (truV b)) ∧ Below w.heap.size w w' := by
  rcases op_un h with rfl | rfl | rfl | rfl
  · have HO := Lib.hid (out_er 8)
    unfold zeroO at HO
    rw [show unE 7 (truV b) = erV 8 from rfl]
    generalize outV (erV 8) = R at *
    go_enter Tryz.func125, Tryz.ntmps125
    go_wp2
    refine bodyPost_ret ?_ rfl ⟨HO.out.symm, ?_⟩
    · simp [results, Tryz.results125, go_sem]
    · exact ((Below.refl _ _).alloc (Nat.le_refl _) _).alloc (by first | (simp; done) | (simp; omega)) _
  · cases b
    · have HO := Lib.hid (out_tru true)
      unfold truO at HO
      rw [show unE 8 (truV false) = (truV true, 0) from rfl]
      generalize outV (truV true, 0) = R at *
      go_enter Tryz.func125, Tryz.ntmps125
      go_wp2_with (go_at_call 143; refine (truth_any _ _).mono ?_; rintro e w1 ⟨rfl, rfl⟩)
      refine bodyPost_ret ?_ rfl ⟨HO.out.symm, ?_⟩
      · simp [results, Tryz.results125, go_sem]
      · exact (((Below.refl _ _).alloc (Nat.le_refl _) _).alloc (by first | (simp; done) | (simp; omega)) _).alloc (by first | (simp; done) | (simp; omega)) _
    · have HO := Lib.hid (out_tru false)
      unfold truO at HO
      rw [show unE 8 (truV true) = (truV false, 0) from rfl]
      generalize outV (truV false, 0) = R at *
      go_enter Tryz.func125, Tryz.ntmps125
      go_wp2_with (go_at_call 143; refine (truth_any _ _).mono ?_; rintro e w1 ⟨rfl, rfl⟩)
      refine bodyPost_ret ?_ rfl ⟨HO.out.symm, ?_⟩
      · simp [results, Tryz.results125, go_sem]
      · exact (((Below.refl _ _).alloc (Nat.le_refl _) _).alloc (by first | (simp; done) | (simp; omega)) _).alloc (by first | (simp; done) | (simp; omega)) _
  · have HO := Lib.hid (out_er 8)
    unfold zeroO at HO
    rw [show unE 9 (truV b) = erV 8 from rfl]
    generalize outV (erV 8) = R at *
    go_enter Tryz.func125, Tryz.ntmps125
    go_wp2
    refine bodyPost_ret ?_ rfl ⟨HO.out.symm, ?_⟩
    · simp [results, Tryz.results125, go_sem]
    · exact ((Below.refl _ _).alloc (Nat.le_refl _) _).alloc (by first | (simp; done) | (simp; omega)) _
  · have HO := Lib.hid (out_er 8)
    unfold zeroO at HO
    rw [show unE 10 (truV b) = erV 8 from rfl]
    generalize outV (erV 8) = R at *
    go_enter Tryz.func125, Tryz.ntmps125
    go_wp2
    refine bodyPost_ret ?_ rfl ⟨HO.out.symm, ?_⟩
    · simp [results, Tryz.results125, go_sem]
    · exact ((Below.refl _ _).alloc (Nat.le_refl _) _).alloc (by first | (simp; done) | (simp; omega)) _

set_option maxHeartbeats 2000000 in
theorem ahead_pt (op a b : Int) (w : World) (h : 7 ≤ op ∧ op ≤ 10) (ha : inB a = true) (hb : inB b = true) :
    Calls Tryz.prog 125 #[.int .i64 op, .agg #[.int .i64 3, .int .i64 0, .bool false, .complex .f64 (fl a) (fl b)]] w fun e w' => e = outV (unE op (ptV a b)) ∧ Below w.heap.size w w' := by
  rcases op_un h with rfl | rfl | rfl | rfl
  · obtain ⟨g1, g2, ge, hg⟩ := outC_form (0 - a) (0 - b)
    have HOC := Lib.hid hg
    have HA := Lib.hid (fun W => sub_any 0 0 a b W rfl rfl ha hb)
    rw [fl0] at HA
    have HPT := Lib.hid (fun W => point_any (0 - a) (0 - b) g1 g2 ge W hg)
    have e : unE 7 (ptV a b) = ptE (0 - a) (0 - b) := by
      rw [show unE 7 (ptV a b) = (ptV (-a) (-b), 0) from rfl]
      unfold ptE
      rw [inB_iff] at ha hb
      rw [if_pos (by simp only [Bool.and_eq_true, inB_iff]; omega), show 0 - a = -a by omega, show 0 - b = -b by omega]
    rw [e]
    obtain ⟨p, hp⟩ : ∃ p, ptE (0 - a) (0 - b) = p := ⟨_, rfl⟩
    rw [hp] at HPT ⊢
    clear ha hb hg hp e
    obtain ⟨k, x, t, c1, c2, er, hf⟩ := out_form (p)
    have HF := Lib.hid hf
    clear hf
    go_enter Tryz.func125, Tryz.ntmps125
    go_wp2_with fail
    refine (HA.out _).mono ?_
    rintro e w' ⟨rfl, rfl⟩
    rw [HOC.out]
    go_wp2_with fail
    refine (HPT.out _).mono ?_
    rintro e w1 ⟨rfl, hb1⟩
    rw [HF.out]
    obtain ⟨hh, hbw⟩ := fwd4 (show (w.alloc _).heap.size = w.heap.size + 1 by simp) ((Below.refl _ _).alloc (Nat.le_refl _) _) hb1
    obtain ⟨d0, d1, d2, d3, f0, f1, f2, f3⟩ := at4 hh
    clear hb1
    go_wp2
    obtain ⟨⟨r0, r1, r2, r3⟩, hbf⟩ := fin4 hh (by omega) hbw (.int .i64 k) (.int .i64 x) (.bool t) (.complex .f64 c1 c2)
    refine bodyPost_ret ?_ rfl ⟨HF.out.symm, hbf⟩
    simp [results, Tryz.results125, go_sem, r0, r1, r2, r3]
  · have HO := Lib.hid (out_er 8)
    unfold zeroO at HO
    rw [show unE 8 (ptV a b) = erV 8 from rfl]
    generalize outV (erV 8) = R at *
    clear ha hb
    go_enter Tryz.func125, Tryz.ntmps125
    go_wp2
    refine bodyPost_ret ?_ rfl ⟨HO.out.symm, ?_⟩
    · simp [results, Tryz.results125, go_sem]
    · exact ((Below.refl _ _).alloc (Nat.le_refl _) _).alloc (by first | (simp; done) | (simp; omega)) _
  · have HO := Lib.hid (out_num a)
    unfold numO at HO
    have h4 := fun (w : World) => run_convert_float_int (P := Tryz.prog) w 175 2 .f64 .i64 (fl a) a (by kernel_rfl) Tryz.underlying2 (toInt_rep (rep_fl ha) ha)
    rw [show unE 9 (ptV a b) = (numV a, 0) from rfl]
    generalize outV (numV a, 0) = R at *
    clear ha hb
    go_enter Tryz.func125, Tryz.ntmps125
    go_wp2_with (go_at_call 140; refine (vnumber_any _ _).mono ?_; rintro e w1 ⟨rfl, rfl⟩)
    refine bodyPost_ret ?_ rfl ⟨HO.out.symm, ?_⟩
    · simp [results, Tryz.results125, go_sem]
    · exact (((Below.refl _ _).alloc (Nat.le_refl _) _).alloc (by first | (simp; done) | (simp; omega)) _).alloc (by first | (simp; done) | (simp; omega)) _
  · have HO := Lib.hid (out_num b)
    unfold numO at HO
    have h4 := fun (w : World) => run_convert_float_int (P := Tryz.prog) w 175 2 .f64 .i64 (fl b) b (by kernel_rfl) Tryz.underlying2 (toInt_rep (rep_fl hb) hb)
    rw [show unE 10 (ptV a b) = (numV b, 0) from rfl]
    generalize outV (numV b, 0) = R at *
    clear ha hb
    go_enter Tryz.func125, Tryz.ntmps125
    go_wp2_with (go_at_call 140; refine (vnumber_any _ _).mono ?_; rintro e w1 ⟨rfl, rfl⟩)
    refine bodyPost_ret ?_ rfl ⟨HO.out.symm, ?_⟩
    · simp [results, Tryz.results125, go_sem]
    · exact (((Below.refl _ _).alloc (Nat.le_refl _) _).alloc (by first | (simp; done) | (simp; omega)) _).alloc (by first | (simp; done) | (simp; omega)) _

theorem ok_cases {v : VA} (h : OkV v) : (∃ n, inL n = true ∧ v = numV n) ∨ (∃ b, v = truV b) ∨ (∃ a b, inB a = true ∧ inB b = true ∧ v = ptV a b) := by
  obtain ⟨h1, h2⟩ := h
  obtain ⟨k, a, b⟩ := v
  unfold rightV at h1
  simp only at h1 h2
  by_cases k1 : k = 1
  · rw [if_pos k1] at h1
    simp at h1
    subst k1 h1
    exact Or.inl ⟨a, h2, rfl⟩
  · rw [if_neg k1] at h1
    by_cases k2 : k = 2
    · rw [if_pos k2] at h1
      simp at h1
      obtain ⟨rfl, h3⟩ := h1
      subst k2
      rcases h3 with rfl | rfl
      · exact Or.inr (Or.inl ⟨false, rfl⟩)
      · exact Or.inr (Or.inl ⟨true, rfl⟩)
    · rw [if_neg k2] at h1
      by_cases k3 : k = 3
      · rw [if_pos k3] at h1
        simp at h1
        subst k3
        exact Or.inr (Or.inr ⟨a, b, h1.1, h1.2, rfl⟩)
      · rw [if_neg k3] at h1; cases h1

theorem operandOf_any (v : VA) (w : World) (h : OkV v) :
    Calls Tryz.prog 166 #[.agg #[.int .i64 v.kd, .int .i64 v.a, .int .i64 v.b]] w fun e w' => e = outV (v, 0) ∧ Below w.heap.size w w' := by
  rcases ok_cases h with ⟨n, _, rfl⟩ | ⟨b, rfl⟩ | ⟨a, b, ha, hb, rfl⟩
  · have HO := Lib.hid (out_num n)
    unfold numO at HO
    generalize outV (numV n, 0) = R at *
    unfold numV
    go_enter Tryz.func166, Tryz.ntmps166
    go_wp2_with (go_at_call 140; refine (vnumber_any _ _).mono ?_; rintro e w1 ⟨rfl, rfl⟩)
    refine bodyPost_ret ?_ rfl ⟨HO.out.symm, ?_⟩
    · simp [results, Tryz.results166, go_sem]
    · exact (((Below.refl _ _).alloc (Nat.le_refl _) _).alloc (by first | (simp; done) | (simp; omega)) _).alloc (by first | (simp; done) | (simp; omega)) _
  · cases b
    · have HO := Lib.hid (out_tru false)
      unfold truO at HO
      generalize outV (truV false, 0) = R at *
      show Calls _ _ #[.agg #[.int .i64 2, .int .i64 0, .int .i64 0]] _ _
      go_enter Tryz.func166, Tryz.ntmps166
      go_wp2_with (go_at_call 143; refine (truth_any _ _).mono ?_; rintro e w1 ⟨rfl, rfl⟩)
      refine bodyPost_ret ?_ rfl ⟨HO.out.symm, ?_⟩
      · simp [results, Tryz.results166, go_sem]
      · exact (((Below.refl _ _).alloc (Nat.le_refl _) _).alloc (by first | (simp; done) | (simp; omega)) _).alloc (by first | (simp; done) | (simp; omega)) _
    · have HO := Lib.hid (out_tru true)
      unfold truO at HO
      generalize outV (truV true, 0) = R at *
      show Calls _ _ #[.agg #[.int .i64 2, .int .i64 1, .int .i64 0]] _ _
      go_enter Tryz.func166, Tryz.ntmps166
      go_wp2_with (go_at_call 143; refine (truth_any _ _).mono ?_; rintro e w1 ⟨rfl, rfl⟩)
      refine bodyPost_ret ?_ rfl ⟨HO.out.symm, ?_⟩
      · simp [results, Tryz.results166, go_sem]
      · exact (((Below.refl _ _).alloc (Nat.le_refl _) _).alloc (by first | (simp; done) | (simp; omega)) _).alloc (by first | (simp; done) | (simp; omega)) _
  · obtain ⟨g1, g2, ge, hg⟩ := outC_form a b
    have HOC := Lib.hid hg
    have HA := Lib.hid (fun W => made_any a b W)
    have HPT := Lib.hid (fun W => point_any a b g1 g2 ge W hg)
    have e : (ptV a b, (0 : Int)) = ptE a b := by unfold ptE; rw [if_pos (by rw [ha, hb]; rfl)]
    rw [e]
    obtain ⟨p, hp⟩ : ∃ p, ptE a b = p := ⟨_, rfl⟩
    rw [hp] at HPT ⊢
    clear ha hb hg hp e h
    unfold ptV
    obtain ⟨k, x, t, c1, c2, er, hf⟩ := out_form (p)
    have HF := Lib.hid hf
    clear hf
    go_enter Tryz.func166, Tryz.ntmps166
    go_wp2_with fail
    refine (HA.out _).mono ?_
    rintro e w' ⟨rfl, rfl⟩
    rw [HOC.out]
    go_wp2_with fail
    refine (HPT.out _).mono ?_
    rintro e w1 ⟨rfl, hb1⟩
    rw [HF.out]
    obtain ⟨hh, hbw⟩ := fwd4 (show (w.alloc _).heap.size = w.heap.size + 1 by simp) ((Below.refl _ _).alloc (Nat.le_refl _) _) hb1
    obtain ⟨d0, d1, d2, d3, f0, f1, f2, f3⟩ := at4 hh
    clear hb1
    go_wp2
    obtain ⟨⟨r0, r1, r2, r3⟩, hbf⟩ := fin4 hh (by omega) hbw (.int .i64 k) (.int .i64 x) (.bool t) (.complex .f64 c1 c2)
    refine bodyPost_ret ?_ rfl ⟨HF.out.symm, hbf⟩
    simp [results, Tryz.results166, go_sem, r0, r1, r2, r3]
end Go.Proofs.YtjgfkmakfdepcaaGreatDoor
