/- The examples of chapter 1 hold (wakes of quintainlaw01); its 'same'; the law PlaneReads walked. -/
import Derived.Test.YtimcecbnnohneaaDoorRe
import Derived.Test.YtimcecbnnohneaaDoorRg
namespace Go.Proofs.YtimcecbnnohneaaDoor
open Go.RowKit

theorem F0 : floatOfInt .f64 0 = 0 := by kernel_rfl
theorem F1 : floatOfInt .f64 1 = 4607182418800017408 := by kernel_rfl
theorem F2 : floatOfInt .f64 2 = 4611686018427387904 := by kernel_rfl
theorem F3 : floatOfInt .f64 3 = 4613937818241073152 := by kernel_rfl
theorem F5 : floatOfInt .f64 5 = 4617315517961601024 := by kernel_rfl
theorem Fm1 : floatOfInt .f64 (-1) = 13830554455654793216 := by kernel_rfl
theorem Fm4 : floatOfInt .f64 (-4) = 13839561654909534208 := by kernel_rfl

theorem point_at (a b : Int) (x y : Nat) (hx : floatOfInt .f64 a = x) (hy : floatOfInt .f64 b = y) (ha : inB a = true) (hb : inB b = true) (w : World) :
    Calls Tryd.prog 21 #[.complex .f64 x y] w fun e w' => e = .returned (.bool true) ∧ w = w' := by
  subst hx; subst hy; exact isPoint_ok a b w ha hb

/-- what is a point already is settled as itself -/
theorem settled_at (a b : Int) (x y : Nat) (hx : floatOfInt .f64 a = x) (hy : floatOfInt .f64 b = y) (ha : inB a = true) (hb : inB b = true) (w : World) :
    Calls Tryd.prog 22 #[.complex .f64 x y] w fun e w' => e = .returned (.tuple #[.complex .f64 x y, .int .i64 0]) ∧ w = w' := by
  have h4 := fun (w : World) => run_convert_float_int (P := Tryd.prog) w 57 2 .f64 .i64 (floatOfInt .f64 a) a (by kernel_rfl) Tryd.underlying2 (toInt_self a ha)
  have h5 := fun (w : World) => run_convert_float_int (P := Tryd.prog) w 57 2 .f64 .i64 (floatOfInt .f64 b) b (by kernel_rfl) Tryd.underlying2 (toInt_self b hb)
  have hp := fun w => isPoint_ok a b w ha hb
  have hm := fun w => made_ok a b w ha hb
  have HP := Lib.hid hp; have HM := Lib.hid hm; clear hp hm ha hb
  subst hx; subst hy
  go_enter Tryd.func22, Tryd.ntmps22
  go_wp2_with (first | (go_at_call 21; refine (HP.out _).mono ?_; rintro e w' ⟨rfl, rfl⟩) | (go_at_call 18; refine (HM.out _).mono ?_; rintro e w' ⟨rfl, rfl⟩))
  go_ret2
  exact ⟨rfl, rfl⟩

theorem mul_21 (w : World) :
    Calls Tryd.prog 12 #[.complex .f64 4611686018427387904 4607182418800017408, .complex .f64 4611686018427387904 13830554455654793216] w fun e w' => e = .returned (.tuple #[.complex .f64 4617315517961601024 0, .int .i64 0]) ∧ w = w' := by
  have hp := fun (w : World) => run_complex_mul (P := Tryd.prog) w 22 4611686018427387904 4607182418800017408 4611686018427387904 13830554455654793216 4617315517961601024 0 (by kernel_rfl)
  go_enter Tryd.func12, Tryd.ntmps12
  go_wp2_with fail
  refine (point_at 2 1 _ _ F2 F1 (by decide) (by decide) _).mono ?_
  rintro e w' ⟨rfl, rfl⟩
  go_wp2_with fail
  refine (point_at 2 (-1) _ _ F2 Fm1 (by decide) (by decide) _).mono ?_
  rintro e w' ⟨rfl, rfl⟩
  go_wp2_with fail
  refine (settled_at 5 0 _ _ F5 F0 (by decide) (by decide) _).mono ?_
  rintro e w' ⟨rfl, rfl⟩
  go_wp2
  go_ret2
  exact ⟨rfl, rfl⟩

theorem power_m1 (w : World) : Calls Tryd.prog 23 #[.int .i64 (-1)] w fun e w' => e = .returned (.complex .f64 0 13830554455654793216) ∧ w = w' := by
  have hb : bits .and .i64 (-1) 3 = 3 := by kernel_rfl
  go_enter Tryd.func23, Tryd.ntmps23
  go_wp2
  go_ret
  exact ⟨rfl, rfl⟩

theorem turn_1 (w : World) :
    Calls Tryd.prog 13 #[.complex .f64 4607182418800017408 0, .int .i64 (-1)] w fun e w' => e = .returned (.tuple #[.complex .f64 0 13830554455654793216, .int .i64 0]) ∧ w = w' := by
  have hp := fun (w : World) => run_complex_mul (P := Tryd.prog) w 22 4607182418800017408 0 0 13830554455654793216 0 13830554455654793216 (by kernel_rfl)
  go_enter Tryd.func13, Tryd.ntmps13
  go_wp2_with fail
  refine (point_at 1 0 _ _ F1 F0 (by decide) (by decide) _).mono ?_
  rintro e w' ⟨rfl, rfl⟩
  go_wp2_with fail
  refine (power_m1 _).mono ?_
  rintro e w' ⟨rfl, rfl⟩
  go_wp2_with fail
  refine (settled_at 0 (-1) _ _ F0 Fm1 (by decide) (by decide) _).mono ?_
  rintro e w' ⟨rfl, rfl⟩
  go_wp2
  go_ret2
  exact ⟨rfl, rfl⟩

theorem shw_3m4 : shw 3 (-4) = [51, 45, 52, 105] := by
  unfold shw sgn
  rw [itoa_pos (by decide), itoa_neg' (by decide), dec_small (by decide), dec_small (by decide), if_pos (by decide)]
  rfl

theorem show_34 (w : World) (hL : Laid w) :
    Calls Tryd.prog 9 #[.complex .f64 4613937818241073152 13839561654909534208] w fun e w' => e = .returned (.tuple #[.string ⟨#[51, 45, 52, 105]⟩, .int .i64 0]) ∧ Below w.heap.size w w' := by
  have := show_ok 3 (-4) w (by decide) (by decide) hL
  rwa [F3, Fm4, shw_3m4] at this

theorem ord5 : (FloatKind.f64.format.order 4617315517961601024 4617315517961601024 == some .eq) = true := by kernel_rfl
theorem ord0 : (FloatKind.f64.format.order 0 0 == some .eq) = true := by kernel_rfl
theorem ordm1 : (FloatKind.f64.format.order 13830554455654793216 13830554455654793216 == some .eq) = true := by kernel_rfl

theorem wakes_any (w : World) (hL : Laid w) :
    Calls Tryd.prog 6 #[] w fun e w' => e = .returned (.bool true) ∧ Below w.heap.size w w' := by
  have HL := Lib.hid hL; clear hL
  have o5 := ord5; have o0 := ord0; have om := ordm1
  go_enter Tryd.func6, Tryd.ntmps6
  go_wp2_with fail
  refine (mul_21 _).mono ?_
  rintro e w' ⟨rfl, rfl⟩
  go_wp2_with fail
  refine (turn_1 _).mono ?_
  rintro e w' ⟨rfl, rfl⟩
  go_wp2_with fail
  refine (show_34 _ HL.out).mono ?_
  rintro e w1 ⟨rfl, hb1⟩
  have HB1 := Lib.hid hb1; clear hb1
  go_wp2
  go_ret
  exact ⟨rfl, HB1.out⟩

theorem number_ok (a b : Int) (w : World) :
    Calls Tryd.prog 14 #[.agg #[.int .i64 a, .int .i64 b]] w fun e w' => e = .returned (.complex .f64 (floatOfInt .f64 a) (floatOfInt .f64 b)) ∧ Below w.heap.size w w' := by
  go_enter Tryd.func14, Tryd.ntmps14
  go_wp2
  go_ret
  exact ⟨rfl, (Below.refl _ _).alloc (Nat.le_refl _) _⟩

theorem same_ok (a b : Int) (w : World) (ha : inB a = true) (hb : inB b = true) :
    Calls Tryd.prog 7 #[.complex .f64 (floatOfInt .f64 a) (floatOfInt .f64 b), .int .i64 0, .agg #[.int .i64 a, .int .i64 b], .int .i64 0] w fun e w' => e = .returned (.bool true) ∧ Below w.heap.size w w' := by
  have ha' := inB_iff.1 ha
  have hb' := inB_iff.1 hb
  have h1 := eq_self a (by omega)
  have h2 := eq_self b (by omega)
  clear ha hb ha' hb'
  go_enter Tryd.func7, Tryd.ntmps7
  go_wp2_with fail
  refine (number_ok a b _).mono ?_
  rintro e w1 ⟨rfl, hb1⟩
  have HB1 := Lib.hid hb1; clear hb1
  go_wp2
  go_ret
  exact ⟨rfl, ((Below.refl _ _).alloc (Nat.le_refl _) _).trans (HB1.out.mono (by simp))⟩

theorem same_err (w : World) :
    Calls Tryd.prog 7 #[.complex .f64 0 0, .int .i64 1, .agg #[.int .i64 0, .int .i64 0], .int .i64 1] w fun e w' => e = .returned (.bool true) ∧ Below w.heap.size w w' := by
  have h1 := ord0
  go_enter Tryd.func7, Tryd.ntmps7
  go_wp2
  go_ret
  exact ⟨rfl, (Below.refl _ _).alloc (Nat.le_refl _) _⟩

theorem chain5 {w w1 w2 w3 w4 : World} {o : Obj} (h1 : Below w.heap.size w w1) (h2 : Below w1.heap.size w1 w2) (h3 : Below (w2.alloc o).heap.size (w2.alloc o) w3) (h4 : Below w3.heap.size w3 w4) : Below w.heap.size w w4 := by
  have s1 := h1.size; have s2 := h2.size; have s3 := h3.size
  have e : (w2.alloc o).heap.size = w2.heap.size + 1 := by simp
  exact ((((h1.trans (h2.mono s1)).alloc (by omega) o).trans (h3.mono (by omega))).trans (h4.mono (by omega)))

theorem reads_any (s : ByteArray) (w : World) (hs : s.size < 4294967281) (hL : Laid w) :
    Calls Tryd.prog 3 #[.string s] w fun e w' => e = .returned (.bool true) ∧ Below w.heap.size w w' := by
  have HL := Lib.hid hL; clear hL
  go_enter Tryd.func3, Tryd.ntmps3
  go_wp2_with fail
  refine (read_any s w hs HL.out).mono ?_
  rintro e w1 ⟨hb1, h1⟩
  have HB1 := Lib.hid hb1; clear hb1
  rcases h1 with ⟨a, b, hr, rfl⟩ | ⟨hr, rfl⟩
  · have HR := Lib.hid hr; clear hr
    go_wp2_with fail
    refine (ref_any s w1 hs).mono ?_
    rintro e w2 ⟨hb2, h2⟩
    have HB2 := Lib.hid hb2; clear hb2
    rcases h2 with ⟨a', b', hr', rfl⟩ | ⟨hr', rfl⟩
    · rw [HR.out] at hr'
      injection hr' with hr'
      injection hr' with e1 e2
      subst e1; subst e2
      have hab := Lib.hid (refL_some HR.out)
      go_wp2_with fail
      refine (wakes_any _ ((HL.out.below HB1.out).below HB2.out |>.below ((Below.refl _ _).alloc (Nat.le_refl _) _))).mono ?_
      rintro e w3 ⟨rfl, hb3⟩
      have c0 : w3.cell? ⟨w2.heap.size, 0, none⟩ = some (.int .i64 a) := (hb3.cell (p := ⟨w2.heap.size, 0, none⟩) (by simp)).trans (by simp)
      have c1 : w3.cell? ⟨w2.heap.size, 1, none⟩ = some (.int .i64 b) := (hb3.cell (p := ⟨w2.heap.size, 1, none⟩) (by simp)).trans (by simp)
      have HB3 := Lib.hid hb3; clear hb3
      go_wp2_with fail
      refine (same_ok a b _ hab.out.1 hab.out.2.1).mono ?_
      rintro e w4 ⟨rfl, hb4⟩
      have HB4 := Lib.hid hb4; clear hb4
      go_wp2
      go_ret
      exact ⟨rfl, chain5 HB1.out HB2.out HB3.out HB4.out⟩
    · rw [HR.out] at hr'; cases hr'
  · have HR := Lib.hid hr; clear hr
    go_wp2_with fail
    refine (ref_any s w1 hs).mono ?_
    rintro e w2 ⟨hb2, h2⟩
    have HB2 := Lib.hid hb2; clear hb2
    rcases h2 with ⟨a', b', hr', rfl⟩ | ⟨hr', rfl⟩
    · rw [HR.out] at hr'; cases hr'
    · clear hr'
      go_wp2_with fail
      refine (wakes_any _ ((HL.out.below HB1.out).below HB2.out |>.below ((Below.refl _ _).alloc (Nat.le_refl _) _))).mono ?_
      rintro e w3 ⟨rfl, hb3⟩
      have c0 : w3.cell? ⟨w2.heap.size, 0, none⟩ = some (.int .i64 0) := (hb3.cell (p := ⟨w2.heap.size, 0, none⟩) (by simp)).trans (by simp)
      have c1 : w3.cell? ⟨w2.heap.size, 1, none⟩ = some (.int .i64 0) := (hb3.cell (p := ⟨w2.heap.size, 1, none⟩) (by simp)).trans (by simp)
      have HB3 := Lib.hid hb3; clear hb3
      go_wp2_with fail
      refine (same_err _).mono ?_
      rintro e w4 ⟨rfl, hb4⟩
      have HB4 := Lib.hid hb4; clear hb4
      go_wp2
      go_ret
      exact ⟨rfl, chain5 HB1.out HB2.out HB3.out HB4.out⟩
end Go.Proofs.YtimcecbnnohneaaDoor
