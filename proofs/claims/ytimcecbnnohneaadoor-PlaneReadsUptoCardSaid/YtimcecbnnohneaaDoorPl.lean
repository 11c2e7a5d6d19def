/- Contracts of package plane's small functions at whole numbers: within, whole, isPoint, Made, Parts. -/
import Derived.Test.YtimcecbnnohneaaDoorProg
import Derived.Test.YtimcecbnnohneaaDoorFl
import Derived.Test.YtimcecbnnohneaaDoorRd
import Derived.WalkKit
import Derived.WalkSpells
import Derived.WalkLawsBesides
import Derived.Lib.Hide
namespace Go.Proofs.YtimcecbnnohneaaDoor
open Go.RowKit

theorem within_any (n : Int) (w : World) :
    Calls Tryd.prog 31 #[.int .i64 n] w fun e w' => e = .returned (.bool (inB n)) ∧ w = w' := by
  by_cases h1 : -1048576 ≤ n
  · by_cases h2 : n ≤ 1048576
    · have hL : inB n = true := decide_eq_true ⟨h1, h2⟩
      rw [hL]; clear hL
      go_enter Tryd.func31, Tryd.ntmps31
      go_wp2
      go_ret
      exact ⟨rfl, rfl⟩
    · have hL : inB n = false := decide_eq_false (fun h => h2 h.2)
      rw [hL]; clear hL
      go_enter Tryd.func31, Tryd.ntmps31
      go_wp2
      go_ret
      exact ⟨rfl, rfl⟩
  · have hL : inB n = false := decide_eq_false (fun h => h1 h.1)
    rw [hL]; clear hL
    go_enter Tryd.func31, Tryd.ntmps31
    go_wp2
    go_ret
    exact ⟨rfl, rfl⟩

theorem made_ok (a b : Int) (w : World) (ha : inB a = true) (hb : inB b = true) :
    Calls Tryd.prog 18 #[.int .i64 a, .int .i64 b] w fun e w' => e = .returned (.tuple #[.complex .f64 (floatOfInt .f64 a) (floatOfInt .f64 b), .int .i64 0]) ∧ w = w' := by
  go_enter Tryd.func18, Tryd.ntmps18
  go_wp2_with (go_at_call 31; refine (within_any _ _).mono ?_; rintro e w' ⟨rfl, rfl⟩)
  go_ret2
  exact ⟨rfl, rfl⟩

theorem made_no (a b : Int) (w : World) (h : (inB a && inB b) = false) :
    Calls Tryd.prog 18 #[.int .i64 a, .int .i64 b] w fun e w' => e = .returned (.tuple #[.complex .f64 0 0, .int .i64 5]) ∧ w = w' := by
  cases ha : inB a
  · clear h
    go_enter Tryd.func18, Tryd.ntmps18
    go_wp2_with (go_at_call 31; refine (within_any _ _).mono ?_; rintro e w' ⟨rfl, rfl⟩)
    go_ret2
    exact ⟨rfl, rfl⟩
  · rw [ha, Bool.true_and] at h
    go_enter Tryd.func18, Tryd.ntmps18
    go_wp2_with (go_at_call 31; refine (within_any _ _).mono ?_; rintro e w' ⟨rfl, rfl⟩)
    go_ret2
    exact ⟨rfl, rfl⟩

/-- the facts on a whole number's word that 'whole' asks -/
theorem le_hi (a : Int) (ha : inB a = true) : (FloatKind.f64.format.order (floatOfInt .f64 a) 4697254411347427328 == some .lt || FloatKind.f64.format.order (floatOfInt .f64 a) 4697254411347427328 == some .eq) = true := by
  have hb : -1048576 ≤ a ∧ a ≤ 1048576 := of_decide_eq_true ha
  have e : (4697254411347427328 : Nat) = floatOfInt .f64 1048576 := by kernel_rfl
  show (Ieee.double.order _ _ == _ || Ieee.double.order _ _ == _) = true
  rw [e, rep_order (rep_int a (by omega)) (rep_int 1048576 (by omega))]
  rcases Int.lt_or_eq_of_le hb.2 with h | h
  · have : compare a 1048576 = .lt := by simp [compare, compareOfLessAndEq, h]
    rw [this]; rfl
  · subst h; rfl

theorem le_lo (a : Int) (ha : inB a = true) : (FloatKind.f64.format.order 13920626448202203136 (floatOfInt .f64 a) == some .lt || FloatKind.f64.format.order 13920626448202203136 (floatOfInt .f64 a) == some .eq) = true := by
  have hb : -1048576 ≤ a ∧ a ≤ 1048576 := of_decide_eq_true ha
  have e : (13920626448202203136 : Nat) = floatOfInt .f64 (-1048576) := by kernel_rfl
  show (Ieee.double.order _ _ == _ || Ieee.double.order _ _ == _) = true
  rw [e, rep_order (rep_int (-1048576) (by omega)) (rep_int a (by omega))]
  rcases Int.lt_or_eq_of_le hb.1 with h | h
  · have : compare (-1048576) a = .lt := by simp [compare, compareOfLessAndEq, h]
    rw [this]; rfl
  · subst h; rfl

theorem eq_self (a : Int) (ha : a.natAbs < 2 ^ 53) : (FloatKind.f64.format.order (floatOfInt .f64 a) (floatOfInt .f64 a) == some .eq) = true := by
  show (Ieee.double.order _ _ == _) = true
  rw [rep_order (rep_int a ha) (rep_int a ha)]
  have : compare a a = .eq := by simp [compare, compareOfLessAndEq]
  rw [this]; rfl

theorem toInt_self (a : Int) (ha : inB a = true) : floatToIntVal .f64 (floatOfInt .f64 a) .i64 = some a := by
  have hb : -1048576 ≤ a ∧ a ≤ 1048576 := of_decide_eq_true ha
  unfold floatToIntVal
  have := rep_toInt (rep_int a (by omega))
  show (match (Ieee.double.read (floatOfInt .f64 a)).toInt .zero with | some n => _ | none => none) = _
  rw [this]
  have h1 : IntKind.i64.min = -9223372036854775808 := by kernel_rfl
  have h2 : IntKind.i64.max = 9223372036854775807 := by kernel_rfl
  simp only [h1, h2]
  rw [if_pos (by omega)]

theorem whole_ok (a : Int) (w : World) (ha : inB a = true) :
    Calls Tryd.prog 33 #[.float .f64 (floatOfInt .f64 a)] w fun e w' => e = .returned (.bool true) ∧ w = w' := by
  have hb : -1048576 ≤ a ∧ a ≤ 1048576 := of_decide_eq_true ha
  have h1 := le_lo a ha
  have h2 := le_hi a ha
  have h3 := eq_self a (by omega)
  have h4 := fun (w : World) => run_convert_float_int (P := Tryd.prog) w 57 2 .f64 .i64 (floatOfInt .f64 a) a (by kernel_rfl) Tryd.underlying2 (toInt_self a ha)
  clear hb ha
  go_enter Tryd.func33, Tryd.ntmps33
  go_wp2
  go_ret
  exact ⟨rfl, rfl⟩

theorem isPoint_ok (a b : Int) (w : World) (ha : inB a = true) (hb : inB b = true) :
    Calls Tryd.prog 21 #[.complex .f64 (floatOfInt .f64 a) (floatOfInt .f64 b)] w fun e w' => e = .returned (.bool true) ∧ w = w' := by
  go_enter Tryd.func21, Tryd.ntmps21
  go_wp2_with (go_at_call 33; refine (whole_ok _ _ (by assumption)).mono ?_; rintro e w' ⟨rfl, rfl⟩)
  go_ret
  exact ⟨rfl, rfl⟩

theorem parts_ok (a b : Int) (w : World) (ha : inB a = true) (hb : inB b = true) :
    Calls Tryd.prog 19 #[.complex .f64 (floatOfInt .f64 a) (floatOfInt .f64 b)] w fun e w' => e = .returned (.tuple #[.int .i64 a, .int .i64 b, .int .i64 0]) ∧ w = w' := by
  have h4 := fun (w : World) => run_convert_float_int (P := Tryd.prog) w 57 2 .f64 .i64 (floatOfInt .f64 a) a (by kernel_rfl) Tryd.underlying2 (toInt_self a ha)
  have h5 := fun (w : World) => run_convert_float_int (P := Tryd.prog) w 57 2 .f64 .i64 (floatOfInt .f64 b) b (by kernel_rfl) Tryd.underlying2 (toInt_self b hb)
  have hp := fun w => isPoint_ok a b w ha hb
  have HP := Lib.hid hp; clear hp ha hb
  go_enter Tryd.func19, Tryd.ntmps19
  go_wp2_with (go_at_call 21; refine (HP.out _).mono ?_; rintro e w' ⟨rfl, rfl⟩)
  go_ret3
  exact ⟨rfl, rfl⟩
end Go.Proofs.YtimcecbnnohneaaDoor
