/- Whole numbers as words of the double format: what 'float64(a)' stands for, how two such compare, and that they are told again; for a of less than 2^53. No program is named here. -/
import Derived.WalkLawsBesides
import Derived.KernelRfl
namespace Go.Proofs.Ytpidikbhjiaogaa
open Ieee

theorem log2_bd (m : Nat) (h0 : m ≠ 0) (h : m < 2 ^ 53) : m.log2 ≤ 52 := by
  have := Nat.log2_lt h0 |>.2 h; omega

theorem cut_zero (s : Bool) (n : Nat) : Toward.even.cut s n 0 = n := by
  simp [Toward.cut, Nat.mod_one]

/-- what a word of a whole number stands for -/
theorem read_word (s : Bool) (L K : Nat) (hl : L ≤ 52) (h1 : 4503599627370496 ≤ K) (h2 : K < 9007199254740992) :
    double.read (double.word s ((L + 1022) * 4503599627370496 + K)) = .number s K ((L : Int) - 52) := by
  have hlp : double.leastPlace = -1074 := by kernel_rfl
  have hbi : double.binade = 4503599627370496 := by kernel_rfl
  have hsw : double.signWeight = 9223372036854775808 := by kernel_rfl
  have hir : double.infRung = 9218868437227405312 := by kernel_rfl
  obtain ⟨R, hR⟩ : ∃ R, R = (L + 1022) * 4503599627370496 + K := ⟨_, rfl⟩
  rw [← hR]
  have e6 : double.word s R % double.signWeight = R := by
    unfold Format.word; rw [hsw]; split <;> omega
  have e7 : (double.word s R / double.signWeight % 2 == 1) = s := by
    unfold Format.word; rw [hsw]
    cases s
    · rw [if_neg (by decide)]; exact beq_eq_false_iff_ne.2 (by omega)
    · rw [if_pos rfl]; exact beq_iff_eq.2 (by omega)
  unfold Format.read
  simp only [e6, e7]
  rw [if_neg (by rw [hbi]; omega), if_pos (by rw [hir]; omega), hbi, hlp]
  have e8 : 4503599627370496 + R % 4503599627370496 = K := by omega
  have e9 : R / 4503599627370496 - 1 = L + 1022 := by omega
  rw [e8, e9, show (-1074 : Int) + ((L + 1022 : Nat) : Int) = (L : Int) - 52 by omega]

theorem nearest_int (s : Bool) (m : Nat) (h0 : m ≠ 0) (h : m < 2 ^ 53) :
    double.nearest s m 0 = double.word s ((m.log2 + 1022) * 4503599627370496 + m <<< (52 - m.log2)) ∧ m.log2 ≤ 52 ∧ 4503599627370496 ≤ m <<< (52 - m.log2) ∧ m <<< (52 - m.log2) < 9007199254740992 := by
  have hl := log2_bd m h0 h
  have hlo : 2 ^ m.log2 ≤ m := Nat.log2_self_le h0
  have hhi : m < 2 ^ (m.log2 + 1) := Nat.lt_log2_self
  have hlp : double.leastPlace = -1074 := by kernel_rfl
  have hbi : double.binade = 4503599627370496 := by kernel_rfl
  have hir : double.infRung = 9218868437227405312 := by kernel_rfl
  have hfb : double.fractionBits = 52 := rfl
  unfold Format.nearest
  rw [if_neg h0]
  simp only [hlp, hfb, hbi, hir]
  generalize m.log2 = L at *
  have e1 : max ((0 : Int) + (L : Int) - ((52 : Nat) : Int)) (-1074) = (L : Int) - 52 := by omega
  have e2 : ((0 : Int) - ((L : Int) - 52)).toNat = 52 - L := by omega
  have e3 : ((L : Int) - 52 - 0).toNat = 0 := by omega
  have e4 : ((L : Int) - 52 - -1074).toNat = L + 1022 := by omega
  rw [e1, e2, e3, e4, cut_zero]
  have hk1 : 4503599627370496 ≤ m <<< (52 - L) := by
    rw [Nat.shiftLeft_eq]
    have hh : (4503599627370496 : Nat) = 2 ^ L * 2 ^ (52 - L) := by
      rw [← Nat.pow_add, show L + (52 - L) = 52 by omega]
    rw [hh]
    exact Nat.mul_le_mul_right _ hlo
  have hk2 : m <<< (52 - L) < 9007199254740992 := by
    rw [Nat.shiftLeft_eq]
    have hh : (9007199254740992 : Nat) = 2 ^ (L + 1) * 2 ^ (52 - L) := by
      rw [← Nat.pow_add, show L + 1 + (52 - L) = 53 by omega]
    rw [hh]
    exact Nat.mul_lt_mul_of_pos_right hhi (Nat.two_pow_pos _)
  refine ⟨?_, hl, hk1, hk2⟩
  rw [Nat.min_eq_left (by omega)]

theorem read_int (s : Bool) (m : Nat) (h0 : m ≠ 0) (h : m < 2 ^ 53) :
    double.read (double.nearest s m 0) = .number s (m <<< (52 - m.log2)) ((m.log2 : Int) - 52) := by
  obtain ⟨e, hl, h1, h2⟩ := nearest_int s m h0 h
  rw [e, read_word s _ _ hl h1 h2]

theorem read_zero : double.read (double.nearest false 0 0) = .number false 0 (-1074) := by kernel_rfl

/-- The word x stands for the whole number a (a zero may have either sign). -/
def Rep (x : Nat) (a : Int) : Prop := ∃ s m p, double.read x = .number s m p ∧ p ≤ 0 ∧ signed s m 0 = a * 2 ^ (-p).toNat

theorem signed_scale (s : Bool) (m k : Nat) : signed s m k = signed s m 0 * 2 ^ k := by
  cases s <;> simp [signed, Nat.shiftLeft_eq]
  rw [Int.neg_mul]

theorem rep_int (a : Int) (h : a.natAbs < 2 ^ 53) : Rep (floatOfInt .f64 a) a := by
  unfold floatOfInt FloatKind.nearest FloatKind.encode
  show Rep (double.nearest (decide (a < 0)) a.natAbs 0) a
  by_cases h0 : a.natAbs = 0
  · have : a = 0 := by omega
    subst this
    exact ⟨false, 0, -1074, read_zero, by omega, by simp only [signed, Int.zero_mul]; rfl⟩
  · have hl := log2_bd _ h0 h
    refine ⟨_, _, _, read_int _ _ h0 h, by omega, ?_⟩
    have e : (-(((a.natAbs).log2 : Int) - 52)).toNat = 52 - a.natAbs.log2 := by omega
    rw [e]
    generalize 52 - a.natAbs.log2 = k
    simp only [signed, Nat.shiftLeft_eq, Nat.pow_zero, Nat.mul_one]
    by_cases hn : a < 0
    · simp only [hn, decide_true, if_true]
      rw [Int.natCast_mul, ← Int.neg_mul]
      rw [show -((a.natAbs : Nat) : Int) = a by omega, Int.natCast_pow]
      rfl
    · simp only [hn, decide_false]
      rw [if_neg (by decide), Int.natCast_mul, show ((a.natAbs : Nat) : Int) = a by omega, Int.natCast_pow]
      rfl

theorem compare_scale (a b : Int) (k : Nat) : compare (a * 2 ^ k) (b * 2 ^ k) = compare a b := by
  have hp : (0 : Int) < 2 ^ k := Int.pow_pos (by decide)
  simp only [compare, compareOfLessAndEq]
  have h1 : (a * 2 ^ k < b * 2 ^ k) ↔ a < b := ⟨fun h => Int.lt_of_mul_lt_mul_right h (Int.le_of_lt hp), fun h => Int.mul_lt_mul_of_pos_right h hp⟩
  have h2 : (a * 2 ^ k = b * 2 ^ k) ↔ a = b := ⟨fun h => Int.eq_of_mul_eq_mul_right (by omega) h, fun h => by rw [h]⟩
  simp only [h1, h2]

/-- two words that stand for whole numbers compare as these do -/
theorem rep_order {x y : Nat} {a b : Int} (hx : Rep x a) (hy : Rep y b) : double.order x y = some (compare a b) := by
  obtain ⟨s, m, p, rx, hp2, hv⟩ := hx
  obtain ⟨t, n, q, ry, hq2, hw⟩ := hy
  simp only [Format.order, rx, ry, Datum.order]
  rw [signed_scale, signed_scale (s := t), hv, hw, Int.mul_assoc, Int.mul_assoc, ← Int.pow_add, ← Int.pow_add]
  have e : (-q).toNat + (q - min p q).toNat = (-p).toNat + (p - min p q).toNat := by omega
  rw [e, compare_scale]

/-- .. and are told as these are -/
theorem rep_toInt {x : Nat} {a : Int} (hx : Rep x a) : (double.read x).toInt .zero = some a := by
  obtain ⟨s, m, p, rx, hp2, hv⟩ := hx
  rw [rx]
  have e1 : p.toNat = 0 := by omega
  have hm : m = a.natAbs * 2 ^ (-p).toNat := by
    have := congrArg Int.natAbs hv
    rw [Int.natAbs_mul, Int.natAbs_pow] at this
    cases s <;> simpa [signed] using this
  have hcut : Toward.zero.cut s (m <<< 0) (-p).toNat = a.natAbs := by
    rw [Nat.shiftLeft_zero]
    by_cases h0 : a.natAbs = 0
    · simp [Toward.cut, hm, h0]
    · have hlog : (-p).toNat ≤ m.log2 := by
        rw [Nat.le_log2 (by rw [hm]; exact Nat.mul_ne_zero h0 (Nat.pos_iff_ne_zero.1 (Nat.two_pow_pos _)))]
        rw [hm]
        exact Nat.le_mul_of_pos_left _ (Nat.pos_of_ne_zero h0)
      simp only [Toward.cut]
      rw [Nat.min_eq_left (by omega), Nat.shiftLeft_eq, Nat.one_mul, hm, Nat.mul_div_cancel _ (Nat.two_pow_pos _)]
      rfl
  simp only [Datum.toInt, Datum.integral, e1, hcut]
  congr 1
  have hk : (0 : Int) < 2 ^ (-p).toNat := Int.pow_pos (by decide)
  generalize (2 : Int) ^ (-p).toNat = k at *
  cases s
  · simp only [signed, if_neg (show ¬ (false = true) by decide)] at hv ⊢
    have : 0 ≤ a := by
      rcases Int.lt_or_le a 0 with h | h
      · have := Int.mul_neg_of_neg_of_pos h hk
        rw [← hv] at this; omega
      · exact h
    simp; omega
  · simp only [signed, if_pos] at hv ⊢
    have : a ≤ 0 := by
      rcases Int.lt_or_le 0 a with h | h
      · have := Int.mul_pos h hk
        rw [← hv] at this; omega
      · exact h
    simp; omega
end Go.Proofs.Ytpidikbhjiaogaa
