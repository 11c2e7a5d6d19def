/- Sums, differences and products of whole numbers as words of the double format: exact below 2^53. No program is named here. -/
import Derived.Test.YtpidikbhjiaogaaFl
import Derived.Laws.ComplexArith
namespace Go.Proofs.Ytpidikbhjiaogaa
open Ieee

theorem even_cut (s : Bool) (q d : Nat) (h : d ≤ (q * 2 ^ d).log2 + 2) : Toward.even.cut s (q * 2 ^ d) d = q := by
  simp only [Toward.cut, Nat.min_eq_left h, Nat.shiftLeft_eq, Nat.one_mul]
  have hp : 0 < 2 ^ d := Nat.two_pow_pos d
  have e1 : q * 2 ^ d / 2 ^ d = q := Nat.mul_div_cancel _ hp
  have e2 : q * 2 ^ d % 2 ^ d = 0 := Nat.mul_mod_left _ _
  rw [e1, e2]
  generalize 2 ^ d = g at *
  have h1 : decide (g < 2 * 0) = false := decide_eq_false (by omega)
  have h2 : (g == 2 * 0) = false := beq_eq_false_iff_ne.2 (by omega)
  rw [h1, h2]; rfl

theorem log2_scale (n k : Nat) (h : n ≠ 0) : (n * 2 ^ k).log2 = n.log2 + k := by
  have hp : 0 < 2 ^ k := Nat.two_pow_pos k
  have h0 : n * 2 ^ k ≠ 0 := Nat.mul_ne_zero h (by omega)
  apply Nat.le_antisymm
  · have : n * 2 ^ k < 2 ^ (n.log2 + k + 1) := by
      have h1 : n < 2 ^ (n.log2 + 1) := Nat.lt_log2_self
      rw [show n.log2 + k + 1 = (n.log2 + 1) + k by omega, Nat.pow_add]
      exact Nat.mul_lt_mul_of_pos_right h1 hp
    have := (Nat.log2_lt h0).2 this
    omega
  · rw [Nat.le_log2 h0, Nat.pow_add]
    exact Nat.mul_le_mul_right _ (Nat.log2_self_le h)

/-- the place at which a whole number is handed in doesn't count -/
theorem nearest_scale (s : Bool) (n k : Nat) (h0 : n ≠ 0) (h : n < 2 ^ 53) : double.nearest s (n * 2 ^ k) (-(k : Int)) = double.nearest s n 0 := by
  have hl := log2_bd n h0 h
  have hlp : double.leastPlace = -1074 := by kernel_rfl
  have hfb : double.fractionBits = 52 := rfl
  have hm0 : n * 2 ^ k ≠ 0 := Nat.mul_ne_zero h0 (by have := Nat.two_pow_pos k; omega)
  have hlg := log2_scale n k h0
  unfold Format.nearest
  rw [if_neg hm0, if_neg h0]
  simp only [hlp, hfb, hlg]
  have hL0 : 2 ^ n.log2 ≤ n := Nat.log2_self_le h0
  generalize hL : n.log2 = L at *
  have e1 : max (-(k : Int) + ((L + k : Nat) : Int) - ((52 : Nat) : Int)) (-1074) = (L : Int) - 52 := by omega
  have e1' : max ((0 : Int) + (L : Int) - ((52 : Nat) : Int)) (-1074) = (L : Int) - 52 := by omega
  have e2 : ((0 : Int) - ((L : Int) - 52)).toNat = 52 - L := by omega
  have e3 : ((L : Int) - 52 - 0).toNat = 0 := by omega
  rw [e1, e1', e2, e3, cut_zero]
  congr 2
  congr 1
  by_cases hk : k ≤ 52 - L
  · have e4 : (-(k : Int) - ((L : Int) - 52)).toNat = 52 - L - k := by omega
    have e5 : ((L : Int) - 52 - -(k : Int)).toNat = 0 := by omega
    rw [e4, e5, cut_zero, Nat.shiftLeft_eq, Nat.shiftLeft_eq, Nat.mul_assoc, ← Nat.pow_add, show k + (52 - L - k) = 52 - L by omega]
  · have e4 : (-(k : Int) - ((L : Int) - 52)).toNat = 0 := by omega
    have e5 : ((L : Int) - 52 - -(k : Int)).toNat = k - (52 - L) := by omega
    rw [e4, e5, Nat.shiftLeft_zero, Nat.shiftLeft_eq]
    have e6 : n * 2 ^ k = (n * 2 ^ (52 - L)) * 2 ^ (k - (52 - L)) := by
      rw [Nat.mul_assoc, ← Nat.pow_add, show 52 - L + (k - (52 - L)) = k by omega]
    rw [e6]
    refine even_cut s _ _ ?_
    rw [← e6, hlg]; omega

/-- what stands for the whole number a -/
def RepD (d : Datum) (a : Int) : Prop := ∃ s m p, d = .number s m p ∧ p ≤ 0 ∧ signed s m 0 = a * 2 ^ (-p).toNat
theorem rep_d {x : Nat} {a : Int} (h : Rep x a) : RepD (double.read x) a := h

theorem zero_word (s : Bool) : RepD (double.read (double.word s 0)) 0 := by
  cases s
  · exact ⟨false, 0, -1074, by kernel_rfl, by omega, by simp only [signed, Int.zero_mul]; rfl⟩
  · exact ⟨true, 0, -1074, by kernel_rfl, by omega, by simp only [signed, Int.zero_mul]; rfl⟩

theorem RepD.write {d : Datum} {a : Int} (h : RepD d a) (hb : a.natAbs < 2 ^ 53) : Rep (double.write d) a := by
  obtain ⟨s, m, p, rfl, hp, hv⟩ := h
  show Rep (double.nearest s m p) a
  have hm : m = a.natAbs * 2 ^ (-p).toNat := by
    have := congrArg Int.natAbs hv
    rw [Int.natAbs_mul, Int.natAbs_pow] at this
    cases s <;> simpa [signed] using this
  obtain ⟨k, hk⟩ : ∃ k : Nat, p = -(k : Int) := ⟨(-p).toNat, by omega⟩
  subst hk
  have ek : (-(-(k : Int))).toNat = k := by omega
  rw [ek] at hm hv
  by_cases h0 : a.natAbs = 0
  · have ha : a = 0 := by omega
    have : m = 0 := by rw [hm, h0]; simp
    subst this
    unfold Format.nearest
    rw [if_pos rfl, ha]
    exact zero_word s
  · rw [hm, nearest_scale s _ k h0 hb]
    have hl := log2_bd _ h0 hb
    refine ⟨_, _, _, read_int s _ h0 hb, by omega, ?_⟩
    have e : (-(((a.natAbs).log2 : Int) - 52)).toNat = 52 - a.natAbs.log2 := by omega
    rw [e]
    have hk0 : (0 : Int) < 2 ^ k := Int.pow_pos (by decide)
    have e2 : ∀ q : Nat, ((2 ^ q : Nat) : Int) = (2 : Int) ^ q := fun q => by rw [Int.natCast_pow]; rfl
    generalize 52 - a.natAbs.log2 = q
    rw [hm] at hv
    cases s
    · simp only [signed, Nat.shiftLeft_eq, Nat.pow_zero, Nat.mul_one, Bool.false_eq_true, if_false] at hv ⊢
      rw [Int.natCast_mul, e2] at hv
      have : ((a.natAbs : Nat) : Int) = a := Int.eq_of_mul_eq_mul_right (by omega) hv
      rw [Int.natCast_mul, this, e2]
    · simp only [signed, Nat.shiftLeft_eq, Nat.pow_zero, Nat.mul_one, if_true] at hv ⊢
      rw [Int.natCast_mul, e2, ← Int.neg_mul] at hv
      have : -((a.natAbs : Nat) : Int) = a := Int.eq_of_mul_eq_mul_right (by omega) hv
      rw [Int.natCast_mul, ← Int.neg_mul, this, e2]

theorem signed_not (s : Bool) (m k : Nat) : signed (!s) m k = -signed s m k := by cases s <;> simp [signed]
theorem RepD.opposite {d : Datum} {a : Int} (h : RepD d a) : RepD d.opposite (-a) := by
  obtain ⟨s, m, p, rfl, hp, hv⟩ := h
  exact ⟨!s, m, p, rfl, hp, by rw [signed_not, hv, Int.neg_mul]⟩

theorem signed_sign (t : Int) (b : Bool) (h : t ≠ 0 → b = decide (t < 0)) : signed b t.natAbs 0 = t := by
  unfold signed
  rw [Nat.shiftLeft_zero]
  by_cases h0 : t = 0
  · subst h0; cases b <;> rfl
  · rw [h h0]
    by_cases hn : t < 0
    · rw [if_pos (decide_eq_true hn)]; omega
    · rw [if_neg (by simp [hn])]; omega

theorem RepD.sum {d e : Datum} {a b : Int} (h : RepD d a) (h' : RepD e b) : ∃ r, d.sum e = some r ∧ RepD r (a + b) := by
  obtain ⟨s, m, i, rfl, hi, hv⟩ := h
  obtain ⟨t, n, j, rfl, hj, hw⟩ := h'
  refine ⟨_, rfl, _, _, _, rfl, by omega, ?_⟩
  have e1 : signed s m (i - min i j).toNat + signed t n (j - min i j).toNat = (a + b) * 2 ^ (-min i j).toNat := by
    rw [signed_scale, signed_scale (s := t), hv, hw, Int.mul_assoc, Int.mul_assoc, ← Int.pow_add, ← Int.pow_add, Int.add_mul]
    rw [show (-i).toNat + (i - min i j).toNat = (-min i j).toNat by omega, show (-j).toNat + (j - min i j).toNat = (-min i j).toNat by omega]
  rw [e1]
  refine signed_sign _ _ (fun h => ?_)
  rw [if_neg h]

theorem RepD.product {d e : Datum} {a b : Int} (h : RepD d a) (h' : RepD e b) : ∃ r, d.product e = some r ∧ RepD r (a * b) := by
  obtain ⟨s, m, i, rfl, hi, hv⟩ := h
  obtain ⟨t, n, j, rfl, hj, hw⟩ := h'
  refine ⟨_, rfl, _, _, _, rfl, by omega, ?_⟩
  have e1 : signed (s ^^ t) (m * n) 0 = signed s m 0 * signed t n 0 := by
    cases s <;> cases t <;> simp [signed, Int.neg_mul, Int.mul_neg]
  rw [e1, hv, hw, show (-(i + j)).toNat = (-i).toNat + (-j).toNat by omega, Int.pow_add]
  rw [Int.mul_assoc, Int.mul_assoc]
  congr 1
  rw [← Int.mul_assoc, Int.mul_comm _ b, Int.mul_assoc]

theorem rep_add {x y : Nat} {a b : Int} (hx : Rep x a) (hy : Rep y b) (hb : (a + b).natAbs < 2 ^ 53) : ∃ r, floatBits .add .f64 x y = some r ∧ Rep r (a + b) := by
  obtain ⟨d, h1, h2⟩ := (rep_d hx).sum (rep_d hy)
  refine ⟨double.write d, ?_, h2.write hb⟩
  show ((double.read x).sum (double.read y)).map double.write = _
  rw [h1]; rfl
theorem rep_sub {x y : Nat} {a b : Int} (hx : Rep x a) (hy : Rep y b) (hb : (a - b).natAbs < 2 ^ 53) : ∃ r, floatBits .sub .f64 x y = some r ∧ Rep r (a - b) := by
  obtain ⟨d, h1, h2⟩ := (rep_d hx).sum (rep_d hy).opposite
  refine ⟨double.write d, ?_, h2.write hb⟩
  show ((double.read x).sum (double.read y).opposite).map double.write = _
  rw [h1]; rfl
theorem rep_mul {x y : Nat} {a b : Int} (hx : Rep x a) (hy : Rep y b) (hb : (a * b).natAbs < 2 ^ 53) : ∃ r, floatBits .mul .f64 x y = some r ∧ Rep r (a * b) := by
  obtain ⟨d, h1, h2⟩ := (rep_d hx).product (rep_d hy)
  refine ⟨double.write d, ?_, h2.write hb⟩
  show ((double.read x).product (double.read y)).map double.write = _
  rw [h1]; rfl
end Go.Proofs.Ytpidikbhjiaogaa
