/- The document's numbers on lists of bytes: which texts are numbers, and which they are. No program is named here. -/
import Derived.Test.YtfgocdeaanalgaaDoorDg
namespace Go.Proofs.YtfgocdeaanalgaaDoor
open Go.Lib

/-- where the digits begin -/
def fOf (l : List UInt8) : Nat := if l.head? = some 45 then 1 else 0
def okN (l : List UInt8) : Bool := !(l.drop (fOf l)).isEmpty && (l.drop (fOf l)).all isD && !((l.drop (fOf l)).head? == some 48 && decide (1 < l.length))
def valN (l : List UInt8) : Nat := valD 0 (l.drop (fOf l))
def numP (l : List UInt8) : Int × Int :=
  if okN l = true then (if 1099511627776 < valN l then (0, 5) else (if l.head? = some 45 then -(valN l : Int) else valN l, 0)) else (0, 1)

theorem numP_form {l : List UInt8} (h : okN l = false) : numP l = (0, 1) := by unfold numP; rw [if_neg (by rw [h]; decide)]
theorem numP_range {l : List UInt8} (h : okN l = true) (hv : 1099511627776 < valN l) : numP l = (0, 5) := by unfold numP; rw [if_pos h, if_pos hv]
theorem numP_neg {l : List UInt8} (h : okN l = true) (hv : ¬ 1099511627776 < valN l) (h45 : l.head? = some 45) : numP l = (-(valN l : Int), 0) := by unfold numP; rw [if_pos h, if_neg hv, if_pos h45]
theorem numP_pos {l : List UInt8} (h : okN l = true) (hv : ¬ 1099511627776 < valN l) (h45 : l.head? ≠ some 45) : numP l = ((valN l : Int), 0) := by unfold numP; rw [if_pos h, if_neg hv, if_neg h45]

/-- the digits from f up to j are gone through; they spell v -/
structure Nd (l : List UInt8) (f j v : Nat) : Prop where
  le : f ≤ j
  len : j ≤ l.length
  digs : ((l.drop f).take (j - f)).all isD = true
  val : v = valD 0 ((l.drop f).take (j - f))

theorem Nd.start (l : List UInt8) (f : Nat) (h : f ≤ l.length) : Nd l f f 0 := ⟨Nat.le_refl _, h, by simp, by simp [valD_nil]⟩

theorem take_at (l : List UInt8) (f j : Nat) (hf : f ≤ j) (hj : j < l.length) : (l.drop f).take (j + 1 - f) = (l.drop f).take (j - f) ++ [l[j]] := by
  rw [show j + 1 - f = (j - f) + 1 by omega, List.take_succ_eq_append_getElem (by rw [List.length_drop]; omega)]
  congr 2
  rw [List.getElem_drop]
  congr 1; omega

theorem Nd.step {l : List UInt8} {f j v : Nat} (h : Nd l f j v) (hj : j < l.length) (hd : isD l[j] = true) : Nd l f (j + 1) (10 * v + digv l[j]) := by
  have e := take_at l f j h.le hj
  refine ⟨by have := h.le; omega, hj, ?_, ?_⟩
  · rw [e, List.all_append, h.digs]; simp [hd]
  · rw [e, valD_append, ← h.val, valD_cons, valD_nil]

theorem Nd.full {l : List UInt8} {f j v : Nat} (h : Nd l f j v) (hj : j = l.length) : (l.drop f).all isD = true ∧ v = valD 0 (l.drop f) := by
  have e : (l.drop f).take (j - f) = l.drop f := List.take_of_length_le (by rw [List.length_drop]; omega)
  have h1 := h.digs; have h2 := h.val
  rw [e] at h1 h2
  exact ⟨h1, h2⟩

theorem okN_empty {l : List UInt8} (h : l.length ≤ fOf l) : okN l = false := by
  unfold okN; rw [List.drop_of_length_le h]; rfl

theorem okN_bad {l : List UInt8} {j : Nat} (hf : fOf l ≤ j) (hj : j < l.length) (hd : isD l[j] = false) : okN l = false := by
  have h1 : (l.drop (fOf l)).all isD = false := by
    rw [List.all_eq_false]
    refine ⟨l[j], ?_, by rw [hd]; decide⟩
    rw [List.mem_iff_getElem]
    refine ⟨j - fOf l, by rw [List.length_drop]; omega, ?_⟩
    rw [List.getElem_drop]
    congr 1; omega
  unfold okN; rw [h1]; simp

theorem okN_nought {l : List UInt8} (h : (l.drop (fOf l)).head? = some 48) (h1 : 1 < l.length) : okN l = false := by
  unfold okN; rw [h]; simp [h1]

theorem okN_all {l : List UInt8} {v : Nat} (h : Nd l (fOf l) l.length v) (hne : fOf l < l.length) (h48 : (l.drop (fOf l)).head? ≠ some 48 ∨ l.length = 1) : okN l = true ∧ valN l = v := by
  obtain ⟨h1, h2⟩ := h.full rfl
  refine ⟨?_, h2.symm⟩
  have h3 : (l.drop (fOf l)).isEmpty = false := by
    rw [List.isEmpty_eq_false_iff]
    intro e
    have := congrArg List.length e
    rw [List.length_drop] at this
    simp at this; omega
  unfold okN; rw [h1, h3]
  rcases h48 with h | h
  · rw [beq_eq_false_iff_ne.2 h]; rfl
  · simp [h]

theorem numP_zero : numP [48] = (0, 0) := by decide +kernel
theorem one_zero {l : List UInt8} (h1 : l.length = 1) (h : l.head? = some 48) : l = [48] := by
  match l, h1 with
  | [c], _ => simp at h; rw [h]
end Go.Proofs.YtfgocdeaanalgaaDoor
