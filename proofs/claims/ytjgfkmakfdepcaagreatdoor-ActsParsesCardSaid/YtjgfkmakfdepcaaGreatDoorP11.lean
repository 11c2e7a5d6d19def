/- Own texts, joined: Vf, FG, Vb. -/
import Derived.Test.YtjgfkmakfdepcaaGreatDoorP3
import Derived.Test.YtjgfkmakfdepcaaGreatDoorP8
import Derived.Test.YtjgfkmakfdepcaaGreatDoorP9
import Derived.Test.YtjgfkmakfdepcaaGreatDoorP10
import Derived.Laws.ComplexArith
import Derived.Deep.QuietTactic
import Derived.BigQuiet
import Derived.Laws.Tables
import Derived.Laws.CopyOwn
namespace Go.Proofs.YtjgfkmakfdepcaaGreatDoor
open Ieee

theorem even_cut (s : Bool) (q d : Nat) (h : d ≤ (q * 2 ^ d).log2 + 2) : Toward.even.cut s (q * 2 ^ d) d = q := by
  simp only [Toward.cut, Nat.min_eq_left h, Nat.shiftLeft_eq, Nat.one_mul]
  have hp : 0 < 2 ^ d := Nat.two_pow_pos d
  have e1 : q * 2 ^ d / 2 ^ d = q := Nat.mul_div_cancel _ hp
  have e2 : q * 2 ^ d % 2 ^ d = 0 := Nat.mul_mod_left _ _
  rw [e1, e2]
  generalize 2 ^ d = g at *
  have h1 : decide (g < 2 * 0) = false := decide_eq_false (by omega)
  have h2 : (g == 2 * 0) = false := beq_eq_false_iff_ne.2 (by omega)
  rw [h1, h2]; rfl

theorem log2_scale (n k : Nat) (h : n ≠ 0) : (n * 2 ^ k).log2 = n.log2 + k := by
  have hp : 0 < 2 ^ k := Nat.two_pow_pos k
  have h0 : n * 2 ^ k ≠ 0 := Nat.mul_ne_zero h (by omega)
  apply Nat.le_antisymm
  · have : n * 2 ^ k < 2 ^ (n.log2 + k + 1) := by
      have h1 : n < 2 ^ (n.log2 + 1) := Nat.lt_log2_self
      rw [show n.log2 + k + 1 = (n.log2 + 1) + k by omega, Nat.pow_add]
      exact Nat.mul_lt_mul_of_pos_right h1 hp
    have := (Nat.log2_lt h0).2 this
    omega
  · rw [Nat.le_log2 h0, Nat.pow_add]
    exact Nat.mul_le_mul_right _ (Nat.log2_self_le h)

/-- the place at which a whole number is handed in doesn't count -/
theorem nearest_scale (s : Bool) (n k : Nat) (h0 : n ≠ 0) (h : n < 2 ^ 53) : double.nearest s (n * 2 ^ k) (-(k : Int)) = double.nearest s n 0 := by
  have hl := log2_bd n h0 h
  have hlp : double.leastPlace = -1074 := by kernel_rfl
  have hfb : double.fractionBits = 52 := rfl
  have hm0 : n * 2 ^ k ≠ 0 := Nat.mul_ne_zero h0 (by have := Nat.two_pow_pos k; omega)
  have hlg := log2_scale n k h0
  unfold Format.nearest
  rw [if_neg hm0, if_neg h0]
  simp only [hlp, hfb, hlg]
  have hL0 : 2 ^ n.log2 ≤ n := Nat.log2_self_le h0
  generalize hL : n.log2 = L at *
  have e1 : max (-(k : Int) + ((L + k : Nat) : Int) - ((52 : Nat) : Int)) (-1074) = (L : Int) - 52 := by omega
  have e1' : max ((0 : Int) + (L : Int) - ((52 : Nat) : Int)) (-1074) = (L : Int) - 52 := by omega
  have e2 : ((0 : Int) - ((L : Int) - 52)).toNat = 52 - L := by omega
  have e3 : ((L : Int) - 52 - 0).toNat = 0 := by omega
  rw [e1, e1', e2, e3, cut_zero]
  congr 2
  congr 1
  by_cases hk : k ≤ 52 - L
  · have e4 : (-(k : Int) - ((L : Int) - 52)).toNat = 52 - L - k := by omega
    have e5 : ((L : Int) - 52 - -(k : Int)).toNat = 0 := by omega
    rw [e4, e5, cut_zero, Nat.shiftLeft_eq, Nat.shiftLeft_eq, Nat.mul_assoc, ← Nat.pow_add, show k + (52 - L - k) = 52 - L by omega]
  · have e4 : (-(k : Int) - ((L : Int) - 52)).toNat = 0 := by omega
    have e5 : ((L : Int) - 52 - -(k : Int)).toNat = k - (52 - L) := by omega
    rw [e4, e5, Nat.shiftLeft_zero, Nat.shiftLeft_eq]
    have e6 : n * 2 ^ k = (n * 2 ^ (52 - L)) * 2 ^ (k - (52 - L)) := by
      rw [Nat.mul_assoc, ← Nat.pow_add, show 52 - L + (k - (52 - L)) = k by omega]
    rw [e6]
    refine even_cut s _ _ ?_
    rw [← e6, hlg]; omega

/-- what stands for the whole number a -/
def RepD (d : Datum) (a : Int) : Prop := ∃ s m p, d = .number s m p ∧ p ≤ 0 ∧ signed s m 0 = a * 2 ^ (-p).toNat
theorem rep_d {x : Nat} {a : Int} (h : Rep x a) : RepD (double.read x) a := h

theorem zero_word (s : Bool) : RepD (double.read (double.word s 0)) 0 := by
  cases s
  · exact ⟨false, 0, -1074, by kernel_rfl, by omega, by simp only [signed, Int.zero_mul]; rfl⟩
  · exact ⟨true, 0, -1074, by kernel_rfl, by omega, by simp only [signed, Int.zero_mul]; rfl⟩

theorem RepD.write {d : Datum} {a : Int} (h : RepD d a) (hb : a.natAbs < 2 ^ 53) : Rep (double.write d) a := by
  obtain ⟨s, m, p, rfl, hp, hv⟩ := h
  show Rep (double.nearest s m p) a
  have hm : m = a.natAbs * 2 ^ (-p).toNat := by
    have := congrArg Int.natAbs hv
    rw [Int.natAbs_mul, Int.natAbs_pow] at this
    cases s <;> simpa [signed] using this
  obtain ⟨k, hk⟩ : ∃ k : Nat, p = -(k : Int) := ⟨(-p).toNat, by omega⟩
  subst hk
  have ek : (-(-(k : Int))).toNat = k := by omega
  rw [ek] at hm hv
  by_cases h0 : a.natAbs = 0
  · have ha : a = 0 := by omega
    have : m = 0 := by rw [hm, h0]; simp
    subst this
    unfold Format.nearest
    rw [if_pos rfl, ha]
    exact zero_word s
  · rw [hm, nearest_scale s _ k h0 hb]
    have hl := log2_bd _ h0 hb
    refine ⟨_, _, _, read_int s _ h0 hb, by omega, ?_⟩
    have e : (-(((a.natAbs).log2 : Int) - 52)).toNat = 52 - a.natAbs.log2 := by omega
    rw [e]
    have hk0 : (0 : Int) < 2 ^ k := Int.pow_pos (by decide)
    have e2 : ∀ q : Nat, ((2 ^ q : Nat) : Int) = (2 : Int) ^ q := fun q => by rw [Int.natCast_pow]; rfl
    generalize 52 - a.natAbs.log2 = q
    rw [hm] at hv
    cases s
    · simp only [signed, Nat.shiftLeft_eq, Nat.pow_zero, Nat.mul_one, Bool.false_eq_true, if_false] at hv ⊢
      rw [Int.natCast_mul, e2] at hv
      have : ((a.natAbs : Nat) : Int) = a := Int.eq_of_mul_eq_mul_right (by omega) hv
      rw [Int.natCast_mul, this, e2]
    · simp only [signed, Nat.shiftLeft_eq, Nat.pow_zero, Nat.mul_one, if_true] at hv ⊢
      rw [Int.natCast_mul, e2, ← Int.neg_mul] at hv
      have : -((a.natAbs : Nat) : Int) = a := Int.eq_of_mul_eq_mul_right (by omega) hv
      rw [Int.natCast_mul, ← Int.neg_mul, this, e2]

theorem signed_not (s : Bool) (m k : Nat) : signed (!s) m k = -signed s m k := by cases s <;> simp [signed]
theorem RepD.opposite {d : Datum} {a : Int} (h : RepD d a) : RepD d.opposite (-a) := by
  obtain ⟨s, m, p, rfl, hp, hv⟩ := h
  exact ⟨!s, m, p, rfl, hp, by rw [signed_not, hv, Int.neg_mul]⟩

theorem signed_sign (t : Int) (b : Bool) (h : t ≠ 0 → b = decide (t < 0)) : signed b t.natAbs 0 = t := by
  unfold signed
  rw [Nat.shiftLeft_zero]
  by_cases h0 : t = 0
  · subst h0; cases b <;> rfl
  · rw [h h0]
    by_cases hn : t < 0
    · rw [if_pos (decide_eq_true hn)]; omega
    · rw [if_neg (by simp [hn])]; omega

theorem RepD.sum {d e : Datum} {a b : Int} (h : RepD d a) (h' : RepD e b) : ∃ r, d.sum e = some r ∧ RepD r (a + b) := by
  obtain ⟨s, m, i, rfl, hi, hv⟩ := h
  obtain ⟨t, n, j, rfl, hj, hw⟩ := h'
  refine ⟨_, rfl, _, _, _, rfl, by omega, ?_⟩
  have e1 : signed s m (i - min i j).toNat + signed t n (j - min i j).toNat = (a + b) * 2 ^ (-min i j).toNat := by
    rw [signed_scale, signed_scale (s := t), hv, hw, Int.mul_assoc, Int.mul_assoc, ← Int.pow_add, ← Int.pow_add, Int.add_mul]
    rw [show (-i).toNat + (i - min i j).toNat = (-min i j).toNat by omega, show (-j).toNat + (j - min i j).toNat = (-min i j).toNat by omega]
  rw [e1]
  refine signed_sign _ _ (fun h => ?_)
  rw [if_neg h]

theorem RepD.product {d e : Datum} {a b : Int} (h : RepD d a) (h' : RepD e b) : ∃ r, d.product e = some r ∧ RepD r (a * b) := by
  obtain ⟨s, m, i, rfl, hi, hv⟩ := h
  obtain ⟨t, n, j, rfl, hj, hw⟩ := h'
  refine ⟨_, rfl, _, _, _, rfl, by omega, ?_⟩
  have e1 : signed (s ^^ t) (m * n) 0 = signed s m 0 * signed t n 0 := by
    cases s <;> cases t <;> simp [signed, Int.neg_mul, Int.mul_neg]
  rw [e1, hv, hw, show (-(i + j)).toNat = (-i).toNat + (-j).toNat by omega, Int.pow_add]
  rw [Int.mul_assoc, Int.mul_assoc]
  congr 1
  rw [← Int.mul_assoc, Int.mul_comm _ b, Int.mul_assoc]

theorem rep_add {x y : Nat} {a b : Int} (hx : Rep x a) (hy : Rep y b) (hb : (a + b).natAbs < 2 ^ 53) : ∃ r, floatBits .add .f64 x y = some r ∧ Rep r (a + b) := by
  obtain ⟨d, h1, h2⟩ := (rep_d hx).sum (rep_d hy)
  refine ⟨double.write d, ?_, h2.write hb⟩
  show ((double.read x).sum (double.read y)).map double.write = _
  rw [h1]; rfl
theorem rep_sub {x y : Nat} {a b : Int} (hx : Rep x a) (hy : Rep y b) (hb : (a - b).natAbs < 2 ^ 53) : ∃ r, floatBits .sub .f64 x y = some r ∧ Rep r (a - b) := by
  obtain ⟨d, h1, h2⟩ := (rep_d hx).sum (rep_d hy).opposite
  refine ⟨double.write d, ?_, h2.write hb⟩
  show ((double.read x).sum (double.read y).opposite).map double.write = _
  rw [h1]; rfl
theorem rep_mul {x y : Nat} {a b : Int} (hx : Rep x a) (hy : Rep y b) (hb : (a * b).natAbs < 2 ^ 53) : ∃ r, floatBits .mul .f64 x y = some r ∧ Rep r (a * b) := by
  obtain ⟨d, h1, h2⟩ := (rep_d hx).product (rep_d hy)
  refine ⟨double.write d, ?_, h2.write hb⟩
  show ((double.read x).product (double.read y)).map double.write = _
  rw [h1]; rfl
end Go.Proofs.YtjgfkmakfdepcaaGreatDoor
namespace Go.Proofs.YtjgfkmakfdepcaaGreatDoor
open Go.RowKit

/-- an operator's text, and its strength, as the document has them -/
def sgT (k : Nat) : List UInt8 := if k = 7 then [45] else if k = 8 then [33] else if k < 11 then [] else (tabAt (k - 11)).2.1
def pwT (k : Nat) : Int := if k = 7 ∨ k = 8 then 6 else if k = 0 then 0 else if k < 11 then 7 else (tabAt (k - 11)).2.2

abbrev sgArr : Array Value := #[.string ⟨#[]⟩, .string ⟨#[]⟩, .string ⟨#[]⟩, .string ⟨#[]⟩, .string ⟨#[]⟩, .string ⟨#[]⟩, .string ⟨#[]⟩, .string ⟨#[45]⟩, .string ⟨#[33]⟩, .string ⟨#[]⟩, .string ⟨#[]⟩, .string ⟨#[43]⟩, .string ⟨#[45]⟩, .string ⟨#[42]⟩, .string ⟨#[47]⟩, .string ⟨#[37]⟩, .string ⟨#[61]⟩, .string ⟨#[33, 61]⟩, .string ⟨#[60]⟩, .string ⟨#[60, 61]⟩, .string ⟨#[62]⟩, .string ⟨#[62, 61]⟩, .string ⟨#[38]⟩, .string ⟨#[124]⟩]
abbrev pwArr : Array Value := #[.int .i64 0, .int .i64 7, .int .i64 7, .int .i64 7, .int .i64 7, .int .i64 7, .int .i64 7, .int .i64 6, .int .i64 6, .int .i64 7, .int .i64 7, .int .i64 4, .int .i64 4, .int .i64 5, .int .i64 5, .int .i64 5, .int .i64 3, .int .i64 3, .int .i64 3, .int .i64 3, .int .i64 3, .int .i64 3, .int .i64 2, .int .i64 1]
theorem sgArr_at (k : Nat) (hk : k < 24) : sgArr[k]? = some (.string ⟨(sgT k).toArray⟩) ∧ pwArr[k]? = some (.int .i64 (pwT k)) :=
  match k, hk with
  | 0, _ => ⟨rfl, rfl⟩
  | 1, _ => ⟨rfl, rfl⟩
  | 2, _ => ⟨rfl, rfl⟩
  | 3, _ => ⟨rfl, rfl⟩
  | 4, _ => ⟨rfl, rfl⟩
  | 5, _ => ⟨rfl, rfl⟩
  | 6, _ => ⟨rfl, rfl⟩
  | 7, _ => ⟨rfl, rfl⟩
  | 8, _ => ⟨rfl, rfl⟩
  | 9, _ => ⟨rfl, rfl⟩
  | 10, _ => ⟨rfl, rfl⟩
  | 11, _ => ⟨rfl, rfl⟩
  | 12, _ => ⟨rfl, rfl⟩
  | 13, _ => ⟨rfl, rfl⟩
  | 14, _ => ⟨rfl, rfl⟩
  | 15, _ => ⟨rfl, rfl⟩
  | 16, _ => ⟨rfl, rfl⟩
  | 17, _ => ⟨rfl, rfl⟩
  | 18, _ => ⟨rfl, rfl⟩
  | 19, _ => ⟨rfl, rfl⟩
  | 20, _ => ⟨rfl, rfl⟩
  | 21, _ => ⟨rfl, rfl⟩
  | 22, _ => ⟨rfl, rfl⟩
  | 23, _ => ⟨rfl, rfl⟩
  | n + 24, h => absurd h (by omega)

theorem wpList_build_to {ops : Array Oper} {rest : List Oper} {o : Oper} {a : Act} {w : World} {Q : Exit → Act → World → Prop} (hg : o.guard = none) (t : TypeId) (parts : Array (Nat × Operand)) (ho : o.op = .build t parts) (cells : Array Value)
    (hf : Tryz.prog.built t (parts.map fun (i, x) => (i, a.eval x)).toList = some cells)
    (h : wpList Tryz.prog ops Q rest (a.put o.dst (.agg cells)) w) : wpList Tryz.prog ops Q (o :: rest) a w := by
  refine wpList_build hg t parts ho (by rw [hf]; rfl) ?_
  rw [hf]; exact h
abbrev sgParts : Array (Nat × Operand) := #[(9, .const (.string ⟨#[]⟩)), (7, .const (.string ⟨#[45]⟩)), (8, .const (.string ⟨#[33]⟩)), (11, .const (.string ⟨#[43]⟩)), (12, .const (.string ⟨#[45]⟩)), (13, .const (.string ⟨#[42]⟩)), (14, .const (.string ⟨#[47]⟩)), (15, .const (.string ⟨#[37]⟩)), (16, .const (.string ⟨#[61]⟩)), (17, .const (.string ⟨#[33, 61]⟩)), (18, .const (.string ⟨#[60]⟩)), (19, .const (.string ⟨#[60, 61]⟩)), (20, .const (.string ⟨#[62]⟩)), (21, .const (.string ⟨#[62, 61]⟩)), (22, .const (.string ⟨#[38]⟩)), (23, .const (.string ⟨#[124]⟩))]
abbrev pwParts : Array (Nat × Operand) := #[(0, .const (.int .i64 0)), (1, .const (.int .i64 7)), (2, .const (.int .i64 7)), (3, .const (.int .i64 7)), (4, .const (.int .i64 7)), (5, .const (.int .i64 7)), (6, .const (.int .i64 7)), (7, .const (.int .i64 6)), (8, .const (.int .i64 6)), (9, .const (.int .i64 7)), (10, .const (.int .i64 7)), (11, .const (.int .i64 4)), (12, .const (.int .i64 4)), (13, .const (.int .i64 5)), (14, .const (.int .i64 5)), (15, .const (.int .i64 5)), (16, .const (.int .i64 3)), (17, .const (.int .i64 3)), (18, .const (.int .i64 3)), (19, .const (.int .i64 3)), (20, .const (.int .i64 3)), (21, .const (.int .i64 3)), (22, .const (.int .i64 2)), (23, .const (.int .i64 1))]
theorem sg_built (a : Act) : Tryz.prog.built 162 (sgParts.map fun (i, x) => (i, a.eval x)).toList = some sgArr := by kernel_rfl
theorem pw_built (a : Act) : Tryz.prog.built 163 (pwParts.map fun (i, x) => (i, a.eval x)).toList = some pwArr := by kernel_rfl
theorem sg_one : sgArr.all (·.oneCell') = true := by kernel_rfl
theorem pw_one : pwArr.all (·.oneCell') = true := by kernel_rfl
theorem sg_size : (Tryz.prog.info? 162).map (·.size) = some sgArr.size := by kernel_rfl
theorem pw_size : (Tryz.prog.info? 163).map (·.size) = some pwArr.size := by kernel_rfl
theorem pw_new (w : World) (o x : Obj) (cs : Array Value) : (((w.alloc o).setRow w.heap.size cs).alloc x).heap[w.heap.size + 1]? = some x := by
  have := heap_alloc_new ((w.alloc o).setRow w.heap.size cs) x
  simpa using this

def SignPost (k : Nat) (w : World) (e : Ending) (w' : World) : Prop := e = .returned (.tuple #[bstr (sgT k), .int .i64 (pwT k)]) ∧ Below w.heap.size w w'
theorem sign_fin {k : Nat} {w w' : World} {X : ByteArray} {n : Int} (hX : ⟨(sgT k).toArray⟩ = X) (hn : pwT k = n) (hb : Below w.heap.size w w') : SignPost k w (.returned (.tuple #[.string X, .int .i64 n])) w' := by
  subst hX hn; exact ⟨rfl, hb⟩

abbrev sgZero : Array Value := #[.string ⟨#[]⟩, .string ⟨#[]⟩, .string ⟨#[]⟩, .string ⟨#[]⟩, .string ⟨#[]⟩, .string ⟨#[]⟩, .string ⟨#[]⟩, .string ⟨#[]⟩, .string ⟨#[]⟩, .string ⟨#[]⟩, .string ⟨#[]⟩, .string ⟨#[]⟩, .string ⟨#[]⟩, .string ⟨#[]⟩, .string ⟨#[]⟩, .string ⟨#[]⟩, .string ⟨#[]⟩, .string ⟨#[]⟩, .string ⟨#[]⟩, .string ⟨#[]⟩, .string ⟨#[]⟩, .string ⟨#[]⟩, .string ⟨#[]⟩, .string ⟨#[]⟩]
abbrev pwZero : Array Value := #[.int .i64 0, .int .i64 0, .int .i64 0, .int .i64 0, .int .i64 0, .int .i64 0, .int .i64 0, .int .i64 0, .int .i64 0, .int .i64 0, .int .i64 0, .int .i64 0, .int .i64 0, .int .i64 0, .int .i64 0, .int .i64 0, .int .i64 0, .int .i64 0, .int .i64 0, .int .i64 0, .int .i64 0, .int .i64 0, .int .i64 0, .int .i64 0]
theorem sign_world (k : Nat) (hk : k < 24) (w : World) (S : ByteArray) (P : Int) (hS : ⟨(sgT k).toArray⟩ = S) (hP : pwT k = P) : ∀ W, (((w.alloc (.cells sgZero 162)).setRow w.heap.size sgArr).alloc (.cells pwZero 163)).setRow (w.heap.size + 1) pwArr = W →
    W.cell? ⟨w.heap.size, k, none⟩ = some (.string S) ∧ W.cell? ⟨w.heap.size + 1, k, none⟩ = some (.int .i64 P) ∧ Below w.heap.size w W := by
  rintro W rfl
  obtain ⟨h1, h2⟩ := sgArr_at k hk
  rw [hS] at h1
  rw [hP] at h2
  have e0 : (w.alloc (.cells sgZero 162)).heap[w.heap.size]? = some (.cells sgZero 162 (0, 0)) := heap_alloc_new w _
  have e1 : ((w.alloc (.cells sgZero 162)).setRow w.heap.size sgArr).heap[w.heap.size]? = some (.cells sgArr 162 (0, 0)) := setRow_heap _ _ _ _ _ _ e0
  have e2 := pw_new w (.cells sgZero 162) (.cells pwZero 163) sgArr
  have b1 : Below w.heap.size w ((w.alloc (.cells sgZero 162)).setRow w.heap.size sgArr) := below_setRow ((Below.refl _ _).alloc (Nat.le_refl _) _) (Nat.le_refl _) _
  have b2 : Below w.heap.size w ((((w.alloc (.cells sgZero 162)).setRow w.heap.size sgArr).alloc (.cells pwZero 163)).setRow (w.heap.size + 1) pwArr) := below_setRow (b1.alloc (by simp) _) (Nat.le_succ _) _
  have b3 : Below (w.heap.size + 1) ((w.alloc (.cells sgZero 162)).setRow w.heap.size sgArr) ((((w.alloc (.cells sgZero 162)).setRow w.heap.size sgArr).alloc (.cells pwZero 163)).setRow (w.heap.size + 1) pwArr) := below_setRow ((Below.refl _ _).alloc (by simp) _) (Nat.le_refl _) _
  refine ⟨?_, ?_, b2⟩
  · exact (cell_of_row _ w.heap.size k _ _ _ ((b3.block _ (by omega)).trans e1)).trans h1
  · exact (cell_of_row _ (w.heap.size + 1) k _ _ _ (setRow_heap _ _ _ pwArr _ _ e2)).trans h2

set_option maxRecDepth 100000 in
set_option maxHeartbeats 2000000 in
theorem sign_any (k : Nat) (hk : k < 24) (w : World) : Calls Tryz.prog 76 #[.int .i64 k] w (SignPost k w) := by
  obtain ⟨S, hS⟩ : ∃ S : ByteArray, ⟨(sgT k).toArray⟩ = S := ⟨_, rfl⟩
  obtain ⟨P, hP⟩ : ∃ P, pwT k = P := ⟨_, rfl⟩
  have HF := Lib.hid (sign_world k hk w S P hS hP)
  have HS := Lib.hid hS; have HP := Lib.hid hP
  have hk0 : (0 : Int) ≤ (k : Int) := by omega
  have hk1 : (k : Int) < 24 := by omega
  clear hS hP
  go_enter Tryz.func76, Tryz.ntmps76
  go_wp2_with (first
    | (refine wpList_build_to rfl 162 sgParts rfl sgArr (sg_built _) ?_)
    | (refine wpList_build_to rfl 163 pwParts rfl pwArr (pw_built _) ?_)
    | (refine wpList_store_row rfl 162 _ _ rfl w.heap.size sgArr rfl rfl 162 _ (heap_alloc_new w _) sg_size rfl sg_one ?_)
    | (refine wpList_store_row rfl 163 _ _ rfl (w.heap.size + 1) pwArr rfl rfl 163 _ (pw_new w _ _ _) pw_size rfl pw_one ?_))
  generalize hW : (((w.alloc (.cells sgZero 162)).setRow w.heap.size sgArr).alloc (.cells pwZero 163)).setRow (w.heap.size + 1) pwArr = W
  obtain ⟨c0, c1, hb⟩ := HF.out W hW
  have HB := Lib.hid hb
  clear hb hW
  generalize Value.agg sgArr = A6
  generalize Value.agg pwArr = A7
  go_quiet (fail)
  go_wp2
  go_ret2
  exact sign_fin HS.out HP.out ⟨HB.out.os, HB.out.tape, HB.out.output, HB.out.size, HB.out.block⟩
end Go.Proofs.YtjgfkmakfdepcaaGreatDoor
namespace Go.Proofs.YtjgfkmakfdepcaaGreatDoor
open Go.RowKit

@[go_sem] theorem run_store_complex (P : Program) (w : World) (a : Addr) (m : Mode) (k : FloatKind) (x y : Nat) : (store a (.complex k x y) m).run P w = stored P w a (.complex k x y) m := run_store P w a _ m rfl

def fl (a : Int) : Nat := floatOfInt .f64 a
theorem fl0 : fl 0 = 0 := by kernel_rfl
def numO (n : Int) : Value := .agg #[.int .i64 1, .int .i64 n, .bool false, .complex .f64 0 0]
def truO (b : Bool) : Value := .agg #[.int .i64 2, .int .i64 0, .bool b, .complex .f64 0 0]
def ptO (a b : Int) : Value := .agg #[.int .i64 3, .int .i64 0, .bool false, .complex .f64 (fl a) (fl b)]
def zeroO : Value := .agg #[.int .i64 0, .int .i64 0, .bool false, .complex .f64 0 0]
/-- a value as an operand -/
def opV (v : VA) : Value := .agg #[.int .i64 v.kd, .int .i64 (if v.kd = 1 then v.a else 0), .bool (decide (v.kd = 2 ∧ v.a = 1)), .complex .f64 (fl (if v.kd = 3 then v.a else 0)) (fl (if v.kd = 3 then v.b else 0))]
theorem opV_num (n : Int) : opV (numV n) = numO n := by unfold opV numV numO; simp [fl0]
theorem opV_tru (b : Bool) : opV (truV b) = truO b := by unfold opV truV truO; cases b <;> simp [fl0]
theorem opV_pt (a b : Int) : opV (ptV a b) = ptO a b := by unfold opV ptV ptO; simp
theorem opV_zero : opV VA.zero = zeroO := by unfold opV VA.zero zeroO; simp [fl0]
/-- what is answered -/
def outV (p : VA × Int) : Ending := .returned (.tuple #[opV p.1, .int .i64 p.2])
theorem out_num (n : Int) : outV (numV n, 0) = .returned (.tuple #[numO n, .int .i64 0]) := by unfold outV; rw [opV_num]
theorem out_tru (b : Bool) : outV (truV b, 0) = .returned (.tuple #[truO b, .int .i64 0]) := by unfold outV; rw [opV_tru]
theorem out_pt (a b : Int) : outV (ptV a b, 0) = .returned (.tuple #[ptO a b, .int .i64 0]) := by unfold outV; rw [opV_pt]
theorem out_er (e : Int) : outV (erV e) = .returned (.tuple #[zeroO, .int .i64 e]) := by unfold outV erV; rw [opV_zero]

theorem vnumber_any (n : Int) (w : World) :
    Calls Tryz.prog 140 #[.int .i64 n] w fun e w' => e = .returned (.agg #[.int .i64 1, .int .i64 n, .bool false, .complex .f64 0 0]) ∧ w' = w.alloc (.cells #[.int .i64 1, .int .i64 n, .bool false, .complex .f64 0 0] 144) := by
  go_enter Tryz.func140, Tryz.ntmps140
  go_wp2
  refine bodyPost_ret ?_ rfl ⟨rfl, ?_⟩
  · simp [results, Tryz.results140, go_sem]
  · rfl
theorem truth_any (b : Bool) (w : World) :
    Calls Tryz.prog 143 #[.bool b] w fun e w' => e = .returned (.agg #[.int .i64 2, .int .i64 0, .bool b, .complex .f64 0 0]) ∧ w' = w.alloc (.cells #[.int .i64 2, .int .i64 0, .bool b, .complex .f64 0 0] 144) := by
  go_enter Tryz.func143, Tryz.ntmps143
  go_wp2
  refine bodyPost_ret ?_ rfl ⟨rfl, ?_⟩
  · simp [results, Tryz.results143, go_sem]
  · rfl

theorem wrap_spec (n : Int) : -9223372036854775808 ≤ wrap64 n ∧ wrap64 n ≤ 9223372036854775807 ∧ ∃ k : Int, wrap64 n = n - k * 18446744073709551616 := by
  unfold wrap64
  refine ⟨by omega, by omega, (n + 9223372036854775808) / 18446744073709551616, ?_⟩
  omega
theorem out_ok {n s : Int} (h : n = s) (h1 : -9223372036854775808 ≤ s) (h2 : s ≤ 9223372036854775807) : outV (numE n) = .returned (.tuple #[.agg #[.int .i64 1, .int .i64 s, .bool false, .complex .f64 0 0], .int .i64 0]) := by
  subst h
  unfold numE
  rw [if_pos (inL_iff.2 ⟨h1, h2⟩)]; exact out_num n
theorem out_over {n : Int} (h : n < -9223372036854775808 ∨ 9223372036854775807 < n) : outV (numE n) = .returned (.tuple #[.agg #[.int .i64 0, .int .i64 0, .bool false, .complex .f64 0 0], .int .i64 7]) := by
  unfold numE
  rw [if_neg (by rw [inL_iff]; omega)]; exact out_er 7

theorem dec2 (p : Prop) [Decidable p] : (p ∧ decide p = true) ∨ (¬ p ∧ decide p = false) := by
  by_cases h : p
  · exact Or.inl ⟨h, decide_eq_true h⟩
  · exact Or.inr ⟨h, decide_eq_false h⟩

theorem sum_any (a b : Int) (w : World) (ha : inL a = true) (hb : inL b = true) :
    Calls Tryz.prog 170 #[.int .i64 a, .int .i64 b] w fun e w' => e = outV (numE (a + b)) ∧ Below w.heap.size w w' := by
  rw [inL_iff] at *
  obtain ⟨h1, h2, k, hk⟩ := wrap_spec (a + b)
  generalize hs : wrap64 (a + b) = s at *
  rcases dec2 (a < 0) with ⟨ca, t1⟩ | ⟨ca, t1⟩ <;> rcases dec2 (b < 0) with ⟨cb, t2⟩ | ⟨cb, t2⟩ <;> rcases dec2 (s < 0) with ⟨cs, t3⟩ | ⟨cs, t3⟩
  all_goals
    have HA : Hid ((a + b = s ∨ (a + b < -9223372036854775808 ∨ 9223372036854775807 < a + b)) ∧ -9223372036854775808 ≤ a ∧ a ≤ 9223372036854775807 ∧ -9223372036854775808 ≤ b ∧ b ≤ 9223372036854775807 ∧ s = a + b - k * 18446744073709551616) := ⟨by omega, ha.1, ha.2, hb.1, hb.2, hk⟩
    have HS : Hid (-9223372036854775808 ≤ s ∧ s ≤ 9223372036854775807) := ⟨h1, h2⟩
    clear h1 h2 hk ca cb cs ha hb
    go_enter Tryz.func170, Tryz.ntmps170
    go_wp2_with (go_at_call 140; refine (vnumber_any _ _).mono ?_; rintro e w1 ⟨rfl, rfl⟩)
    first
      | (refine bodyPost_ret ?_ rfl ⟨(out_ok (by have h1 := HA.out; have h2 := HS.out; simp only [decide_eq_true_eq, decide_eq_false_iff_not] at t1 t2 t3; omega) HS.out.1 HS.out.2).symm, ?_⟩
         · simp [results, Tryz.results170, go_sem]
         · exact ((Below.refl _ _).alloc (Nat.le_refl _) _).alloc (by simp) _)
      | (refine bodyPost_ret ?_ rfl ⟨(out_over (by have h1 := HA.out; have h2 := HS.out; simp only [decide_eq_true_eq, decide_eq_false_iff_not] at t1 t2 t3; omega)).symm, ?_⟩
         · simp [results, Tryz.results170, go_sem]
         · exact (Below.refl _ _).alloc (Nat.le_refl _) _)

theorem less_any (a b : Int) (w : World) (ha : inL a = true) (hb : inL b = true) :
    Calls Tryz.prog 145 #[.int .i64 a, .int .i64 b] w fun e w' => e = outV (numE (a - b)) ∧ Below w.heap.size w w' := by
  rw [inL_iff] at *
  obtain ⟨h1, h2, k, hk⟩ := wrap_spec (a - b)
  generalize hs : wrap64 (a - b) = s at *
  rcases dec2 (a < 0) with ⟨ca, t1⟩ | ⟨ca, t1⟩ <;> rcases dec2 (b < 0) with ⟨cb, t2⟩ | ⟨cb, t2⟩ <;> rcases dec2 (s < 0) with ⟨cs, t3⟩ | ⟨cs, t3⟩
  all_goals
    have HA : Hid ((a - b = s ∨ (a - b < -9223372036854775808 ∨ 9223372036854775807 < a - b)) ∧ -9223372036854775808 ≤ a ∧ a ≤ 9223372036854775807 ∧ -9223372036854775808 ≤ b ∧ b ≤ 9223372036854775807 ∧ s = a - b - k * 18446744073709551616) := ⟨by omega, ha.1, ha.2, hb.1, hb.2, hk⟩
    have HS : Hid (-9223372036854775808 ≤ s ∧ s ≤ 9223372036854775807) := ⟨h1, h2⟩
    clear h1 h2 hk ca cb cs ha hb
    go_enter Tryz.func145, Tryz.ntmps145
    go_wp2_with (go_at_call 140; refine (vnumber_any _ _).mono ?_; rintro e w1 ⟨rfl, rfl⟩)
    first
      | (refine bodyPost_ret ?_ rfl ⟨(out_ok (by have h1 := HA.out; have h2 := HS.out; simp only [decide_eq_true_eq, decide_eq_false_iff_not] at t1 t2 t3; omega) HS.out.1 HS.out.2).symm, ?_⟩
         · simp [results, Tryz.results145, go_sem]
         · exact ((Below.refl _ _).alloc (Nat.le_refl _) _).alloc (by simp) _)
      | (refine bodyPost_ret ?_ rfl ⟨(out_over (by have h1 := HA.out; have h2 := HS.out; simp only [decide_eq_true_eq, decide_eq_false_iff_not] at t1 t2 t3; omega)).symm, ?_⟩
         · simp [results, Tryz.results145, go_sem]
         · exact (Below.refl _ _).alloc (Nat.le_refl _) _)


theorem at4 {w : World} {D : Nat} {x0 x1 x2 x3 : Value} {t : TypeId} (h : w.heap[D]? = some (.cells #[x0, x1, x2, x3] t (0, 0))) :
    w.cell? ⟨D, 0, none⟩ = some x0 ∧ w.cell? ⟨D, 1, none⟩ = some x1 ∧ w.cell? ⟨D, 2, none⟩ = some x2 ∧ w.cell? ⟨D, 3, none⟩ = some x3 ∧
    w.frozen? ⟨D, 0, none⟩ = false ∧ w.frozen? ⟨D, 1, none⟩ = false ∧ w.frozen? ⟨D, 2, none⟩ = false ∧ w.frozen? ⟨D, 3, none⟩ = false := by
  simp [World.cell?, World.frozen?, h]
/-- behind a call: the variable of the result is there still, and may be written -/
theorem fwd4 {w W w1 : World} {D : Nat} {x0 x1 x2 x3 : Value} {t : TypeId} (hD : W.heap.size = D) (hW : Below w.heap.size w W)
    (hb1 : Below (W.alloc (.cells #[x0, x1, x2, x3] t)).heap.size (W.alloc (.cells #[x0, x1, x2, x3] t)) w1) :
    w1.heap[D]? = some (.cells #[x0, x1, x2, x3] t (0, 0)) ∧ Below w.heap.size w w1 := by
  refine ⟨?_, (hW.alloc hW.size _).trans (hb1.mono (Nat.le_trans hW.size (by simp)))⟩
  rw [hb1.block D (by rw [← hD]; simp), ← hD]
  exact heap_alloc_new W _
theorem fin4 {w w1 : World} {D B : Nat} {x0 x1 x2 x3 : Value} {t : TypeId} (h : w1.heap[D]? = some (.cells #[x0, x1, x2, x3] t (0, 0))) (hB : B ≤ D) (hb : Below B w w1) (u0 u1 u2 u3 : Value) :
    (((((w1.setCell ⟨D, 0, none⟩ u0).setCell ⟨D, 1, none⟩ u1).setCell ⟨D, 2, none⟩ u2).setCell ⟨D, 3, none⟩ u3).cell? ⟨D, 0, none⟩ = some u0 ∧
    ((((w1.setCell ⟨D, 0, none⟩ u0).setCell ⟨D, 1, none⟩ u1).setCell ⟨D, 2, none⟩ u2).setCell ⟨D, 3, none⟩ u3).cell? ⟨D, 1, none⟩ = some u1 ∧
    ((((w1.setCell ⟨D, 0, none⟩ u0).setCell ⟨D, 1, none⟩ u1).setCell ⟨D, 2, none⟩ u2).setCell ⟨D, 3, none⟩ u3).cell? ⟨D, 2, none⟩ = some u2 ∧
    ((((w1.setCell ⟨D, 0, none⟩ u0).setCell ⟨D, 1, none⟩ u1).setCell ⟨D, 2, none⟩ u2).setCell ⟨D, 3, none⟩ u3).cell? ⟨D, 3, none⟩ = some u3) ∧
    Below B w ((((w1.setCell ⟨D, 0, none⟩ u0).setCell ⟨D, 1, none⟩ u1).setCell ⟨D, 2, none⟩ u2).setCell ⟨D, 3, none⟩ u3) := by
  have h1 := heap_setCell_same _ _ 0 _ _ u0 h
  have h2 := heap_setCell_same _ _ 1 _ _ u1 h1
  have h3 := heap_setCell_same _ _ 2 _ _ u2 h2
  have h4 := heap_setCell_same _ _ 3 _ _ u3 h3
  obtain ⟨r0, r1, r2, r3, _⟩ := at4 (x0 := u0) (x1 := u1) (x2 := u2) (x3 := u3) h4
  exact ⟨⟨r0, r1, r2, r3⟩, (((hb.setCell hB _).setCell hB _).setCell hB _).setCell hB _⟩

/-- what is answered, in letters -/
theorem out_form (p : VA × Int) : ∃ k x t c1 c2 er, outV p = .returned (.tuple #[.agg #[.int .i64 k, .int .i64 x, .bool t, .complex .f64 c1 c2], .int .i64 er]) := ⟨_, _, _, _, _, _, rfl⟩

theorem mul_fact (a b : Int) (ha : -9223372036854775808 ≤ a ∧ a ≤ 9223372036854775807) (hb : -9223372036854775808 ≤ b ∧ b ≤ 9223372036854775807) (h0 : a ≠ 0) (h1 : a ≠ -1) :
    (inL (a * b) = true ∧ wrap64 (a * b) = a * b ∧ wrap64 ((wrap64 (a * b)).tdiv a) = b) ∨ (inL (a * b) = false ∧ wrap64 ((wrap64 (a * b)).tdiv a) ≠ b) := by
  obtain ⟨w1, w2, k, hk⟩ := wrap_spec (a * b)
  by_cases hi : inL (a * b) = true
  · left
    rw [inL_iff] at hi
    have e1 : wrap64 (a * b) = a * b := by unfold wrap64; omega
    refine ⟨inL_iff.2 hi, e1, ?_⟩
    rw [e1, Int.mul_tdiv_cancel_left b h0]
    unfold wrap64; omega
  · right
    refine ⟨by simpa using hi, fun hq => hi ?_⟩
    obtain ⟨p, hp⟩ : ∃ p, wrap64 (a * b) = p := ⟨_, rfl⟩
    rw [hp] at hq w1 w2 hk
    have e2 : (p.tdiv a).natAbs = p.natAbs / a.natAbs := Int.natAbs_tdiv p a
    have e3 : (p.tmod a).natAbs = p.natAbs % a.natAbs := Int.natAbs_tmod p a
    have e4 := Int.mul_tdiv_add_tmod p a
    have e5 : p.natAbs % a.natAbs < a.natAbs := Nat.mod_lt _ (by omega)
    have e6 : wrap64 (p.tdiv a) = p.tdiv a := by
      by_cases h2 : a = 1
      · rw [h2, Int.tdiv_one]; unfold wrap64; omega
      · have : p.natAbs / a.natAbs ≤ p.natAbs / 2 := Nat.div_le_div_left (by omega) (by omega)
        unfold wrap64; omega
    rw [e6] at hq
    rw [hq] at e4
    generalize a * b = m at *
    rw [inL_iff]
    omega

theorem product_any (a b : Int) (w : World) (ha : inL a = true) (hb : inL b = true) :
    Calls Tryz.prog 171 #[.int .i64 a, .int .i64 b] w fun e w' => e = outV (numE (a * b)) ∧ Below w.heap.size w w' := by
  have HL := Lib.hid (fun W => less_any 0 b W rfl hb)
  rw [inL_iff] at *
  by_cases ca : a = -1
  · subst ca
    have e : -1 * b = 0 - b := by omega
    obtain ⟨k, x, t, c1, c2, er, hf⟩ := out_form (numE (0 - b))
    rw [e, hf]
    rw [hf] at HL
    have hW : Below w.heap.size w w := Below.refl _ _
    go_enter Tryz.func171, Tryz.ntmps171
    go_wp2_with fail
    refine (HL.out _).mono ?_
    rintro e w1 ⟨rfl, hb1⟩
    obtain ⟨hh, hbw⟩ := fwd4 rfl hW hb1
    obtain ⟨d0, d1, d2, d3, f0, f1, f2, f3⟩ := at4 hh
    go_wp2
    obtain ⟨⟨r0, r1, r2, r3⟩, hbf⟩ := fin4 hh (Nat.le_refl _) hbw (.int .i64 k) (.int .i64 x) (.bool t) (.complex .f64 c1 c2)
    refine bodyPost_ret ?_ rfl ⟨rfl, hbf⟩
    simp [results, Tryz.results171, go_sem, r0, r1, r2, r3]
  · have t1 := int_ne ca
    by_cases cz : a = 0
    · subst cz
      have HO : Hid (outV (numE (0 * b)) = _) := out_ok (s := 0) (Int.zero_mul b) (by decide) (by decide)
      generalize outV (numE (0 * b)) = R at *
      go_enter Tryz.func171, Tryz.ntmps171
      go_wp2_with (go_at_call 140; refine (vnumber_any _ _).mono ?_; rintro e w1 ⟨rfl, rfl⟩)
      refine bodyPost_ret ?_ rfl ⟨HO.out.symm, ?_⟩
      · simp [results, Tryz.results171, go_sem]
      · exact ((Below.refl _ _).alloc (Nat.le_refl _) _).alloc (by simp) _
    · have hm := mul_fact a b ha hb cz ca
      obtain ⟨q, hq⟩ : ∃ q, wrap64 ((wrap64 (a * b)).tdiv a) = q := ⟨_, rfl⟩
      rw [hq] at hm
      obtain ⟨p, hp⟩ : ∃ p, wrap64 (a * b) = p := ⟨_, rfl⟩
      rw [hp] at hm hq
      have t2 := int_ne cz
      have t2' := bne_iff_ne.2 cz
      rcases hm with ⟨m1, m2, m3⟩ | ⟨m1, m3⟩
      · have HO : Hid (outV (numE (a * b)) = _) := out_ok m2.symm (by rw [← hp]; exact (wrap_spec _).1) (by rw [← hp]; exact (wrap_spec _).2.1)
        generalize outV (numE (a * b)) = R at *
        have t3 : (q != b) = false := by rw [m3]; simp
        clear m1 m2 m3 ca
        go_enter Tryz.func171, Tryz.ntmps171
        go_wp2_with (go_at_call 140; refine (vnumber_any _ _).mono ?_; rintro e w1 ⟨rfl, rfl⟩)
        refine bodyPost_ret ?_ rfl ⟨HO.out.symm, ?_⟩
        · simp [results, Tryz.results171, go_sem]
        · exact ((Below.refl _ _).alloc (Nat.le_refl _) _).alloc (by simp) _
      · have HO : Hid (outV (numE (a * b)) = _) := out_over (n := a * b) (by have : ¬ inL (a * b) = true := by rw [m1]; decide
                                                                             rw [inL_iff] at this; omega)
        generalize outV (numE (a * b)) = R at *
        have t3 : (q != b) = true := bne_iff_ne.2 m3
        clear m1 m3 ca
        go_enter Tryz.func171, Tryz.ntmps171
        go_wp2_with (go_at_call 140; refine (vnumber_any _ _).mono ?_; rintro e w1 ⟨rfl, rfl⟩)
        refine bodyPost_ret ?_ rfl ⟨HO.out.symm, ?_⟩
        · simp [results, Tryz.results171, go_sem]
        · exact (Below.refl _ _).alloc (Nat.le_refl _) _

theorem quot_in {a b : Int} (ha : -9223372036854775808 ≤ a ∧ a ≤ 9223372036854775807) (h : ¬ (a = -9223372036854775808 ∧ b = -1)) : -9223372036854775808 ≤ a.tdiv b ∧ a.tdiv b ≤ 9223372036854775807 := by
  have e2 : (a.tdiv b).natAbs = a.natAbs / b.natAbs := Int.natAbs_tdiv a b
  by_cases h0 : b = 0
  · subst h0; rw [Int.tdiv_zero]; omega
  by_cases h1 : b.natAbs = 1
  · rcases (show b = 1 ∨ b = -1 by omega) with rfl | rfl
    · rw [Int.tdiv_one]; exact ha
    · rw [Int.tdiv_neg, Int.tdiv_one]; omega
  · have : a.natAbs / b.natAbs ≤ a.natAbs / 2 := Nat.div_le_div_left (by omega) (by omega)
    omega
theorem wrap_id {n : Int} (h : -9223372036854775808 ≤ n ∧ n ≤ 9223372036854775807) : wrap64 n = n := by unfold wrap64; omega

theorem out_div0 {b : Int} (h : b = 0) (r : VA × Int) : outV (if b = 0 then erV 6 else r) = .returned (.tuple #[.agg #[.int .i64 0, .int .i64 0, .bool false, .complex .f64 0 0], .int .i64 6]) := by
  rw [if_pos h]; exact out_er 6
theorem out_div1 {b : Int} (h : b ≠ 0) (r : VA × Int) : outV (if b = 0 then erV 6 else r) = outV r := by rw [if_neg h]

theorem quotient_any (a b : Int) (w : World) (ha : inL a = true) (hb : inL b = true) :
    Calls Tryz.prog 172 #[.int .i64 a, .int .i64 b] w fun e w' => e = outV (if b = 0 then erV 6 else numE (a.tdiv b)) ∧ Below w.heap.size w w' := by
  rw [inL_iff] at *
  by_cases c0 : b = 0
  · have HO := Lib.hid (out_div0 c0 (numE (a.tdiv b)))
    generalize outV (if b = 0 then erV 6 else numE (a.tdiv b)) = R at *
    subst c0
    by_cases c1 : a = -9223372036854775808
    · subst c1
      go_enter Tryz.func172, Tryz.ntmps172
      go_wp2_with (go_at_call 140; refine (vnumber_any _ _).mono ?_; rintro e w1 ⟨rfl, rfl⟩)
      refine bodyPost_ret ?_ rfl ⟨HO.out.symm, ?_⟩
      · simp [results, Tryz.results172, go_sem]
      · exact (Below.refl _ _).alloc (Nat.le_refl _) _
    · have t1 := int_ne c1
      clear c1
      go_enter Tryz.func172, Tryz.ntmps172
      go_wp2_with (go_at_call 140; refine (vnumber_any _ _).mono ?_; rintro e w1 ⟨rfl, rfl⟩)
      refine bodyPost_ret ?_ rfl ⟨HO.out.symm, ?_⟩
      · simp [results, Tryz.results172, go_sem]
      · exact (Below.refl _ _).alloc (Nat.le_refl _) _
  · by_cases cm : a = -9223372036854775808 ∧ b = -1
    · obtain ⟨rfl, rfl⟩ := cm
      have HO := Lib.hid ((out_div1 (b := -1) (by decide) (numE (Int.tdiv (-9223372036854775808) (-1)))).trans (out_over (Or.inr (by decide))))
      generalize outV (if (-1 : Int) = 0 then erV 6 else numE (Int.tdiv (-9223372036854775808) (-1))) = R at *
      go_enter Tryz.func172, Tryz.ntmps172
      go_wp2_with (go_at_call 140; refine (vnumber_any _ _).mono ?_; rintro e w1 ⟨rfl, rfl⟩)
      refine bodyPost_ret ?_ rfl ⟨HO.out.symm, ?_⟩
      · simp [results, Tryz.results172, go_sem]
      · exact (Below.refl _ _).alloc (Nat.le_refl _) _
    · have hq := quot_in ha cm
      have hw := wrap_id hq
      have HO := Lib.hid ((out_div1 c0 (numE (a.tdiv b))).trans (out_ok (s := a.tdiv b) rfl hq.1 hq.2))
      generalize outV (if b = 0 then erV 6 else numE (a.tdiv b)) = R at *
      have t0 := int_ne c0
      generalize hqq : a.tdiv b = q at *
      by_cases c1 : a = -9223372036854775808
      · have t2 : (b == -1) = false := int_ne (fun e => cm ⟨c1, e⟩)
        have t1 : (a == -9223372036854775808) = true := by rw [c1]; rfl
        clear cm c1 hq
        go_enter Tryz.func172, Tryz.ntmps172
        go_wp2_with (go_at_call 140; refine (vnumber_any _ _).mono ?_; rintro e w1 ⟨rfl, rfl⟩)
        refine bodyPost_ret ?_ rfl ⟨HO.out.symm, ?_⟩
        · simp [results, Tryz.results172, go_sem]
        · exact ((Below.refl _ _).alloc (Nat.le_refl _) _).alloc (by simp) _
      · have t1 := int_ne c1
        clear cm c1 hq
        go_enter Tryz.func172, Tryz.ntmps172
        go_wp2_with (go_at_call 140; refine (vnumber_any _ _).mono ?_; rintro e w1 ⟨rfl, rfl⟩)
        refine bodyPost_ret ?_ rfl ⟨HO.out.symm, ?_⟩
        · simp [results, Tryz.results172, go_sem]
        · exact ((Below.refl _ _).alloc (Nat.le_refl _) _).alloc (by simp) _

theorem rest_any (a b : Int) (w : World) (ha : inL a = true) :
    Calls Tryz.prog 173 #[.int .i64 a, .int .i64 b] w fun e w' => e = outV (if b = 0 then erV 6 else (numV (a.tmod b), 0)) ∧ Below w.heap.size w w' := by
  by_cases c0 : b = 0
  · have HO := Lib.hid (out_div0 c0 (numV (a.tmod b), 0))
    generalize outV (if b = 0 then erV 6 else (numV (a.tmod b), 0)) = R at *
    subst c0
    go_enter Tryz.func173, Tryz.ntmps173
    go_wp2_with (go_at_call 140; refine (vnumber_any _ _).mono ?_; rintro e w1 ⟨rfl, rfl⟩)
    refine bodyPost_ret ?_ rfl ⟨HO.out.symm, ?_⟩
    · simp [results, Tryz.results173, go_sem]
    · exact (Below.refl _ _).alloc (Nat.le_refl _) _
  · have HO := Lib.hid ((out_div1 c0 (numV (a.tmod b), 0)).trans (out_num (a.tmod b)))
    generalize outV (if b = 0 then erV 6 else (numV (a.tmod b), 0)) = R at *
    unfold numO at HO
    have hw := wrap_id (inL_iff.1 (tmod_in (b := b) ha))
    have t0 := int_ne c0
    generalize hqq : a.tmod b = q at *
    clear ha
    go_enter Tryz.func173, Tryz.ntmps173
    go_wp2_with (go_at_call 140; refine (vnumber_any _ _).mono ?_; rintro e w1 ⟨rfl, rfl⟩)
    refine bodyPost_ret ?_ rfl ⟨HO.out.symm, ?_⟩
    · simp [results, Tryz.results173, go_sem]
    · exact ((Below.refl _ _).alloc (Nat.le_refl _) _).alloc (by simp) _
end Go.Proofs.YtjgfkmakfdepcaaGreatDoor
