/- Operands as values of the program; number, truth, point; sum, less, product, quotient, rest. -/
import Derived.Test.YtpidikbhjiaogaaVa
import Derived.Test.YtpidikbhjiaogaaVf
import Derived.Test.YtpidikbhjiaogaaQB
namespace Go.Proofs.Ytpidikbhjiaogaa
open Go.RowKit

@[go_sem] theorem run_store_complex (P : Program) (w : World) (a : Addr) (m : Mode) (k : FloatKind) (x y : Nat) : (store a (.complex k x y) m).run P w = stored P w a (.complex k x y) m := run_store P w a _ m rfl

def fl (a : Int) : Nat := floatOfInt .f64 a
theorem fl0 : fl 0 = 0 := by kernel_rfl
def numO (n : Int) : Value := .agg #[.int .i64 1, .int .i64 n, .bool false, .complex .f64 0 0]
def truO (b : Bool) : Value := .agg #[.int .i64 2, .int .i64 0, .bool b, .complex .f64 0 0]
def ptO (a b : Int) : Value := .agg #[.int .i64 3, .int .i64 0, .bool false, .complex .f64 (fl a) (fl b)]
def zeroO : Value := .agg #[.int .i64 0, .int .i64 0, .bool false, .complex .f64 0 0]
/-- a value as an operand -/
def opV (v : VA) : Value := .agg #[.int .i64 v.kd, .int .i64 (if v.kd = 1 then v.a else 0), .bool (decide (v.kd = 2 ∧ v.a = 1)), .complex .f64 (fl (if v.kd = 3 then v.a else 0)) (fl (if v.kd = 3 then v.b else 0))]
theorem opV_num (n : Int) : opV (numV n) = numO n := by unfold opV numV numO; simp [fl0]
theorem opV_tru (b : Bool) : opV (truV b) = truO b := by unfold opV truV truO; cases b <;> simp [fl0]
theorem opV_pt (a b : Int) : opV (ptV a b) = ptO a b := by unfold opV ptV ptO; simp
theorem opV_zero : opV VA.zero = zeroO := by unfold opV VA.zero zeroO; simp [fl0]
/-- what is answered -/
def outV (p : VA × Int) : Ending := .returned (.tuple #[opV p.1, .int .i64 p.2])
theorem out_num (n : Int) : outV (numV n, 0) = .returned (.tuple #[numO n, .int .i64 0]) := by unfold outV; rw [opV_num]
theorem out_tru (b : Bool) : outV (truV b, 0) = .returned (.tuple #[truO b, .int .i64 0]) := by unfold outV; rw [opV_tru]
theorem out_pt (a b : Int) : outV (ptV a b, 0) = .returned (.tuple #[ptO a b, .int .i64 0]) := by unfold outV; rw [opV_pt]
theorem out_er (e : Int) : outV (erV e) = .returned (.tuple #[zeroO, .int .i64 e]) := by unfold outV erV; rw [opV_zero]

theorem number_any (n : Int) (w : World) :
    Calls Try.prog 48 #[.int .i64 n] w fun e w' => e = .returned (.agg #[.int .i64 1, .int .i64 n, .bool false, .complex .f64 0 0]) ∧ w' = w.alloc (.cells #[.int .i64 1, .int .i64 n, .bool false, .complex .f64 0 0] 64) := by
  go_enter Try.func48, Try.ntmps48
  go_wp2
  refine bodyPost_ret ?_ rfl ⟨rfl, ?_⟩
  · simp [results, Try.results48, go_sem]
  · rfl
theorem truth_any (b : Bool) (w : World) :
    Calls Try.prog 51 #[.bool b] w fun e w' => e = .returned (.agg #[.int .i64 2, .int .i64 0, .bool b, .complex .f64 0 0]) ∧ w' = w.alloc (.cells #[.int .i64 2, .int .i64 0, .bool b, .complex .f64 0 0] 64) := by
  go_enter Try.func51, Try.ntmps51
  go_wp2
  refine bodyPost_ret ?_ rfl ⟨rfl, ?_⟩
  · simp [results, Try.results51, go_sem]
  · rfl

theorem wrap_spec (n : Int) : -9223372036854775808 ≤ wrap64 n ∧ wrap64 n ≤ 9223372036854775807 ∧ ∃ k : Int, wrap64 n = n - k * 18446744073709551616 := by
  unfold wrap64
  refine ⟨by omega, by omega, (n + 9223372036854775808) / 18446744073709551616, ?_⟩
  omega
theorem out_ok {n s : Int} (h : n = s) (h1 : -9223372036854775808 ≤ s) (h2 : s ≤ 9223372036854775807) : outV (numE n) = .returned (.tuple #[.agg #[.int .i64 1, .int .i64 s, .bool false, .complex .f64 0 0], .int .i64 0]) := by
  subst h
  unfold numE
  rw [if_pos (inL_iff.2 ⟨h1, h2⟩)]; exact out_num n
theorem out_over {n : Int} (h : n < -9223372036854775808 ∨ 9223372036854775807 < n) : outV (numE n) = .returned (.tuple #[.agg #[.int .i64 0, .int .i64 0, .bool false, .complex .f64 0 0], .int .i64 7]) := by
  unfold numE
  rw [if_neg (by rw [inL_iff]; omega)]; exact out_er 7

theorem dec2 (p : Prop) [Decidable p] : (p ∧ decide p = true) ∨ (¬ p ∧ decide p = false) := by
  by_cases h : p
  · exact Or.inl ⟨h, decide_eq_true h⟩
  · exact Or.inr ⟨h, decide_eq_false h⟩

theorem sum_any (a b : Int) (w : World) (ha : inL a = true) (hb : inL b = true) :
    Calls Try.prog 73 #[.int .i64 a, .int .i64 b] w fun e w' => e = outV (numE (a + b)) ∧ Below w.heap.size w w' := by
  rw [inL_iff] at *
  obtain ⟨h1, h2, k, hk⟩ := wrap_spec (a + b)
  generalize hs : wrap64 (a + b) = s at *
  rcases dec2 (a < 0) with ⟨ca, t1⟩ | ⟨ca, t1⟩ <;> rcases dec2 (b < 0) with ⟨cb, t2⟩ | ⟨cb, t2⟩ <;> rcases dec2 (s < 0) with ⟨cs, t3⟩ | ⟨cs, t3⟩
  all_goals
    have HA : Hid ((a + b = s ∨ (a + b < -9223372036854775808 ∨ 9223372036854775807 < a + b)) ∧ -9223372036854775808 ≤ a ∧ a ≤ 9223372036854775807 ∧ -9223372036854775808 ≤ b ∧ b ≤ 9223372036854775807 ∧ s = a + b - k * 18446744073709551616) := ⟨by omega, ha.1, ha.2, hb.1, hb.2, hk⟩
    have HS : Hid (-9223372036854775808 ≤ s ∧ s ≤ 9223372036854775807) := ⟨h1, h2⟩
    clear h1 h2 hk ca cb cs ha hb
    go_enter Try.func73, Try.ntmps73
    go_wp2_with (go_at_call 48; refine (number_any _ _).mono ?_; rintro e w1 ⟨rfl, rfl⟩)
    first
      | (refine bodyPost_ret ?_ rfl ⟨(out_ok (by have h1 := HA.out; have h2 := HS.out; simp only [decide_eq_true_eq, decide_eq_false_iff_not] at t1 t2 t3; omega) HS.out.1 HS.out.2).symm, ?_⟩
         · simp [results, Try.results73, go_sem]
         · exact ((Below.refl _ _).alloc (Nat.le_refl _) _).alloc (by simp) _)
      | (refine bodyPost_ret ?_ rfl ⟨(out_over (by have h1 := HA.out; have h2 := HS.out; simp only [decide_eq_true_eq, decide_eq_false_iff_not] at t1 t2 t3; omega)).symm, ?_⟩
         · simp [results, Try.results73, go_sem]
         · exact (Below.refl _ _).alloc (Nat.le_refl _) _)

theorem less_any (a b : Int) (w : World) (ha : inL a = true) (hb : inL b = true) :
    Calls Try.prog 53 #[.int .i64 a, .int .i64 b] w fun e w' => e = outV (numE (a - b)) ∧ Below w.heap.size w w' := by
  rw [inL_iff] at *
  obtain ⟨h1, h2, k, hk⟩ := wrap_spec (a - b)
  generalize hs : wrap64 (a - b) = s at *
  rcases dec2 (a < 0) with ⟨ca, t1⟩ | ⟨ca, t1⟩ <;> rcases dec2 (b < 0) with ⟨cb, t2⟩ | ⟨cb, t2⟩ <;> rcases dec2 (s < 0) with ⟨cs, t3⟩ | ⟨cs, t3⟩
  all_goals
    have HA : Hid ((a - b = s ∨ (a - b < -9223372036854775808 ∨ 9223372036854775807 < a - b)) ∧ -9223372036854775808 ≤ a ∧ a ≤ 9223372036854775807 ∧ -9223372036854775808 ≤ b ∧ b ≤ 9223372036854775807 ∧ s = a - b - k * 18446744073709551616) := ⟨by omega, ha.1, ha.2, hb.1, hb.2, hk⟩
    have HS : Hid (-9223372036854775808 ≤ s ∧ s ≤ 9223372036854775807) := ⟨h1, h2⟩
    clear h1 h2 hk ca cb cs ha hb
    go_enter Try.func53, Try.ntmps53
    go_wp2_with (go_at_call 48; refine (number_any _ _).mono ?_; rintro e w1 ⟨rfl, rfl⟩)
    first
      | (refine bodyPost_ret ?_ rfl ⟨(out_ok (by have h1 := HA.out; have h2 := HS.out; simp only [decide_eq_true_eq, decide_eq_false_iff_not] at t1 t2 t3; omega) HS.out.1 HS.out.2).symm, ?_⟩
         · simp [results, Try.results53, go_sem]
         · exact ((Below.refl _ _).alloc (Nat.le_refl _) _).alloc (by simp) _)
      | (refine bodyPost_ret ?_ rfl ⟨(out_over (by have h1 := HA.out; have h2 := HS.out; simp only [decide_eq_true_eq, decide_eq_false_iff_not] at t1 t2 t3; omega)).symm, ?_⟩
         · simp [results, Try.results53, go_sem]
         · exact (Below.refl _ _).alloc (Nat.le_refl _) _)


theorem at4 {w : World} {D : Nat} {x0 x1 x2 x3 : Value} {t : TypeId} (h : w.heap[D]? = some (.cells #[x0, x1, x2, x3] t (0, 0))) :
    w.cell? ⟨D, 0, none⟩ = some x0 ∧ w.cell? ⟨D, 1, none⟩ = some x1 ∧ w.cell? ⟨D, 2, none⟩ = some x2 ∧ w.cell? ⟨D, 3, none⟩ = some x3 ∧
    w.frozen? ⟨D, 0, none⟩ = false ∧ w.frozen? ⟨D, 1, none⟩ = false ∧ w.frozen? ⟨D, 2, none⟩ = false ∧ w.frozen? ⟨D, 3, none⟩ = false := by
  simp [World.cell?, World.frozen?, h]
/-- behind a call: the variable of the result is there still, and may be written -/
theorem fwd4 {w W w1 : World} {D : Nat} {x0 x1 x2 x3 : Value} {t : TypeId} (hD : W.heap.size = D) (hW : Below w.heap.size w W)
    (hb1 : Below (W.alloc (.cells #[x0, x1, x2, x3] t)).heap.size (W.alloc (.cells #[x0, x1, x2, x3] t)) w1) :
    w1.heap[D]? = some (.cells #[x0, x1, x2, x3] t (0, 0)) ∧ Below w.heap.size w w1 := by
  refine ⟨?_, (hW.alloc hW.size _).trans (hb1.mono (Nat.le_trans hW.size (by simp)))⟩
  rw [hb1.block D (by rw [← hD]; simp), ← hD]
  exact heap_alloc_new W _
theorem fin4 {w w1 : World} {D B : Nat} {x0 x1 x2 x3 : Value} {t : TypeId} (h : w1.heap[D]? = some (.cells #[x0, x1, x2, x3] t (0, 0))) (hB : B ≤ D) (hb : Below B w w1) (u0 u1 u2 u3 : Value) :
    (((((w1.setCell ⟨D, 0, none⟩ u0).setCell ⟨D, 1, none⟩ u1).setCell ⟨D, 2, none⟩ u2).setCell ⟨D, 3, none⟩ u3).cell? ⟨D, 0, none⟩ = some u0 ∧
    ((((w1.setCell ⟨D, 0, none⟩ u0).setCell ⟨D, 1, none⟩ u1).setCell ⟨D, 2, none⟩ u2).setCell ⟨D, 3, none⟩ u3).cell? ⟨D, 1, none⟩ = some u1 ∧
    ((((w1.setCell ⟨D, 0, none⟩ u0).setCell ⟨D, 1, none⟩ u1).setCell ⟨D, 2, none⟩ u2).setCell ⟨D, 3, none⟩ u3).cell? ⟨D, 2, none⟩ = some u2 ∧
    ((((w1.setCell ⟨D, 0, none⟩ u0).setCell ⟨D, 1, none⟩ u1).setCell ⟨D, 2, none⟩ u2).setCell ⟨D, 3, none⟩ u3).cell? ⟨D, 3, none⟩ = some u3) ∧
    Below B w ((((w1.setCell ⟨D, 0, none⟩ u0).setCell ⟨D, 1, none⟩ u1).setCell ⟨D, 2, none⟩ u2).setCell ⟨D, 3, none⟩ u3) := by
  have h1 := heap_setCell_same _ _ 0 _ _ u0 h
  have h2 := heap_setCell_same _ _ 1 _ _ u1 h1
  have h3 := heap_setCell_same _ _ 2 _ _ u2 h2
  have h4 := heap_setCell_same _ _ 3 _ _ u3 h3
  obtain ⟨r0, r1, r2, r3, _⟩ := at4 (x0 := u0) (x1 := u1) (x2 := u2) (x3 := u3) h4
  exact ⟨⟨r0, r1, r2, r3⟩, (((hb.setCell hB _).setCell hB _).setCell hB _).setCell hB _⟩

/-- what is answered, in letters -/
theorem out_form (p : VA × Int) : ∃ k x t c1 c2 er, outV p = .returned (.tuple #[.agg #[.int .i64 k, .int .i64 x, .bool t, .complex .f64 c1 c2], .int .i64 er]) := ⟨_, _, _, _, _, _, rfl⟩

theorem natAbs_lt {x : Int} {n : Nat} (h : x.natAbs ≤ n) : -(n : Int) ≤ x ∧ x ≤ n := by omega
theorem mul_fact (a b : Int) (ha : -9223372036854775808 ≤ a ∧ a ≤ 9223372036854775807) (hb : -9223372036854775808 ≤ b ∧ b ≤ 9223372036854775807) (h0 : a ≠ 0) (h1 : a ≠ -1) :
    (inL (a * b) = true ∧ wrap64 (a * b) = a * b ∧ wrap64 ((wrap64 (a * b)).tdiv a) = b) ∨ (inL (a * b) = false ∧ wrap64 ((wrap64 (a * b)).tdiv a) ≠ b) := by
  obtain ⟨w1, w2, k, hk⟩ := wrap_spec (a * b)
  by_cases hi : inL (a * b) = true
  · left
    rw [inL_iff] at hi
    have e1 : wrap64 (a * b) = a * b := by unfold wrap64; omega
    refine ⟨inL_iff.2 hi, e1, ?_⟩
    rw [e1, Int.mul_tdiv_cancel_left b h0]
    unfold wrap64; omega
  · right
    refine ⟨by simpa using hi, fun hq => hi ?_⟩
    obtain ⟨p, hp⟩ : ∃ p, wrap64 (a * b) = p := ⟨_, rfl⟩
    rw [hp] at hq w1 w2 hk
    have e2 : (p.tdiv a).natAbs = p.natAbs / a.natAbs := Int.natAbs_tdiv p a
    have e3 : (p.tmod a).natAbs = p.natAbs % a.natAbs := Int.natAbs_tmod p a
    have e4 := Int.mul_tdiv_add_tmod p a
    have e5 : p.natAbs % a.natAbs < a.natAbs := Nat.mod_lt _ (by omega)
    have e6 : wrap64 (p.tdiv a) = p.tdiv a := by
      by_cases h2 : a = 1
      · rw [h2, Int.tdiv_one]; unfold wrap64; omega
      · have : p.natAbs / a.natAbs ≤ p.natAbs / 2 := Nat.div_le_div_left (by omega) (by omega)
        unfold wrap64; omega
    rw [e6] at hq
    rw [hq] at e4
    generalize a * b = m at *
    rw [inL_iff]
    omega

theorem product_any (a b : Int) (w : World) (ha : inL a = true) (hb : inL b = true) :
    Calls Try.prog 74 #[.int .i64 a, .int .i64 b] w fun e w' => e = outV (numE (a * b)) ∧ Below w.heap.size w w' := by
  have HL := Lib.hid (fun W => less_any 0 b W rfl hb)
  rw [inL_iff] at *
  by_cases ca : a = -1
  · subst ca
    have e : -1 * b = 0 - b := by omega
    obtain ⟨k, x, t, c1, c2, er, hf⟩ := out_form (numE (0 - b))
    rw [e, hf]
    rw [hf] at HL
    have hW : Below w.heap.size w w := Below.refl _ _
    go_enter Try.func74, Try.ntmps74
    go_wp2_with fail
    refine (HL.out _).mono ?_
    rintro e w1 ⟨rfl, hb1⟩
    obtain ⟨hh, hbw⟩ := fwd4 rfl hW hb1
    obtain ⟨d0, d1, d2, d3, f0, f1, f2, f3⟩ := at4 hh
    go_wp2
    obtain ⟨⟨r0, r1, r2, r3⟩, hbf⟩ := fin4 hh (Nat.le_refl _) hbw (.int .i64 k) (.int .i64 x) (.bool t) (.complex .f64 c1 c2)
    refine bodyPost_ret ?_ rfl ⟨rfl, hbf⟩
    simp [results, Try.results74, go_sem, r0, r1, r2, r3]
  · have t1 := int_ne ca
    by_cases cz : a = 0
    · subst cz
      have HO : Hid (outV (numE (0 * b)) = _) := out_ok (s := 0) (Int.zero_mul b) (by decide) (by decide)
      generalize outV (numE (0 * b)) = R at *
      go_enter Try.func74, Try.ntmps74
      go_wp2_with (go_at_call 48; refine (number_any _ _).mono ?_; rintro e w1 ⟨rfl, rfl⟩)
      refine bodyPost_ret ?_ rfl ⟨HO.out.symm, ?_⟩
      · simp [results, Try.results74, go_sem]
      · exact ((Below.refl _ _).alloc (Nat.le_refl _) _).alloc (by simp) _
    · have hm := mul_fact a b ha hb cz ca
      obtain ⟨q, hq⟩ : ∃ q, wrap64 ((wrap64 (a * b)).tdiv a) = q := ⟨_, rfl⟩
      rw [hq] at hm
      obtain ⟨p, hp⟩ : ∃ p, wrap64 (a * b) = p := ⟨_, rfl⟩
      rw [hp] at hm hq
      have t2 := int_ne cz
      have t2' := bne_iff_ne.2 cz
      rcases hm with ⟨m1, m2, m3⟩ | ⟨m1, m3⟩
      · have HO : Hid (outV (numE (a * b)) = _) := out_ok m2.symm (by rw [← hp]; exact (wrap_spec _).1) (by rw [← hp]; exact (wrap_spec _).2.1)
        generalize outV (numE (a * b)) = R at *
        have t3 : (q != b) = false := by rw [m3]; simp
        clear m1 m2 m3 ca
        go_enter Try.func74, Try.ntmps74
        go_wp2_with (go_at_call 48; refine (number_any _ _).mono ?_; rintro e w1 ⟨rfl, rfl⟩)
        refine bodyPost_ret ?_ rfl ⟨HO.out.symm, ?_⟩
        · simp [results, Try.results74, go_sem]
        · exact ((Below.refl _ _).alloc (Nat.le_refl _) _).alloc (by simp) _
      · have HO : Hid (outV (numE (a * b)) = _) := out_over (n := a * b) (by have : ¬ inL (a * b) = true := by rw [m1]; decide
                                                                             rw [inL_iff] at this; omega)
        generalize outV (numE (a * b)) = R at *
        have t3 : (q != b) = true := bne_iff_ne.2 m3
        clear m1 m3 ca
        go_enter Try.func74, Try.ntmps74
        go_wp2_with (go_at_call 48; refine (number_any _ _).mono ?_; rintro e w1 ⟨rfl, rfl⟩)
        refine bodyPost_ret ?_ rfl ⟨HO.out.symm, ?_⟩
        · simp [results, Try.results74, go_sem]
        · exact (Below.refl _ _).alloc (Nat.le_refl _) _

theorem quot_in {a b : Int} (ha : -9223372036854775808 ≤ a ∧ a ≤ 9223372036854775807) (h : ¬ (a = -9223372036854775808 ∧ b = -1)) : -9223372036854775808 ≤ a.tdiv b ∧ a.tdiv b ≤ 9223372036854775807 := by
  have e2 : (a.tdiv b).natAbs = a.natAbs / b.natAbs := Int.natAbs_tdiv a b
  by_cases h0 : b = 0
  · subst h0; rw [Int.tdiv_zero]; omega
  by_cases h1 : b.natAbs = 1
  · rcases (show b = 1 ∨ b = -1 by omega) with rfl | rfl
    · rw [Int.tdiv_one]; exact ha
    · rw [Int.tdiv_neg, Int.tdiv_one]; omega
  · have : a.natAbs / b.natAbs ≤ a.natAbs / 2 := Nat.div_le_div_left (by omega) (by omega)
    omega
theorem wrap_id {n : Int} (h : -9223372036854775808 ≤ n ∧ n ≤ 9223372036854775807) : wrap64 n = n := by unfold wrap64; omega

theorem out_div0 {b : Int} (h : b = 0) (r : VA × Int) : outV (if b = 0 then erV 6 else r) = .returned (.tuple #[.agg #[.int .i64 0, .int .i64 0, .bool false, .complex .f64 0 0], .int .i64 6]) := by
  rw [if_pos h]; exact out_er 6
theorem out_div1 {b : Int} (h : b ≠ 0) (r : VA × Int) : outV (if b = 0 then erV 6 else r) = outV r := by rw [if_neg h]

theorem quotient_any (a b : Int) (w : World) (ha : inL a = true) (hb : inL b = true) :
    Calls Try.prog 75 #[.int .i64 a, .int .i64 b] w fun e w' => e = outV (if b = 0 then erV 6 else numE (a.tdiv b)) ∧ Below w.heap.size w w' := by
  rw [inL_iff] at *
  by_cases c0 : b = 0
  · have HO := Lib.hid (out_div0 c0 (numE (a.tdiv b)))
    generalize outV (if b = 0 then erV 6 else numE (a.tdiv b)) = R at *
    subst c0
    by_cases c1 : a = -9223372036854775808
    · subst c1
      go_enter Try.func75, Try.ntmps75
      go_wp2_with (go_at_call 48; refine (number_any _ _).mono ?_; rintro e w1 ⟨rfl, rfl⟩)
      refine bodyPost_ret ?_ rfl ⟨HO.out.symm, ?_⟩
      · simp [results, Try.results75, go_sem]
      · exact (Below.refl _ _).alloc (Nat.le_refl _) _
    · have t1 := int_ne c1
      clear c1
      go_enter Try.func75, Try.ntmps75
      go_wp2_with (go_at_call 48; refine (number_any _ _).mono ?_; rintro e w1 ⟨rfl, rfl⟩)
      refine bodyPost_ret ?_ rfl ⟨HO.out.symm, ?_⟩
      · simp [results, Try.results75, go_sem]
      · exact (Below.refl _ _).alloc (Nat.le_refl _) _
  · by_cases cm : a = -9223372036854775808 ∧ b = -1
    · obtain ⟨rfl, rfl⟩ := cm
      have HO := Lib.hid ((out_div1 (b := -1) (by decide) (numE (Int.tdiv (-9223372036854775808) (-1)))).trans (out_over (Or.inr (by decide))))
      generalize outV (if (-1 : Int) = 0 then erV 6 else numE (Int.tdiv (-9223372036854775808) (-1))) = R at *
      go_enter Try.func75, Try.ntmps75
      go_wp2_with (go_at_call 48; refine (number_any _ _).mono ?_; rintro e w1 ⟨rfl, rfl⟩)
      refine bodyPost_ret ?_ rfl ⟨HO.out.symm, ?_⟩
      · simp [results, Try.results75, go_sem]
      · exact (Below.refl _ _).alloc (Nat.le_refl _) _
    · have hq := quot_in ha cm
      have hw := wrap_id hq
      have HO := Lib.hid ((out_div1 c0 (numE (a.tdiv b))).trans (out_ok (s := a.tdiv b) rfl hq.1 hq.2))
      generalize outV (if b = 0 then erV 6 else numE (a.tdiv b)) = R at *
      have t0 := int_ne c0
      generalize hqq : a.tdiv b = q at *
      by_cases c1 : a = -9223372036854775808
      · have t2 : (b == -1) = false := int_ne (fun e => cm ⟨c1, e⟩)
        have t1 : (a == -9223372036854775808) = true := by rw [c1]; rfl
        clear cm c1 hq
        go_enter Try.func75, Try.ntmps75
        go_wp2_with (go_at_call 48; refine (number_any _ _).mono ?_; rintro e w1 ⟨rfl, rfl⟩)
        refine bodyPost_ret ?_ rfl ⟨HO.out.symm, ?_⟩
        · simp [results, Try.results75, go_sem]
        · exact ((Below.refl _ _).alloc (Nat.le_refl _) _).alloc (by simp) _
      · have t1 := int_ne c1
        clear cm c1 hq
        go_enter Try.func75, Try.ntmps75
        go_wp2_with (go_at_call 48; refine (number_any _ _).mono ?_; rintro e w1 ⟨rfl, rfl⟩)
        refine bodyPost_ret ?_ rfl ⟨HO.out.symm, ?_⟩
        · simp [results, Try.results75, go_sem]
        · exact ((Below.refl _ _).alloc (Nat.le_refl _) _).alloc (by simp) _

theorem rest_any (a b : Int) (w : World) (ha : inL a = true) :
    Calls Try.prog 76 #[.int .i64 a, .int .i64 b] w fun e w' => e = outV (if b = 0 then erV 6 else (numV (a.tmod b), 0)) ∧ Below w.heap.size w w' := by
  by_cases c0 : b = 0
  · have HO := Lib.hid (out_div0 c0 (numV (a.tmod b), 0))
    generalize outV (if b = 0 then erV 6 else (numV (a.tmod b), 0)) = R at *
    subst c0
    go_enter Try.func76, Try.ntmps76
    go_wp2_with (go_at_call 48; refine (number_any _ _).mono ?_; rintro e w1 ⟨rfl, rfl⟩)
    refine bodyPost_ret ?_ rfl ⟨HO.out.symm, ?_⟩
    · simp [results, Try.results76, go_sem]
    · exact (Below.refl _ _).alloc (Nat.le_refl _) _
  · have HO := Lib.hid ((out_div1 c0 (numV (a.tmod b), 0)).trans (out_num (a.tmod b)))
    generalize outV (if b = 0 then erV 6 else (numV (a.tmod b), 0)) = R at *
    unfold numO at HO
    have hw := wrap_id (inL_iff.1 (tmod_in (b := b) ha))
    have t0 := int_ne c0
    generalize hqq : a.tmod b = q at *
    clear ha
    go_enter Try.func76, Try.ntmps76
    go_wp2_with (go_at_call 48; refine (number_any _ _).mono ?_; rintro e w1 ⟨rfl, rfl⟩)
    refine bodyPost_ret ?_ rfl ⟨HO.out.symm, ?_⟩
    · simp [results, Try.results76, go_sem]
    · exact ((Below.refl _ _).alloc (Nat.le_refl _) _).alloc (by simp) _
end Go.Proofs.Ytpidikbhjiaogaa
