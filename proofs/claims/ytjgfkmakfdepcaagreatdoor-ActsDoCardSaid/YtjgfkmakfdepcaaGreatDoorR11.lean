/- Own texts, joined: Vb, Vc. -/
import Derived.Test.YtjgfkmakfdepcaaGreatDoorR3
import Derived.Test.YtjgfkmakfdepcaaGreatDoorR9
import Derived.Test.YtjgfkmakfdepcaaGreatDoorR10
namespace Go.Proofs.YtjgfkmakfdepcaaGreatDoor
open Go.RowKit

@[go_sem] theorem run_store_complex (P : Program) (w : World) (a : Addr) (m : Mode) (k : FloatKind) (x y : Nat) : (store a (.complex k x y) m).run P w = stored P w a (.complex k x y) m := run_store P w a _ m rfl

def fl (a : Int) : Nat := floatOfInt .f64 a
theorem fl0 : fl 0 = 0 := by kernel_rfl
def numO (n : Int) : Value := .agg #[.int .i64 1, .int .i64 n, .bool false, .complex .f64 0 0]
def truO (b : Bool) : Value := .agg #[.int .i64 2, .int .i64 0, .bool b, .complex .f64 0 0]
def ptO (a b : Int) : Value := .agg #[.int .i64 3, .int .i64 0, .bool false, .complex .f64 (fl a) (fl b)]
def zeroO : Value := .agg #[.int .i64 0, .int .i64 0, .bool false, .complex .f64 0 0]
/-- a value as an operand -/
def opV (v : VA) : Value := .agg #[.int .i64 v.kd, .int .i64 (if v.kd = 1 then v.a else 0), .bool (decide (v.kd = 2 ∧ v.a = 1)), .complex .f64 (fl (if v.kd = 3 then v.a else 0)) (fl (if v.kd = 3 then v.b else 0))]
theorem opV_num (n : Int) : opV (numV n) = numO n := by unfold opV numV numO; simp [fl0]
theorem opV_tru (b : Bool) : opV (truV b) = truO b := by unfold opV truV truO; cases b <;> simp [fl0]
theorem opV_pt (a b : Int) : opV (ptV a b) = ptO a b := by unfold opV ptV ptO; simp
theorem opV_zero : opV VA.zero = zeroO := by unfold opV VA.zero zeroO; simp [fl0]
/-- what is answered -/
def outV (p : VA × Int) : Ending := .returned (.tuple #[opV p.1, .int .i64 p.2])
theorem out_num (n : Int) : outV (numV n, 0) = .returned (.tuple #[numO n, .int .i64 0]) := by unfold outV; rw [opV_num]
theorem out_tru (b : Bool) : outV (truV b, 0) = .returned (.tuple #[truO b, .int .i64 0]) := by unfold outV; rw [opV_tru]
theorem out_pt (a b : Int) : outV (ptV a b, 0) = .returned (.tuple #[ptO a b, .int .i64 0]) := by unfold outV; rw [opV_pt]
theorem out_er (e : Int) : outV (erV e) = .returned (.tuple #[zeroO, .int .i64 e]) := by unfold outV erV; rw [opV_zero]

theorem vnumber_any (n : Int) (w : World) :
    Calls Tryz.prog 140 #[.int .i64 n] w fun e w' => e = .returned (.agg #[.int .i64 1, .int .i64 n, .bool false, .complex .f64 0 0]) ∧ w' = w.alloc (.cells #[.int .i64 1, .int .i64 n, .bool false, .complex .f64 0 0] 144) := by
  go_enter Tryz.func140, Tryz.ntmps140
  go_wp2
  refine bodyPost_ret ?_ rfl ⟨rfl, ?_⟩
  · simp [results, Tryz.results140, go_sem]
  · rfl
theorem truth_any (b : Bool) (w : World) :
    Calls Tryz.prog 143 #[.bool b] w fun e w' => e = .returned (.agg #[.int .i64 2, .int .i64 0, .bool b, .complex .f64 0 0]) ∧ w' = w.alloc (.cells #[.int .i64 2, .int .i64 0, .bool b, .complex .f64 0 0] 144) := by
  go_enter Tryz.func143, Tryz.ntmps143
  go_wp2
  refine bodyPost_ret ?_ rfl ⟨rfl, ?_⟩
  · simp [results, Tryz.results143, go_sem]
  · rfl

theorem wrap_spec (n : Int) : -9223372036854775808 ≤ wrap64 n ∧ wrap64 n ≤ 9223372036854775807 ∧ ∃ k : Int, wrap64 n = n - k * 18446744073709551616 := by
  unfold wrap64
  refine ⟨by omega, by omega, (n + 9223372036854775808) / 18446744073709551616, ?_⟩
  omega
theorem out_ok {n s : Int} (h : n = s) (h1 : -9223372036854775808 ≤ s) (h2 : s ≤ 9223372036854775807) : outV (numE n) = .returned (.tuple #[.agg #[.int .i64 1, .int .i64 s, .bool false, .complex .f64 0 0], .int .i64 0]) := by
  subst h
  unfold numE
  rw [if_pos (inL_iff.2 ⟨h1, h2⟩)]; exact out_num n
theorem out_over {n : Int} (h : n < -9223372036854775808 ∨ 9223372036854775807 < n) : outV (numE n) = .returned (.tuple #[.agg #[.int .i64 0, .int .i64 0, .bool false, .complex .f64 0 0], .int .i64 7]) := by
  unfold numE
  rw [if_neg (by rw [inL_iff]; omega)]; exact out_er 7

theorem dec2 (p : Prop) [Decidable p] : (p ∧ decide p = true) ∨ (¬ p ∧ decide p = false) := by
  by_cases h : p
  · exact Or.inl ⟨h, decide_eq_true h⟩
  · exact Or.inr ⟨h, decide_eq_false h⟩

theorem sum_any (a b : Int) (w : World) (ha : inL a = true) (hb : inL b = true) :
    Calls Tryz.prog 170 #[.int .i64 a, .int .i64 b] w fun e w' => e = outV (numE (a + b)) ∧ Below w.heap.size w w' := by
  rw [inL_iff] at *
  obtain ⟨h1, h2, k, hk⟩ := wrap_spec (a + b)
  generalize hs : wrap64 (a + b) = s at *
  rcases dec2 (a < 0) with ⟨ca, t1⟩ | ⟨ca, t1⟩ <;> rcases dec2 (b < 0) with ⟨cb, t2⟩ | ⟨cb, t2⟩ <;> rcases dec2 (s < 0) with ⟨cs, t3⟩ | ⟨cs, t3⟩
  all_goals
    have HA : Hid ((a + b = s ∨ (a + b < -9223372036854775808 ∨ 9223372036854775807 < a + b)) ∧ -9223372036854775808 ≤ a ∧ a ≤ 9223372036854775807 ∧ -9223372036854775808 ≤ b ∧ b ≤ 9223372036854775807 ∧ s = a + b - k * 18446744073709551616) := ⟨by omega, ha.1, ha.2, hb.1, hb.2, hk⟩
    have HS : Hid (-9223372036854775808 ≤ s ∧ s ≤ 9223372036854775807) := ⟨h1, h2⟩
    clear h1 h2 hk ca cb cs ha hb
    go_enter Tryz.func170, Tryz.ntmps170
    go_wp2_with (go_at_call 140; refine (vnumber_any _ _).mono ?_; rintro e w1 ⟨rfl, rfl⟩)
    first
      | (refine bodyPost_ret ?_ rfl ⟨(out_ok (by have h1 := HA.out; have h2 := HS.out; simp only [decide_eq_true_eq, decide_eq_false_iff_not] at t1 t2 t3; omega) HS.out.1 HS.out.2).symm, ?_⟩
         · simp [results, Tryz.results170, go_sem]
         · exact ((Below.refl _ _).alloc (Nat.le_refl _) _).alloc (by simp) _)
      | (refine bodyPost_ret ?_ rfl ⟨(out_over (by have h1 := HA.out; have h2 := HS.out; simp only [decide_eq_true_eq, decide_eq_false_iff_not] at t1 t2 t3; omega)).symm, ?_⟩
         · simp [results, Tryz.results170, go_sem]
         · exact (Below.refl _ _).alloc (Nat.le_refl _) _)

theorem less_any (a b : Int) (w : World) (ha : inL a = true) (hb : inL b = true) :
    Calls Tryz.prog 145 #[.int .i64 a, .int .i64 b] w fun e w' => e = outV (numE (a - b)) ∧ Below w.heap.size w w' := by
  rw [inL_iff] at *
  obtain ⟨h1, h2, k, hk⟩ := wrap_spec (a - b)
  generalize hs : wrap64 (a - b) = s at *
  rcases dec2 (a < 0) with ⟨ca, t1⟩ | ⟨ca, t1⟩ <;> rcases dec2 (b < 0) with ⟨cb, t2⟩ | ⟨cb, t2⟩ <;> rcases dec2 (s < 0) with ⟨cs, t3⟩ | ⟨cs, t3⟩
  all_goals
    have HA : Hid ((a - b = s ∨ (a - b < -9223372036854775808 ∨ 9223372036854775807 < a - b)) ∧ -9223372036854775808 ≤ a ∧ a ≤ 9223372036854775807 ∧ -9223372036854775808 ≤ b ∧ b ≤ 9223372036854775807 ∧ s = a - b - k * 18446744073709551616) := ⟨by omega, ha.1, ha.2, hb.1, hb.2, hk⟩
    have HS : Hid (-9223372036854775808 ≤ s ∧ s ≤ 9223372036854775807) := ⟨h1, h2⟩
    clear h1 h2 hk ca cb cs ha hb
    go_enter Tryz.func145, Tryz.ntmps145
    go_wp2_with (go_at_call 140; refine (vnumber_any _ _).mono ?_; rintro e w1 ⟨rfl, rfl⟩)
    first
      | (refine bodyPost_ret ?_ rfl ⟨(out_ok (by have h1 := HA.out; have h2 := HS.out; simp only [decide_eq_true_eq, decide_eq_false_iff_not] at t1 t2 t3; omega) HS.out.1 HS.out.2).symm, ?_⟩
         · simp [results, Tryz.results145, go_sem]
         · exact ((Below.refl _ _).alloc (Nat.le_refl _) _).alloc (by simp) _)
      | (refine bodyPost_ret ?_ rfl ⟨(out_over (by have h1 := HA.out; have h2 := HS.out; simp only [decide_eq_true_eq, decide_eq_false_iff_not] at t1 t2 t3; omega)).symm, ?_⟩
         · simp [results, Tryz.results145, go_sem]
         · exact (Below.refl _ _).alloc (Nat.le_refl _) _)


theorem at4 {w : World} {D : Nat} {x0 x1 x2 x3 : Value} {t : TypeId} (h : w.heap[D]? = some (.cells #[x0, x1, x2, x3] t (0, 0))) :
    w.cell? ⟨D, 0, none⟩ = some x0 ∧ w.cell? ⟨D, 1, none⟩ = some x1 ∧ w.cell? ⟨D, 2, none⟩ = some x2 ∧ w.cell? ⟨D, 3, none⟩ = some x3 ∧
    w.frozen? ⟨D, 0, none⟩ = false ∧ w.frozen? ⟨D, 1, none⟩ = false ∧ w.frozen? ⟨D, 2, none⟩ = false ∧ w.frozen? ⟨D, 3, none⟩ = false := by
  simp [World.cell?, World.frozen?, h]
/-- behind a call: the variable of the result is there still, and may be written -/
theorem fwd4 {w W w1 : World} {D : Nat} {x0 x1 x2 x3 : Value} {t : TypeId} (hD : W.heap.size = D) (hW : Below w.heap.size w W)
    (hb1 : Below (W.alloc (.cells #[x0, x1, x2, x3] t)).heap.size (W.alloc (.cells #[x0, x1, x2, x3] t)) w1) :
    w1.heap[D]? = some (.cells #[x0, x1, x2, x3] t (0, 0)) ∧ Below w.heap.size w w1 := by
  refine ⟨?_, (hW.alloc hW.size _).trans (hb1.mono (Nat.le_trans hW.size (by simp)))⟩
  rw [hb1.block D (by rw [← hD]; simp), ← hD]
  exact heap_alloc_new W _
theorem fin4 {w w1 : World} {D B : Nat} {x0 x1 x2 x3 : Value} {t : TypeId} (h : w1.heap[D]? = some (.cells #[x0, x1, x2, x3] t (0, 0))) (hB : B ≤ D) (hb : Below B w w1) (u0 u1 u2 u3 : Value) :
    (((((w1.setCell ⟨D, 0, none⟩ u0).setCell ⟨D, 1, none⟩ u1).setCell ⟨D, 2, none⟩ u2).setCell ⟨D, 3, none⟩ u3).cell? ⟨D, 0, none⟩ = some u0 ∧
    ((((w1.setCell ⟨D, 0, none⟩ u0).setCell ⟨D, 1, none⟩ u1).setCell ⟨D, 2, none⟩ u2).setCell ⟨D, 3, none⟩ u3).cell? ⟨D, 1, none⟩ = some u1 ∧
    ((((w1.setCell ⟨D, 0, none⟩ u0).setCell ⟨D, 1, none⟩ u1).setCell ⟨D, 2, none⟩ u2).setCell ⟨D, 3, none⟩ u3).cell? ⟨D, 2, none⟩ = some u2 ∧
    ((((w1.setCell ⟨D, 0, none⟩ u0).setCell ⟨D, 1, none⟩ u1).setCell ⟨D, 2, none⟩ u2).setCell ⟨D, 3, none⟩ u3).cell? ⟨D, 3, none⟩ = some u3) ∧
    Below B w ((((w1.setCell ⟨D, 0, none⟩ u0).setCell ⟨D, 1, none⟩ u1).setCell ⟨D, 2, none⟩ u2).setCell ⟨D, 3, none⟩ u3) := by
  have h1 := heap_setCell_same _ _ 0 _ _ u0 h
  have h2 := heap_setCell_same _ _ 1 _ _ u1 h1
  have h3 := heap_setCell_same _ _ 2 _ _ u2 h2
  have h4 := heap_setCell_same _ _ 3 _ _ u3 h3
  obtain ⟨r0, r1, r2, r3, _⟩ := at4 (x0 := u0) (x1 := u1) (x2 := u2) (x3 := u3) h4
  exact ⟨⟨r0, r1, r2, r3⟩, (((hb.setCell hB _).setCell hB _).setCell hB _).setCell hB _⟩

/-- what is answered, in letters -/
theorem out_form (p : VA × Int) : ∃ k x t c1 c2 er, outV p = .returned (.tuple #[.agg #[.int .i64 k, .int .i64 x, .bool t, .complex .f64 c1 c2], .int .i64 er]) := ⟨_, _, _, _, _, _, rfl⟩

theorem mul_fact (a b : Int) (ha : -9223372036854775808 ≤ a ∧ a ≤ 9223372036854775807) (hb : -9223372036854775808 ≤ b ∧ b ≤ 9223372036854775807) (h0 : a ≠ 0) (h1 : a ≠ -1) :
    (inL (a * b) = true ∧ wrap64 (a * b) = a * b ∧ wrap64 ((wrap64 (a * b)).tdiv a) = b) ∨ (inL (a * b) = false ∧ wrap64 ((wrap64 (a * b)).tdiv a) ≠ b) := by
  obtain ⟨w1, w2, k, hk⟩ := wrap_spec (a * b)
  by_cases hi : inL (a * b) = true
  · left
    rw [inL_iff] at hi
    have e1 : wrap64 (a * b) = a * b := by unfold wrap64; omega
    refine ⟨inL_iff.2 hi, e1, ?_⟩
    rw [e1, Int.mul_tdiv_cancel_left b h0]
    unfold wrap64; omega
  · right
    refine ⟨by simpa using hi, fun hq => hi ?_⟩
    obtain ⟨p, hp⟩ : ∃ p, wrap64 (a * b) = p := ⟨_, rfl⟩
    rw [hp] at hq w1 w2 hk
    have e2 : (p.tdiv a).natAbs = p.natAbs / a.natAbs := Int.natAbs_tdiv p a
    have e3 : (p.tmod a).natAbs = p.natAbs % a.natAbs := Int.natAbs_tmod p a
    have e4 := Int.mul_tdiv_add_tmod p a
    have e5 : p.natAbs % a.natAbs < a.natAbs := Nat.mod_lt _ (by omega)
    have e6 : wrap64 (p.tdiv a) = p.tdiv a := by
      by_cases h2 : a = 1
      · rw [h2, Int.tdiv_one]; unfold wrap64; omega
      · have : p.natAbs / a.natAbs ≤ p.natAbs / 2 := Nat.div_le_div_left (by omega) (by omega)
        unfold wrap64; omega
    rw [e6] at hq
    rw [hq] at e4
    generalize a * b = m at *
    rw [inL_iff]
    omega

theorem product_any (a b : Int) (w : World) (ha : inL a = true) (hb : inL b = true) :
    Calls Tryz.prog 171 #[.int .i64 a, .int .i64 b] w fun e w' => e = outV (numE (a * b)) ∧ Below w.heap.size w w' := by
  have HL := Lib.hid (fun W => less_any 0 b W rfl hb)
  rw [inL_iff] at *
  by_cases ca : a = -1
  · subst ca
    have e : -1 * b = 0 - b := by omega
    obtain ⟨k, x, t, c1, c2, er, hf⟩ := out_form (numE (0 - b))
    rw [e, hf]
    rw [hf] at HL
    have hW : Below w.heap.size w w := Below.refl _ _
    go_enter Tryz.func171, Tryz.ntmps171
    go_wp2_with fail
    refine (HL.out _).mono ?_
    rintro e w1 ⟨rfl, hb1⟩
    obtain ⟨hh, hbw⟩ := fwd4 rfl hW hb1
    obtain ⟨d0, d1, d2, d3, f0, f1, f2, f3⟩ := at4 hh
    go_wp2
    obtain ⟨⟨r0, r1, r2, r3⟩, hbf⟩ := fin4 hh (Nat.le_refl _) hbw (.int .i64 k) (.int .i64 x) (.bool t) (.complex .f64 c1 c2)
    refine bodyPost_ret ?_ rfl ⟨rfl, hbf⟩
    simp [results, Tryz.results171, go_sem, r0, r1, r2, r3]
  · have t1 := int_ne ca
    by_cases cz : a = 0
    · subst cz
      have HO : Hid (outV (numE (0 * b)) = _) := out_ok (s := 0) (Int.zero_mul b) (by decide) (by decide)
      generalize outV (numE (0 * b)) = R at *
      go_enter Tryz.func171, Tryz.ntmps171
      go_wp2_with (go_at_call 140; refine (vnumber_any _ _).mono ?_; rintro e w1 ⟨rfl, rfl⟩)
      refine bodyPost_ret ?_ rfl ⟨HO.out.symm, ?_⟩
      · simp [results, Tryz.results171, go_sem]
      · exact ((Below.refl _ _).alloc (Nat.le_refl _) _).alloc (by simp) _
    · have hm := mul_fact a b ha hb cz ca
      obtain ⟨q, hq⟩ : ∃ q, wrap64 ((wrap64 (a * b)).tdiv a) = q := ⟨_, rfl⟩
      rw [hq] at hm
      obtain ⟨p, hp⟩ : ∃ p, wrap64 (a * b) = p := ⟨_, rfl⟩
      rw [hp] at hm hq
      have t2 := int_ne cz
      have t2' := bne_iff_ne.2 cz
      rcases hm with ⟨m1, m2, m3⟩ | ⟨m1, m3⟩
      · have HO : Hid (outV (numE (a * b)) = _) := out_ok m2.symm (by rw [← hp]; exact (wrap_spec _).1) (by rw [← hp]; exact (wrap_spec _).2.1)
        generalize outV (numE (a * b)) = R at *
        have t3 : (q != b) = false := by rw [m3]; simp
        clear m1 m2 m3 ca
        go_enter Tryz.func171, Tryz.ntmps171
        go_wp2_with (go_at_call 140; refine (vnumber_any _ _).mono ?_; rintro e w1 ⟨rfl, rfl⟩)
        refine bodyPost_ret ?_ rfl ⟨HO.out.symm, ?_⟩
        · simp [results, Tryz.results171, go_sem]
        · exact ((Below.refl _ _).alloc (Nat.le_refl _) _).alloc (by simp) _
      · have HO : Hid (outV (numE (a * b)) = _) := out_over (n := a * b) (by have : ¬ inL (a * b) = true := by rw [m1]; decide
                                                                             rw [inL_iff] at this; omega)
        generalize outV (numE (a * b)) = R at *
        have t3 : (q != b) = true := bne_iff_ne.2 m3
        clear m1 m3 ca
        go_enter Tryz.func171, Tryz.ntmps171
        go_wp2_with (go_at_call 140; refine (vnumber_any _ _).mono ?_; rintro e w1 ⟨rfl, rfl⟩)
        refine bodyPost_ret ?_ rfl ⟨HO.out.symm, ?_⟩
        · simp [results, Tryz.results171, go_sem]
        · exact (Below.refl _ _).alloc (Nat.le_refl _) _

theorem quot_in {a b : Int} (ha : -9223372036854775808 ≤ a ∧ a ≤ 9223372036854775807) (h : ¬ (a = -9223372036854775808 ∧ b = -1)) : -9223372036854775808 ≤ a.tdiv b ∧ a.tdiv b ≤ 9223372036854775807 := by
  have e2 : (a.tdiv b).natAbs = a.natAbs / b.natAbs := Int.natAbs_tdiv a b
  by_cases h0 : b = 0
  · subst h0; rw [Int.tdiv_zero]; omega
  by_cases h1 : b.natAbs = 1
  · rcases (show b = 1 ∨ b = -1 by omega) with rfl | rfl
    · rw [Int.tdiv_one]; exact ha
    · rw [Int.tdiv_neg, Int.tdiv_one]; omega
  · have : a.natAbs / b.natAbs ≤ a.natAbs / 2 := Nat.div_le_div_left (by omega) (by omega)
    omega
theorem wrap_id {n : Int} (h : -9223372036854775808 ≤ n ∧ n ≤ 9223372036854775807) : wrap64 n = n := by unfold wrap64; omega

theorem out_div0 {b : Int} (h : b = 0) (r : VA × Int) : outV (if b = 0 then erV 6 else r) = .returned (.tuple #[.agg #[.int .i64 0, .int .i64 0, .bool false, .complex .f64 0 0], .int .i64 6]) := by
  rw [if_pos h]; exact out_er 6
theorem out_div1 {b : Int} (h : b ≠ 0) (r : VA × Int) : outV (if b = 0 then erV 6 else r) = outV r := by rw [if_neg h]

theorem quotient_any (a b : Int) (w : World) (ha : inL a = true) (hb : inL b = true) :
    Calls Tryz.prog 172 #[.int .i64 a, .int .i64 b] w fun e w' => e = outV (if b = 0 then erV 6 else numE (a.tdiv b)) ∧ Below w.heap.size w w' := by
  rw [inL_iff] at *
  by_cases c0 : b = 0
  · have HO := Lib.hid (out_div0 c0 (numE (a.tdiv b)))
    generalize outV (if b = 0 then erV 6 else numE (a.tdiv b)) = R at *
    subst c0
    by_cases c1 : a = -9223372036854775808
    · subst c1
      go_enter Tryz.func172, Tryz.ntmps172
      go_wp2_with (go_at_call 140; refine (vnumber_any _ _).mono ?_; rintro e w1 ⟨rfl, rfl⟩)
      refine bodyPost_ret ?_ rfl ⟨HO.out.symm, ?_⟩
      · simp [results, Tryz.results172, go_sem]
      · exact (Below.refl _ _).alloc (Nat.le_refl _) _
    · have t1 := int_ne c1
      clear c1
      go_enter Tryz.func172, Tryz.ntmps172
      go_wp2_with (go_at_call 140; refine (vnumber_any _ _).mono ?_; rintro e w1 ⟨rfl, rfl⟩)
      refine bodyPost_ret ?_ rfl ⟨HO.out.symm, ?_⟩
      · simp [results, Tryz.results172, go_sem]
      · exact (Below.refl _ _).alloc (Nat.le_refl _) _
  · by_cases cm : a = -9223372036854775808 ∧ b = -1
    · obtain ⟨rfl, rfl⟩ := cm
      have HO := Lib.hid ((out_div1 (b := -1) (by decide) (numE (Int.tdiv (-9223372036854775808) (-1)))).trans (out_over (Or.inr (by decide))))
      generalize outV (if (-1 : Int) = 0 then erV 6 else numE (Int.tdiv (-9223372036854775808) (-1))) = R at *
      go_enter Tryz.func172, Tryz.ntmps172
      go_wp2_with (go_at_call 140; refine (vnumber_any _ _).mono ?_; rintro e w1 ⟨rfl, rfl⟩)
      refine bodyPost_ret ?_ rfl ⟨HO.out.symm, ?_⟩
      · simp [results, Tryz.results172, go_sem]
      · exact (Below.refl _ _).alloc (Nat.le_refl _) _
    · have hq := quot_in ha cm
      have hw := wrap_id hq
      have HO := Lib.hid ((out_div1 c0 (numE (a.tdiv b))).trans (out_ok (s := a.tdiv b) rfl hq.1 hq.2))
      generalize outV (if b = 0 then erV 6 else numE (a.tdiv b)) = R at *
      have t0 := int_ne c0
      generalize hqq : a.tdiv b = q at *
      by_cases c1 : a = -9223372036854775808
      · have t2 : (b == -1) = false := int_ne (fun e => cm ⟨c1, e⟩)
        have t1 : (a == -9223372036854775808) = true := by rw [c1]; rfl
        clear cm c1 hq
        go_enter Tryz.func172, Tryz.ntmps172
        go_wp2_with (go_at_call 140; refine (vnumber_any _ _).mono ?_; rintro e w1 ⟨rfl, rfl⟩)
        refine bodyPost_ret ?_ rfl ⟨HO.out.symm, ?_⟩
        · simp [results, Tryz.results172, go_sem]
        · exact ((Below.refl _ _).alloc (Nat.le_refl _) _).alloc (by simp) _
      · have t1 := int_ne c1
        clear cm c1 hq
        go_enter Tryz.func172, Tryz.ntmps172
        go_wp2_with (go_at_call 140; refine (vnumber_any _ _).mono ?_; rintro e w1 ⟨rfl, rfl⟩)
        refine bodyPost_ret ?_ rfl ⟨HO.out.symm, ?_⟩
        · simp [results, Tryz.results172, go_sem]
        · exact ((Below.refl _ _).alloc (Nat.le_refl _) _).alloc (by simp) _

theorem rest_any (a b : Int) (w : World) (ha : inL a = true) :
    Calls Tryz.prog 173 #[.int .i64 a, .int .i64 b] w fun e w' => e = outV (if b = 0 then erV 6 else (numV (a.tmod b), 0)) ∧ Below w.heap.size w w' := by
  by_cases c0 : b = 0
  · have HO := Lib.hid (out_div0 c0 (numV (a.tmod b), 0))
    generalize outV (if b = 0 then erV 6 else (numV (a.tmod b), 0)) = R at *
    subst c0
    go_enter Tryz.func173, Tryz.ntmps173
    go_wp2_with (go_at_call 140; refine (vnumber_any _ _).mono ?_; rintro e w1 ⟨rfl, rfl⟩)
    refine bodyPost_ret ?_ rfl ⟨HO.out.symm, ?_⟩
    · simp [results, Tryz.results173, go_sem]
    · exact (Below.refl _ _).alloc (Nat.le_refl _) _
  · have HO := Lib.hid ((out_div1 c0 (numV (a.tmod b), 0)).trans (out_num (a.tmod b)))
    generalize outV (if b = 0 then erV 6 else (numV (a.tmod b), 0)) = R at *
    unfold numO at HO
    have hw := wrap_id (inL_iff.1 (tmod_in (b := b) ha))
    have t0 := int_ne c0
    generalize hqq : a.tmod b = q at *
    clear ha
    go_enter Tryz.func173, Tryz.ntmps173
    go_wp2_with (go_at_call 140; refine (vnumber_any _ _).mono ?_; rintro e w1 ⟨rfl, rfl⟩)
    refine bodyPost_ret ?_ rfl ⟨HO.out.symm, ?_⟩
    · simp [results, Tryz.results173, go_sem]
    · exact ((Below.refl _ _).alloc (Nat.le_refl _) _).alloc (by simp) _
end Go.Proofs.YtjgfkmakfdepcaaGreatDoor
namespace Go.Proofs.YtjgfkmakfdepcaaGreatDoor
open Go.RowKit

theorem op_bin {o : Int} (h : 11 ≤ o ∧ o ≤ 23) : o = 11 ∨ o = 12 ∨ o = 13 ∨ o = 14 ∨ o = 15 ∨ o = 16 ∨ o = 17 ∨ o = 18 ∨ o = 19 ∨ o = 20 ∨ o = 21 ∨ o = 22 ∨ o = 23 := by omega
theorem op_un {o : Int} (h : 7 ≤ o ∧ o ≤ 10) : o = 7 ∨ o = 8 ∨ o = 9 ∨ o = 10 := by omega
theorem op_leaf {o : Int} (h : 1 ≤ o ∧ o ≤ 6) : o = 1 ∨ o = 2 ∨ o = 3 ∨ o = 4 ∨ o = 5 ∨ o = 6 := by omega

set_option maxHeartbeats 2000000 in
theorem ofNumbers_any (op a b : Int) (w : World) (h : 11 ≤ op ∧ op ≤ 23) (ha : inL a = true) (hb : inL b = true) :
    Calls Tryz.prog 147 #[.int .i64 op, .int .i64 a, .int .i64 b] w fun e w' => e = outV (numbersE op a b) ∧ Below w.heap.size w w' := by
  rcases op_bin h with rfl | rfl | rfl | rfl | rfl | rfl | rfl | rfl | rfl | rfl | rfl | rfl | rfl
  · have HC := Lib.hid (fun W => sum_any a b W ha hb)
    rw [show numbersE 11 a b = (numE (a + b)) from rfl]
    generalize (numE (a + b)) = p at *
    clear ha hb
    obtain ⟨k, x, t, c1, c2, er, hf⟩ := out_form (p)
    have HF := Lib.hid hf
    clear hf
    go_enter Tryz.func147, Tryz.ntmps147
    go_wp2_with fail
    refine (HC.out _).mono ?_
    rintro e w1 ⟨rfl, hb1⟩
    rw [HF.out]
    obtain ⟨hh, hbw⟩ := fwd4 rfl (Below.refl _ _) hb1
    obtain ⟨d0, d1, d2, d3, f0, f1, f2, f3⟩ := at4 hh
    clear hb1
    go_wp2
    obtain ⟨⟨r0, r1, r2, r3⟩, hbf⟩ := fin4 hh (Nat.le_refl _) hbw (.int .i64 k) (.int .i64 x) (.bool t) (.complex .f64 c1 c2)
    refine bodyPost_ret ?_ rfl ⟨HF.out.symm, hbf⟩
    simp [results, Tryz.results147, go_sem, r0, r1, r2, r3]
  · have HC := Lib.hid (fun W => less_any a b W ha hb)
    rw [show numbersE 12 a b = (numE (a - b)) from rfl]
    generalize (numE (a - b)) = p at *
    clear ha hb
    obtain ⟨k, x, t, c1, c2, er, hf⟩ := out_form (p)
    have HF := Lib.hid hf
    clear hf
    go_enter Tryz.func147, Tryz.ntmps147
    go_wp2_with fail
    refine (HC.out _).mono ?_
    rintro e w1 ⟨rfl, hb1⟩
    rw [HF.out]
    obtain ⟨hh, hbw⟩ := fwd4 rfl (Below.refl _ _) hb1
    obtain ⟨d0, d1, d2, d3, f0, f1, f2, f3⟩ := at4 hh
    clear hb1
    go_wp2
    obtain ⟨⟨r0, r1, r2, r3⟩, hbf⟩ := fin4 hh (Nat.le_refl _) hbw (.int .i64 k) (.int .i64 x) (.bool t) (.complex .f64 c1 c2)
    refine bodyPost_ret ?_ rfl ⟨HF.out.symm, hbf⟩
    simp [results, Tryz.results147, go_sem, r0, r1, r2, r3]
  · have HC := Lib.hid (fun W => product_any a b W ha hb)
    rw [show numbersE 13 a b = (numE (a * b)) from rfl]
    generalize (numE (a * b)) = p at *
    clear ha hb
    obtain ⟨k, x, t, c1, c2, er, hf⟩ := out_form (p)
    have HF := Lib.hid hf
    clear hf
    go_enter Tryz.func147, Tryz.ntmps147
    go_wp2_with fail
    refine (HC.out _).mono ?_
    rintro e w1 ⟨rfl, hb1⟩
    rw [HF.out]
    obtain ⟨hh, hbw⟩ := fwd4 rfl (Below.refl _ _) hb1
    obtain ⟨d0, d1, d2, d3, f0, f1, f2, f3⟩ := at4 hh
    clear hb1
    go_wp2
    obtain ⟨⟨r0, r1, r2, r3⟩, hbf⟩ := fin4 hh (Nat.le_refl _) hbw (.int .i64 k) (.int .i64 x) (.bool t) (.complex .f64 c1 c2)
    refine bodyPost_ret ?_ rfl ⟨HF.out.symm, hbf⟩
    simp [results, Tryz.results147, go_sem, r0, r1, r2, r3]
  · have HC := Lib.hid (fun W => quotient_any a b W ha hb)
    rw [show numbersE 14 a b = (if b = 0 then erV 6 else numE (a.tdiv b)) from rfl]
    generalize (if b = 0 then erV 6 else numE (a.tdiv b)) = p at *
    clear ha hb
    obtain ⟨k, x, t, c1, c2, er, hf⟩ := out_form (p)
    have HF := Lib.hid hf
    clear hf
    go_enter Tryz.func147, Tryz.ntmps147
    go_wp2_with fail
    refine (HC.out _).mono ?_
    rintro e w1 ⟨rfl, hb1⟩
    rw [HF.out]
    obtain ⟨hh, hbw⟩ := fwd4 rfl (Below.refl _ _) hb1
    obtain ⟨d0, d1, d2, d3, f0, f1, f2, f3⟩ := at4 hh
    clear hb1
    go_wp2
    obtain ⟨⟨r0, r1, r2, r3⟩, hbf⟩ := fin4 hh (Nat.le_refl _) hbw (.int .i64 k) (.int .i64 x) (.bool t) (.complex .f64 c1 c2)
    refine bodyPost_ret ?_ rfl ⟨HF.out.symm, hbf⟩
    simp [results, Tryz.results147, go_sem, r0, r1, r2, r3]
  · have HC := Lib.hid (fun W => rest_any a b W ha)
    rw [show numbersE 15 a b = (if b = 0 then erV 6 else (numV (a.tmod b), 0)) from rfl]
    generalize (if b = 0 then erV 6 else (numV (a.tmod b), 0)) = p at *
    clear ha hb
    obtain ⟨k, x, t, c1, c2, er, hf⟩ := out_form (p)
    have HF := Lib.hid hf
    clear hf
    go_enter Tryz.func147, Tryz.ntmps147
    go_wp2_with fail
    refine (HC.out _).mono ?_
    rintro e w1 ⟨rfl, hb1⟩
    rw [HF.out]
    obtain ⟨hh, hbw⟩ := fwd4 rfl (Below.refl _ _) hb1
    obtain ⟨d0, d1, d2, d3, f0, f1, f2, f3⟩ := at4 hh
    clear hb1
    go_wp2
    obtain ⟨⟨r0, r1, r2, r3⟩, hbf⟩ := fin4 hh (Nat.le_refl _) hbw (.int .i64 k) (.int .i64 x) (.bool t) (.complex .f64 c1 c2)
    refine bodyPost_ret ?_ rfl ⟨HF.out.symm, hbf⟩
    simp [results, Tryz.results147, go_sem, r0, r1, r2, r3]
  · have HO := Lib.hid (out_er 8)
    unfold zeroO at HO
    rw [show numbersE 16 a b = erV 8 from rfl]
    generalize outV (erV 8) = R at *
    clear ha hb
    go_enter Tryz.func147, Tryz.ntmps147
    go_wp2
    refine bodyPost_ret ?_ rfl ⟨HO.out.symm, ?_⟩
    · simp [results, Tryz.results147, go_sem]
    · exact (Below.refl _ _).alloc (Nat.le_refl _) _
  · have HO := Lib.hid (out_er 8)
    unfold zeroO at HO
    rw [show numbersE 17 a b = erV 8 from rfl]
    generalize outV (erV 8) = R at *
    clear ha hb
    go_enter Tryz.func147, Tryz.ntmps147
    go_wp2
    refine bodyPost_ret ?_ rfl ⟨HO.out.symm, ?_⟩
    · simp [results, Tryz.results147, go_sem]
    · exact (Below.refl _ _).alloc (Nat.le_refl _) _
  · have HO := Lib.hid (out_tru (decide (a < b)))
    unfold truO at HO
    rw [show numbersE 18 a b = (truV (decide (a < b)), 0) from rfl]
    generalize outV (truV (decide (a < b)), 0) = R at *
    clear ha hb
    go_enter Tryz.func147, Tryz.ntmps147
    go_wp2_with (go_at_call 143; refine (truth_any _ _).mono ?_; rintro e w1 ⟨rfl, rfl⟩)
    refine bodyPost_ret ?_ rfl ⟨HO.out.symm, ?_⟩
    · simp [results, Tryz.results147, go_sem]
    · exact ((Below.refl _ _).alloc (Nat.le_refl _) _).alloc (by simp) _
  · have HO := Lib.hid (out_tru (decide (a ≤ b)))
    unfold truO at HO
    rw [show numbersE 19 a b = (truV (decide (a ≤ b)), 0) from rfl]
    generalize outV (truV (decide (a ≤ b)), 0) = R at *
    clear ha hb
    go_enter Tryz.func147, Tryz.ntmps147
    go_wp2_with (go_at_call 143; refine (truth_any _ _).mono ?_; rintro e w1 ⟨rfl, rfl⟩)
    refine bodyPost_ret ?_ rfl ⟨HO.out.symm, ?_⟩
    · simp [results, Tryz.results147, go_sem]
    · exact ((Below.refl _ _).alloc (Nat.le_refl _) _).alloc (by simp) _
  · have HO := Lib.hid (out_tru (decide (b < a)))
    unfold truO at HO
    rw [show numbersE 20 a b = (truV (decide (b < a)), 0) from rfl]
    generalize outV (truV (decide (b < a)), 0) = R at *
    clear ha hb
    go_enter Tryz.func147, Tryz.ntmps147
    go_wp2_with (go_at_call 143; refine (truth_any _ _).mono ?_; rintro e w1 ⟨rfl, rfl⟩)
    refine bodyPost_ret ?_ rfl ⟨HO.out.symm, ?_⟩
    · simp [results, Tryz.results147, go_sem]
    · exact ((Below.refl _ _).alloc (Nat.le_refl _) _).alloc (by simp) _
  · have HO := Lib.hid (out_tru (decide (b ≤ a)))
    unfold truO at HO
    rw [show numbersE 21 a b = (truV (decide (b ≤ a)), 0) from rfl]
    generalize outV (truV (decide (b ≤ a)), 0) = R at *
    clear ha hb
    go_enter Tryz.func147, Tryz.ntmps147
    go_wp2_with (go_at_call 143; refine (truth_any _ _).mono ?_; rintro e w1 ⟨rfl, rfl⟩)
    refine bodyPost_ret ?_ rfl ⟨HO.out.symm, ?_⟩
    · simp [results, Tryz.results147, go_sem]
    · exact ((Below.refl _ _).alloc (Nat.le_refl _) _).alloc (by simp) _
  · have HO := Lib.hid (out_er 8)
    unfold zeroO at HO
    rw [show numbersE 22 a b = erV 8 from rfl]
    generalize outV (erV 8) = R at *
    clear ha hb
    go_enter Tryz.func147, Tryz.ntmps147
    go_wp2
    refine bodyPost_ret ?_ rfl ⟨HO.out.symm, ?_⟩
    · simp [results, Tryz.results147, go_sem]
    · exact (Below.refl _ _).alloc (Nat.le_refl _) _
  · have HO := Lib.hid (out_er 8)
    unfold zeroO at HO
    rw [show numbersE 23 a b = erV 8 from rfl]
    generalize outV (erV 8) = R at *
    clear ha hb
    go_enter Tryz.func147, Tryz.ntmps147
    go_wp2
    refine bodyPost_ret ?_ rfl ⟨HO.out.symm, ?_⟩
    · simp [results, Tryz.results147, go_sem]
    · exact (Below.refl _ _).alloc (Nat.le_refl _) _

set_option maxHeartbeats 2000000 in
theorem ofTruths_any (op : Int) (a b : Bool) (w : World) (h : 11 ≤ op ∧ op ≤ 23) :
    Calls Tryz.prog 148 #[.int .i64 op, .bool a, .bool b] w fun e w' => e = outV (truthsE op a b) ∧ Below w.heap.size w w' := by
  rcases op_bin h with rfl | rfl | rfl | rfl | rfl | rfl | rfl | rfl | rfl | rfl | rfl | rfl | rfl
  · have HO := Lib.hid (out_er 8)
    unfold zeroO at HO
    rw [show truthsE 11 a b = erV 8 from rfl]
    generalize outV (erV 8) = R at *
    go_enter Tryz.func148, Tryz.ntmps148
    go_wp2
    refine bodyPost_ret ?_ rfl ⟨HO.out.symm, ?_⟩
    · simp [results, Tryz.results148, go_sem]
    · exact (Below.refl _ _).alloc (Nat.le_refl _) _
  · have HO := Lib.hid (out_er 8)
    unfold zeroO at HO
    rw [show truthsE 12 a b = erV 8 from rfl]
    generalize outV (erV 8) = R at *
    go_enter Tryz.func148, Tryz.ntmps148
    go_wp2
    refine bodyPost_ret ?_ rfl ⟨HO.out.symm, ?_⟩
    · simp [results, Tryz.results148, go_sem]
    · exact (Below.refl _ _).alloc (Nat.le_refl _) _
  · have HO := Lib.hid (out_er 8)
    unfold zeroO at HO
    rw [show truthsE 13 a b = erV 8 from rfl]
    generalize outV (erV 8) = R at *
    go_enter Tryz.func148, Tryz.ntmps148
    go_wp2
    refine bodyPost_ret ?_ rfl ⟨HO.out.symm, ?_⟩
    · simp [results, Tryz.results148, go_sem]
    · exact (Below.refl _ _).alloc (Nat.le_refl _) _
  · have HO := Lib.hid (out_er 8)
    unfold zeroO at HO
    rw [show truthsE 14 a b = erV 8 from rfl]
    generalize outV (erV 8) = R at *
    go_enter Tryz.func148, Tryz.ntmps148
    go_wp2
    refine bodyPost_ret ?_ rfl ⟨HO.out.symm, ?_⟩
    · simp [results, Tryz.results148, go_sem]
    · exact (Below.refl _ _).alloc (Nat.le_refl _) _
  · have HO := Lib.hid (out_er 8)
    unfold zeroO at HO
    rw [show truthsE 15 a b = erV 8 from rfl]
    generalize outV (erV 8) = R at *
    go_enter Tryz.func148, Tryz.ntmps148
    go_wp2
    refine bodyPost_ret ?_ rfl ⟨HO.out.symm, ?_⟩
    · simp [results, Tryz.results148, go_sem]
    · exact (Below.refl _ _).alloc (Nat.le_refl _) _
  · have HO := Lib.hid (out_er 8)
    unfold zeroO at HO
    rw [show truthsE 16 a b = erV 8 from rfl]
    generalize outV (erV 8) = R at *
    go_enter Tryz.func148, Tryz.ntmps148
    go_wp2
    refine bodyPost_ret ?_ rfl ⟨HO.out.symm, ?_⟩
    · simp [results, Tryz.results148, go_sem]
    · exact (Below.refl _ _).alloc (Nat.le_refl _) _
  · have HO := Lib.hid (out_er 8)
    unfold zeroO at HO
    rw [show truthsE 17 a b = erV 8 from rfl]
    generalize outV (erV 8) = R at *
    go_enter Tryz.func148, Tryz.ntmps148
    go_wp2
    refine bodyPost_ret ?_ rfl ⟨HO.out.symm, ?_⟩
    · simp [results, Tryz.results148, go_sem]
    · exact (Below.refl _ _).alloc (Nat.le_refl _) _
  · have HO := Lib.hid (out_er 8)
    unfold zeroO at HO
    rw [show truthsE 18 a b = erV 8 from rfl]
    generalize outV (erV 8) = R at *
    go_enter Tryz.func148, Tryz.ntmps148
    go_wp2
    refine bodyPost_ret ?_ rfl ⟨HO.out.symm, ?_⟩
    · simp [results, Tryz.results148, go_sem]
    · exact (Below.refl _ _).alloc (Nat.le_refl _) _
  · have HO := Lib.hid (out_er 8)
    unfold zeroO at HO
    rw [show truthsE 19 a b = erV 8 from rfl]
    generalize outV (erV 8) = R at *
    go_enter Tryz.func148, Tryz.ntmps148
    go_wp2
    refine bodyPost_ret ?_ rfl ⟨HO.out.symm, ?_⟩
    · simp [results, Tryz.results148, go_sem]
    · exact (Below.refl _ _).alloc (Nat.le_refl _) _
  · have HO := Lib.hid (out_er 8)
    unfold zeroO at HO
    rw [show truthsE 20 a b = erV 8 from rfl]
    generalize outV (erV 8) = R at *
    go_enter Tryz.func148, Tryz.ntmps148
    go_wp2
    refine bodyPost_ret ?_ rfl ⟨HO.out.symm, ?_⟩
    · simp [results, Tryz.results148, go_sem]
    · exact (Below.refl _ _).alloc (Nat.le_refl _) _
  · have HO := Lib.hid (out_er 8)
    unfold zeroO at HO
    rw [show truthsE 21 a b = erV 8 from rfl]
    generalize outV (erV 8) = R at *
    go_enter Tryz.func148, Tryz.ntmps148
    go_wp2
    refine bodyPost_ret ?_ rfl ⟨HO.out.symm, ?_⟩
    · simp [results, Tryz.results148, go_sem]
    · exact (Below.refl _ _).alloc (Nat.le_refl _) _
  · cases a <;> cases b
    · have HO := Lib.hid (out_tru false)
      unfold truO at HO
      rw [show truthsE 22 false false = (truV false, 0) from rfl]
      generalize outV (truV false, 0) = R at *
      go_enter Tryz.func148, Tryz.ntmps148
      go_wp2_with (go_at_call 143; refine (truth_any _ _).mono ?_; rintro e w1 ⟨rfl, rfl⟩)
      refine bodyPost_ret ?_ rfl ⟨HO.out.symm, ?_⟩
      · simp [results, Tryz.results148, go_sem]
      · exact ((Below.refl _ _).alloc (Nat.le_refl _) _).alloc (by simp) _
    · have HO := Lib.hid (out_tru false)
      unfold truO at HO
      rw [show truthsE 22 false true = (truV false, 0) from rfl]
      generalize outV (truV false, 0) = R at *
      go_enter Tryz.func148, Tryz.ntmps148
      go_wp2_with (go_at_call 143; refine (truth_any _ _).mono ?_; rintro e w1 ⟨rfl, rfl⟩)
      refine bodyPost_ret ?_ rfl ⟨HO.out.symm, ?_⟩
      · simp [results, Tryz.results148, go_sem]
      · exact ((Below.refl _ _).alloc (Nat.le_refl _) _).alloc (by simp) _
    · have HO := Lib.hid (out_tru false)
      unfold truO at HO
      rw [show truthsE 22 true false = (truV false, 0) from rfl]
      generalize outV (truV false, 0) = R at *
      go_enter Tryz.func148, Tryz.ntmps148
      go_wp2_with (go_at_call 143; refine (truth_any _ _).mono ?_; rintro e w1 ⟨rfl, rfl⟩)
      refine bodyPost_ret ?_ rfl ⟨HO.out.symm, ?_⟩
      · simp [results, Tryz.results148, go_sem]
      · exact ((Below.refl _ _).alloc (Nat.le_refl _) _).alloc (by simp) _
    · have HO := Lib.hid (out_tru true)
      unfold truO at HO
      rw [show truthsE 22 true true = (truV true, 0) from rfl]
      generalize outV (truV true, 0) = R at *
      go_enter Tryz.func148, Tryz.ntmps148
      go_wp2_with (go_at_call 143; refine (truth_any _ _).mono ?_; rintro e w1 ⟨rfl, rfl⟩)
      refine bodyPost_ret ?_ rfl ⟨HO.out.symm, ?_⟩
      · simp [results, Tryz.results148, go_sem]
      · exact ((Below.refl _ _).alloc (Nat.le_refl _) _).alloc (by simp) _
  · cases a <;> cases b
    · have HO := Lib.hid (out_tru false)
      unfold truO at HO
      rw [show truthsE 23 false false = (truV false, 0) from rfl]
      generalize outV (truV false, 0) = R at *
      go_enter Tryz.func148, Tryz.ntmps148
      go_wp2_with (go_at_call 143; refine (truth_any _ _).mono ?_; rintro e w1 ⟨rfl, rfl⟩)
      refine bodyPost_ret ?_ rfl ⟨HO.out.symm, ?_⟩
      · simp [results, Tryz.results148, go_sem]
      · exact ((Below.refl _ _).alloc (Nat.le_refl _) _).alloc (by simp) _
    · have HO := Lib.hid (out_tru true)
      unfold truO at HO
      rw [show truthsE 23 false true = (truV true, 0) from rfl]
      generalize outV (truV true, 0) = R at *
      go_enter Tryz.func148, Tryz.ntmps148
      go_wp2_with (go_at_call 143; refine (truth_any _ _).mono ?_; rintro e w1 ⟨rfl, rfl⟩)
      refine bodyPost_ret ?_ rfl ⟨HO.out.symm, ?_⟩
      · simp [results, Tryz.results148, go_sem]
      · exact ((Below.refl _ _).alloc (Nat.le_refl _) _).alloc (by simp) _
    · have HO := Lib.hid (out_tru true)
      unfold truO at HO
      rw [show truthsE 23 true false = (truV true, 0) from rfl]
      generalize outV (truV true, 0) = R at *
      go_enter Tryz.func148, Tryz.ntmps148
      go_wp2_with (go_at_call 143; refine (truth_any _ _).mono ?_; rintro e w1 ⟨rfl, rfl⟩)
      refine bodyPost_ret ?_ rfl ⟨HO.out.symm, ?_⟩
      · simp [results, Tryz.results148, go_sem]
      · exact ((Below.refl _ _).alloc (Nat.le_refl _) _).alloc (by simp) _
    · have HO := Lib.hid (out_tru true)
      unfold truO at HO
      rw [show truthsE 23 true true = (truV true, 0) from rfl]
      generalize outV (truV true, 0) = R at *
      go_enter Tryz.func148, Tryz.ntmps148
      go_wp2_with (go_at_call 143; refine (truth_any _ _).mono ?_; rintro e w1 ⟨rfl, rfl⟩)
      refine bodyPost_ret ?_ rfl ⟨HO.out.symm, ?_⟩
      · simp [results, Tryz.results148, go_sem]
      · exact ((Below.refl _ _).alloc (Nat.le_refl _) _).alloc (by simp) _
end Go.Proofs.YtjgfkmakfdepcaaGreatDoor
