/- eval.between: what an operator makes of two operands. -/
import Derived.Test.YtpidikbhjiaogaaVd
namespace Go.Proofs.Ytpidikbhjiaogaa
open Go.RowKit

theorem run_equalIn_complex {P : Program} (w : World) (d : Nat) (t : TypeId) (k : FloatKind) (a b c e : Nat) (h : P.underlying t = some (.complex k)) : (Op.equalIn (d + 1) t (.complex k a b) (.complex k c e)).run P w = .ok ((k.format.order a c == some .eq) && (k.format.order b e == some .eq)) w := by
  simp [Op.equalIn, run_underlying h, Op.floatEq]
theorem order0 : (FloatKind.f64.format.order 0 0 == some .eq) = true := by kernel_rfl
set_option maxRecDepth 100000 in
set_option maxHeartbeats 2000000 in
theorem btw_num_num (op : Int) (a : Int) (c : Int) (w : World) (h : 11 ≤ op ∧ op ≤ 23) (h1 : inL a = true) (h2 : inL c = true) :
    Calls Try.prog 44 #[.int .i64 op, .agg #[.int .i64 1, .int .i64 a, .bool false, .complex .f64 0 0], .agg #[.int .i64 1, .int .i64 c, .bool false, .complex .f64 0 0]] w fun e w' => e = outV (joinE op (numV a) (numV c)) ∧ Below w.heap.size w w' := by
  have ho := order0
  have hq := fun (W : World) (a b c e : Nat) => run_equalIn_complex (P := Try.prog) W 9998 51 .f64 a b c e Try.underlying51
  by_cases h16 : op = 16
  · subst h16
    by_cases ca : a = c
    · have e : joinE 16 (numV a) (numV c) = (truV true, 0) := by
        show (truV (decide (a = c ∧ (0 : Int) = 0)), (0 : Int)) = _
        simp [ca]
      rw [e]
      have HO := Lib.hid (out_tru true)
      unfold truO at HO
      generalize outV (truV true, 0) = R at *
      clear e h1 h2
      subst ca
      go_enter Try.func44, Try.ntmps44
      go_wp2_with (go_at_call 51; refine (truth_any _ _).mono ?_; rintro e w1 ⟨rfl, rfl⟩)
      refine bodyPost_ret ?_ rfl ⟨HO.out.symm, ?_⟩
      · simp [results, Try.results44, go_sem]
      · exact ((((Below.refl _ _).alloc (Nat.le_refl _) _).alloc (by first | (simp; done) | (simp; omega)) _).alloc (by first | (simp; done) | (simp; omega)) _).alloc (by first | (simp; done) | (simp; omega)) _
    · have e : joinE 16 (numV a) (numV c) = (truV false, 0) := by
        show (truV (decide (a = c ∧ (0 : Int) = 0)), (0 : Int)) = _
        simp [ca]
      rw [e]
      have HO := Lib.hid (out_tru false)
      unfold truO at HO
      generalize outV (truV false, 0) = R at *
      clear e h1 h2
      have ta := int_ne ca
      go_enter Try.func44, Try.ntmps44
      go_wp2_with (go_at_call 51; refine (truth_any _ _).mono ?_; rintro e w1 ⟨rfl, rfl⟩)
      refine bodyPost_ret ?_ rfl ⟨HO.out.symm, ?_⟩
      · simp [results, Try.results44, go_sem]
      · exact ((((Below.refl _ _).alloc (Nat.le_refl _) _).alloc (by first | (simp; done) | (simp; omega)) _).alloc (by first | (simp; done) | (simp; omega)) _).alloc (by first | (simp; done) | (simp; omega)) _
  by_cases h17 : op = 17
  · subst h17
    by_cases ca : a = c
    · have e : joinE 17 (numV a) (numV c) = (truV false, 0) := by
        show (truV (!decide (a = c ∧ (0 : Int) = 0)), (0 : Int)) = _
        simp [ca]
      rw [e]
      have HO := Lib.hid (out_tru false)
      unfold truO at HO
      generalize outV (truV false, 0) = R at *
      clear e h1 h2
      subst ca
      go_enter Try.func44, Try.ntmps44
      go_wp2_with (go_at_call 51; refine (truth_any _ _).mono ?_; rintro e w1 ⟨rfl, rfl⟩)
      refine bodyPost_ret ?_ rfl ⟨HO.out.symm, ?_⟩
      · simp [results, Try.results44, go_sem]
      · exact ((((Below.refl _ _).alloc (Nat.le_refl _) _).alloc (by first | (simp; done) | (simp; omega)) _).alloc (by first | (simp; done) | (simp; omega)) _).alloc (by first | (simp; done) | (simp; omega)) _
    · have e : joinE 17 (numV a) (numV c) = (truV true, 0) := by
        show (truV (!decide (a = c ∧ (0 : Int) = 0)), (0 : Int)) = _
        simp [ca]
      rw [e]
      have HO := Lib.hid (out_tru true)
      unfold truO at HO
      generalize outV (truV true, 0) = R at *
      clear e h1 h2
      have ta := int_ne ca
      go_enter Try.func44, Try.ntmps44
      go_wp2_with (go_at_call 51; refine (truth_any _ _).mono ?_; rintro e w1 ⟨rfl, rfl⟩)
      refine bodyPost_ret ?_ rfl ⟨HO.out.symm, ?_⟩
      · simp [results, Try.results44, go_sem]
      · exact ((((Below.refl _ _).alloc (Nat.le_refl _) _).alloc (by first | (simp; done) | (simp; omega)) _).alloc (by first | (simp; done) | (simp; omega)) _).alloc (by first | (simp; done) | (simp; omega)) _
  have t1 := int_ne h16
  have t2 := int_ne h17
  have e : joinE op (numV a) (numV c) = numbersE op a c := by
    unfold joinE
    rw [if_neg (by simp [numV]), if_neg h16, if_neg h17]
    rfl
  rw [e]
  have HC := Lib.hid (fun W => ofNumbers_any op a c W h h1 h2)
  generalize numbersE op a c = r at *
  clear e h16 h17 h1 h2
  obtain ⟨k, x, t, c1, c2, er, hf⟩ := out_form (r)
  have HF := Lib.hid hf
  clear hf
  go_enter Try.func44, Try.ntmps44
  go_wp2_with fail
  refine (HC.out _).mono ?_
  rintro e w1 ⟨rfl, hb1⟩
  rw [HF.out]
  obtain ⟨hh, hbw⟩ := fwd4 (show ((w.alloc _).alloc _).heap.size = w.heap.size + 1 + 1 by simp) (((Below.refl _ _).alloc (Nat.le_refl _) _).alloc (by simp) _) hb1
  obtain ⟨d0, d1, d2, d3, f0, f1, f2, f3⟩ := at4 hh
  clear hb1
  go_wp2
  obtain ⟨⟨r0, r1, r2, r3⟩, hbf⟩ := fin4 hh (by omega) hbw (.int .i64 k) (.int .i64 x) (.bool t) (.complex .f64 c1 c2)
  refine bodyPost_ret ?_ rfl ⟨HF.out.symm, hbf⟩
  simp [results, Try.results44, go_sem, r0, r1, r2, r3]

set_option maxHeartbeats 1000000 in
theorem btw_num_tru (op : Int) (a : Int) (q : Bool) (w : World) (_h : 11 ≤ op ∧ op ≤ 23) :
    Calls Try.prog 44 #[.int .i64 op, .agg #[.int .i64 1, .int .i64 a, .bool false, .complex .f64 0 0], .agg #[.int .i64 2, .int .i64 0, .bool q, .complex .f64 0 0]] w fun e w' => e = outV (joinE op (numV a) (truV q)) ∧ Below w.heap.size w w' := by
  have HO := Lib.hid (out_er 8)
  unfold zeroO at HO
  rw [show joinE op (numV a) (truV q) = erV 8 from if_pos (by simp [numV, truV])]
  generalize outV (erV 8) = R at *
  go_enter Try.func44, Try.ntmps44
  go_wp2
  refine bodyPost_ret ?_ rfl ⟨HO.out.symm, ?_⟩
  · simp [results, Try.results44, go_sem]
  · exact (((Below.refl _ _).alloc (Nat.le_refl _) _).alloc (by first | (simp; done) | (simp; omega)) _).alloc (by first | (simp; done) | (simp; omega)) _

set_option maxHeartbeats 1000000 in
theorem btw_num_pt (op : Int) (a : Int) (c : Int) (d : Int) (w : World) (_h : 11 ≤ op ∧ op ≤ 23) :
    Calls Try.prog 44 #[.int .i64 op, .agg #[.int .i64 1, .int .i64 a, .bool false, .complex .f64 0 0], .agg #[.int .i64 3, .int .i64 0, .bool false, .complex .f64 (fl c) (fl d)]] w fun e w' => e = outV (joinE op (numV a) (ptV c d)) ∧ Below w.heap.size w w' := by
  have HO := Lib.hid (out_er 8)
  unfold zeroO at HO
  rw [show joinE op (numV a) (ptV c d) = erV 8 from if_pos (by simp [numV, ptV])]
  generalize outV (erV 8) = R at *
  go_enter Try.func44, Try.ntmps44
  go_wp2
  refine bodyPost_ret ?_ rfl ⟨HO.out.symm, ?_⟩
  · simp [results, Try.results44, go_sem]
  · exact (((Below.refl _ _).alloc (Nat.le_refl _) _).alloc (by first | (simp; done) | (simp; omega)) _).alloc (by first | (simp; done) | (simp; omega)) _

set_option maxHeartbeats 1000000 in
theorem btw_tru_num (op : Int) (p : Bool) (c : Int) (w : World) (_h : 11 ≤ op ∧ op ≤ 23) :
    Calls Try.prog 44 #[.int .i64 op, .agg #[.int .i64 2, .int .i64 0, .bool p, .complex .f64 0 0], .agg #[.int .i64 1, .int .i64 c, .bool false, .complex .f64 0 0]] w fun e w' => e = outV (joinE op (truV p) (numV c)) ∧ Below w.heap.size w w' := by
  have HO := Lib.hid (out_er 8)
  unfold zeroO at HO
  rw [show joinE op (truV p) (numV c) = erV 8 from if_pos (by simp [numV, truV])]
  generalize outV (erV 8) = R at *
  go_enter Try.func44, Try.ntmps44
  go_wp2
  refine bodyPost_ret ?_ rfl ⟨HO.out.symm, ?_⟩
  · simp [results, Try.results44, go_sem]
  · exact (((Below.refl _ _).alloc (Nat.le_refl _) _).alloc (by first | (simp; done) | (simp; omega)) _).alloc (by first | (simp; done) | (simp; omega)) _

set_option maxRecDepth 100000 in
set_option maxHeartbeats 2000000 in
theorem btw_tru_tru (op : Int) (p : Bool) (q : Bool) (w : World) (h : 11 ≤ op ∧ op ≤ 23) :
    Calls Try.prog 44 #[.int .i64 op, .agg #[.int .i64 2, .int .i64 0, .bool p, .complex .f64 0 0], .agg #[.int .i64 2, .int .i64 0, .bool q, .complex .f64 0 0]] w fun e w' => e = outV (joinE op (truV p) (truV q)) ∧ Below w.heap.size w w' := by
  have ho := order0
  have hq := fun (W : World) (a b c e : Nat) => run_equalIn_complex (P := Try.prog) W 9998 51 .f64 a b c e Try.underlying51
  by_cases h16 : op = 16
  · subst h16
    cases p <;> cases q
    · rw [show joinE 16 (truV false) (truV false) = (truV true, 0) from rfl]
      have HO := Lib.hid (out_tru true)
      unfold truO at HO
      generalize outV (truV true, 0) = R at *
      go_enter Try.func44, Try.ntmps44
      go_wp2_with (go_at_call 51; refine (truth_any _ _).mono ?_; rintro e w1 ⟨rfl, rfl⟩)
      refine bodyPost_ret ?_ rfl ⟨HO.out.symm, ?_⟩
      · simp [results, Try.results44, go_sem]
      · exact ((((Below.refl _ _).alloc (Nat.le_refl _) _).alloc (by first | (simp; done) | (simp; omega)) _).alloc (by first | (simp; done) | (simp; omega)) _).alloc (by first | (simp; done) | (simp; omega)) _
    · rw [show joinE 16 (truV false) (truV true) = (truV false, 0) from rfl]
      have HO := Lib.hid (out_tru false)
      unfold truO at HO
      generalize outV (truV false, 0) = R at *
      go_enter Try.func44, Try.ntmps44
      go_wp2_with (go_at_call 51; refine (truth_any _ _).mono ?_; rintro e w1 ⟨rfl, rfl⟩)
      refine bodyPost_ret ?_ rfl ⟨HO.out.symm, ?_⟩
      · simp [results, Try.results44, go_sem]
      · exact ((((Below.refl _ _).alloc (Nat.le_refl _) _).alloc (by first | (simp; done) | (simp; omega)) _).alloc (by first | (simp; done) | (simp; omega)) _).alloc (by first | (simp; done) | (simp; omega)) _
    · rw [show joinE 16 (truV true) (truV false) = (truV false, 0) from rfl]
      have HO := Lib.hid (out_tru false)
      unfold truO at HO
      generalize outV (truV false, 0) = R at *
      go_enter Try.func44, Try.ntmps44
      go_wp2_with (go_at_call 51; refine (truth_any _ _).mono ?_; rintro e w1 ⟨rfl, rfl⟩)
      refine bodyPost_ret ?_ rfl ⟨HO.out.symm, ?_⟩
      · simp [results, Try.results44, go_sem]
      · exact ((((Below.refl _ _).alloc (Nat.le_refl _) _).alloc (by first | (simp; done) | (simp; omega)) _).alloc (by first | (simp; done) | (simp; omega)) _).alloc (by first | (simp; done) | (simp; omega)) _
    · rw [show joinE 16 (truV true) (truV true) = (truV true, 0) from rfl]
      have HO := Lib.hid (out_tru true)
      unfold truO at HO
      generalize outV (truV true, 0) = R at *
      go_enter Try.func44, Try.ntmps44
      go_wp2_with (go_at_call 51; refine (truth_any _ _).mono ?_; rintro e w1 ⟨rfl, rfl⟩)
      refine bodyPost_ret ?_ rfl ⟨HO.out.symm, ?_⟩
      · simp [results, Try.results44, go_sem]
      · exact ((((Below.refl _ _).alloc (Nat.le_refl _) _).alloc (by first | (simp; done) | (simp; omega)) _).alloc (by first | (simp; done) | (simp; omega)) _).alloc (by first | (simp; done) | (simp; omega)) _
  by_cases h17 : op = 17
  · subst h17
    cases p <;> cases q
    · rw [show joinE 17 (truV false) (truV false) = (truV false, 0) from rfl]
      have HO := Lib.hid (out_tru false)
      unfold truO at HO
      generalize outV (truV false, 0) = R at *
      go_enter Try.func44, Try.ntmps44
      go_wp2_with (go_at_call 51; refine (truth_any _ _).mono ?_; rintro e w1 ⟨rfl, rfl⟩)
      refine bodyPost_ret ?_ rfl ⟨HO.out.symm, ?_⟩
      · simp [results, Try.results44, go_sem]
      · exact ((((Below.refl _ _).alloc (Nat.le_refl _) _).alloc (by first | (simp; done) | (simp; omega)) _).alloc (by first | (simp; done) | (simp; omega)) _).alloc (by first | (simp; done) | (simp; omega)) _
    · rw [show joinE 17 (truV false) (truV true) = (truV true, 0) from rfl]
      have HO := Lib.hid (out_tru true)
      unfold truO at HO
      generalize outV (truV true, 0) = R at *
      go_enter Try.func44, Try.ntmps44
      go_wp2_with (go_at_call 51; refine (truth_any _ _).mono ?_; rintro e w1 ⟨rfl, rfl⟩)
      refine bodyPost_ret ?_ rfl ⟨HO.out.symm, ?_⟩
      · simp [results, Try.results44, go_sem]
      · exact ((((Below.refl _ _).alloc (Nat.le_refl _) _).alloc (by first | (simp; done) | (simp; omega)) _).alloc (by first | (simp; done) | (simp; omega)) _).alloc (by first | (simp; done) | (simp; omega)) _
    · rw [show joinE 17 (truV true) (truV false) = (truV true, 0) from rfl]
      have HO := Lib.hid (out_tru true)
      unfold truO at HO
      generalize outV (truV true, 0) = R at *
      go_enter Try.func44, Try.ntmps44
      go_wp2_with (go_at_call 51; refine (truth_any _ _).mono ?_; rintro e w1 ⟨rfl, rfl⟩)
      refine bodyPost_ret ?_ rfl ⟨HO.out.symm, ?_⟩
      · simp [results, Try.results44, go_sem]
      · exact ((((Below.refl _ _).alloc (Nat.le_refl _) _).alloc (by first | (simp; done) | (simp; omega)) _).alloc (by first | (simp; done) | (simp; omega)) _).alloc (by first | (simp; done) | (simp; omega)) _
    · rw [show joinE 17 (truV true) (truV true) = (truV false, 0) from rfl]
      have HO := Lib.hid (out_tru false)
      unfold truO at HO
      generalize outV (truV false, 0) = R at *
      go_enter Try.func44, Try.ntmps44
      go_wp2_with (go_at_call 51; refine (truth_any _ _).mono ?_; rintro e w1 ⟨rfl, rfl⟩)
      refine bodyPost_ret ?_ rfl ⟨HO.out.symm, ?_⟩
      · simp [results, Try.results44, go_sem]
      · exact ((((Below.refl _ _).alloc (Nat.le_refl _) _).alloc (by first | (simp; done) | (simp; omega)) _).alloc (by first | (simp; done) | (simp; omega)) _).alloc (by first | (simp; done) | (simp; omega)) _
  have t1 := int_ne h16
  have t2 := int_ne h17
  have e : joinE op (truV p) (truV q) = truthsE op p q := by
    unfold joinE
    rw [if_neg (by simp [truV]), if_neg h16, if_neg h17]
    cases p <;> cases q <;> rfl
  rw [e]
  have HC := Lib.hid (fun W => ofTruths_any op p q W h)
  generalize truthsE op p q = r at *
  clear e h16 h17 
  obtain ⟨k, x, t, c1, c2, er, hf⟩ := out_form (r)
  have HF := Lib.hid hf
  clear hf
  go_enter Try.func44, Try.ntmps44
  go_wp2_with fail
  refine (HC.out _).mono ?_
  rintro e w1 ⟨rfl, hb1⟩
  rw [HF.out]
  obtain ⟨hh, hbw⟩ := fwd4 (show ((w.alloc _).alloc _).heap.size = w.heap.size + 1 + 1 by simp) (((Below.refl _ _).alloc (Nat.le_refl _) _).alloc (by simp) _) hb1
  obtain ⟨d0, d1, d2, d3, f0, f1, f2, f3⟩ := at4 hh
  clear hb1
  go_wp2
  obtain ⟨⟨r0, r1, r2, r3⟩, hbf⟩ := fin4 hh (by omega) hbw (.int .i64 k) (.int .i64 x) (.bool t) (.complex .f64 c1 c2)
  refine bodyPost_ret ?_ rfl ⟨HF.out.symm, hbf⟩
  simp [results, Try.results44, go_sem, r0, r1, r2, r3]

set_option maxHeartbeats 1000000 in
theorem btw_tru_pt (op : Int) (p : Bool) (c : Int) (d : Int) (w : World) (_h : 11 ≤ op ∧ op ≤ 23) :
    Calls Try.prog 44 #[.int .i64 op, .agg #[.int .i64 2, .int .i64 0, .bool p, .complex .f64 0 0], .agg #[.int .i64 3, .int .i64 0, .bool false, .complex .f64 (fl c) (fl d)]] w fun e w' => e = outV (joinE op (truV p) (ptV c d)) ∧ Below w.heap.size w w' := by
  have HO := Lib.hid (out_er 8)
  unfold zeroO at HO
  rw [show joinE op (truV p) (ptV c d) = erV 8 from if_pos (by simp [truV, ptV])]
  generalize outV (erV 8) = R at *
  go_enter Try.func44, Try.ntmps44
  go_wp2
  refine bodyPost_ret ?_ rfl ⟨HO.out.symm, ?_⟩
  · simp [results, Try.results44, go_sem]
  · exact (((Below.refl _ _).alloc (Nat.le_refl _) _).alloc (by first | (simp; done) | (simp; omega)) _).alloc (by first | (simp; done) | (simp; omega)) _

set_option maxHeartbeats 1000000 in
theorem btw_pt_num (op : Int) (a : Int) (b : Int) (c : Int) (w : World) (_h : 11 ≤ op ∧ op ≤ 23) :
    Calls Try.prog 44 #[.int .i64 op, .agg #[.int .i64 3, .int .i64 0, .bool false, .complex .f64 (fl a) (fl b)], .agg #[.int .i64 1, .int .i64 c, .bool false, .complex .f64 0 0]] w fun e w' => e = outV (joinE op (ptV a b) (numV c)) ∧ Below w.heap.size w w' := by
  have HO := Lib.hid (out_er 8)
  unfold zeroO at HO
  rw [show joinE op (ptV a b) (numV c) = erV 8 from if_pos (by simp [numV, ptV])]
  generalize outV (erV 8) = R at *
  go_enter Try.func44, Try.ntmps44
  go_wp2
  refine bodyPost_ret ?_ rfl ⟨HO.out.symm, ?_⟩
  · simp [results, Try.results44, go_sem]
  · exact (((Below.refl _ _).alloc (Nat.le_refl _) _).alloc (by first | (simp; done) | (simp; omega)) _).alloc (by first | (simp; done) | (simp; omega)) _

set_option maxHeartbeats 1000000 in
theorem btw_pt_tru (op : Int) (a : Int) (b : Int) (q : Bool) (w : World) (_h : 11 ≤ op ∧ op ≤ 23) :
    Calls Try.prog 44 #[.int .i64 op, .agg #[.int .i64 3, .int .i64 0, .bool false, .complex .f64 (fl a) (fl b)], .agg #[.int .i64 2, .int .i64 0, .bool q, .complex .f64 0 0]] w fun e w' => e = outV (joinE op (ptV a b) (truV q)) ∧ Below w.heap.size w w' := by
  have HO := Lib.hid (out_er 8)
  unfold zeroO at HO
  rw [show joinE op (ptV a b) (truV q) = erV 8 from if_pos (by simp [truV, ptV])]
  generalize outV (erV 8) = R at *
  go_enter Try.func44, Try.ntmps44
  go_wp2
  refine bodyPost_ret ?_ rfl ⟨HO.out.symm, ?_⟩
  · simp [results, Try.results44, go_sem]
  · exact (((Below.refl _ _).alloc (Nat.le_refl _) _).alloc (by first | (simp; done) | (simp; omega)) _).alloc (by first | (simp; done) | (simp; omega)) _

set_option maxRecDepth 100000 in
set_option maxHeartbeats 2000000 in
theorem btw_pt_pt (op : Int) (a : Int) (b : Int) (c : Int) (d : Int) (w : World) (h : 11 ≤ op ∧ op ≤ 23) (h1 : inB a = true) (h2 : inB b = true) (h3 : inB c = true) (h4 : inB d = true) :
    Calls Try.prog 44 #[.int .i64 op, .agg #[.int .i64 3, .int .i64 0, .bool false, .complex .f64 (fl a) (fl b)], .agg #[.int .i64 3, .int .i64 0, .bool false, .complex .f64 (fl c) (fl d)]] w fun e w' => e = outV (joinE op (ptV a b) (ptV c d)) ∧ Below w.heap.size w w' := by
  have ho := order0
  have hq := fun (W : World) (a b c e : Nat) => run_equalIn_complex (P := Try.prog) W 9998 51 .f64 a b c e Try.underlying51
  by_cases h16 : op = 16
  · subst h16
    have k1 := ord_eq (rep_fl h1) (rep_fl h3)
    have k2 := ord_eq (rep_fl h2) (rep_fl h4)
    clear h1 h2 h3 h4
    by_cases ca : a = c <;> by_cases cb : b = d
    · rw [decide_eq_true ca] at k1
      rw [decide_eq_true cb] at k2
      have e : joinE 16 (ptV a b) (ptV c d) = (truV true, 0) := by
        show (truV (decide (a = c ∧ b = d)), (0 : Int)) = _
        simp [ca, cb]
      rw [e]
      have HO := Lib.hid (out_tru true)
      unfold truO at HO
      generalize outV (truV true, 0) = R at *
      clear e ca cb
      go_enter Try.func44, Try.ntmps44
      go_wp2_with (go_at_call 51; refine (truth_any _ _).mono ?_; rintro e w1 ⟨rfl, rfl⟩)
      refine bodyPost_ret ?_ rfl ⟨HO.out.symm, ?_⟩
      · simp [results, Try.results44, go_sem]
      · exact ((((Below.refl _ _).alloc (Nat.le_refl _) _).alloc (by first | (simp; done) | (simp; omega)) _).alloc (by first | (simp; done) | (simp; omega)) _).alloc (by first | (simp; done) | (simp; omega)) _
    · rw [decide_eq_true ca] at k1
      rw [decide_eq_false cb] at k2
      have e : joinE 16 (ptV a b) (ptV c d) = (truV false, 0) := by
        show (truV (decide (a = c ∧ b = d)), (0 : Int)) = _
        simp [ca, cb]
      rw [e]
      have HO := Lib.hid (out_tru false)
      unfold truO at HO
      generalize outV (truV false, 0) = R at *
      clear e ca cb
      go_enter Try.func44, Try.ntmps44
      go_wp2_with (go_at_call 51; refine (truth_any _ _).mono ?_; rintro e w1 ⟨rfl, rfl⟩)
      refine bodyPost_ret ?_ rfl ⟨HO.out.symm, ?_⟩
      · simp [results, Try.results44, go_sem]
      · exact ((((Below.refl _ _).alloc (Nat.le_refl _) _).alloc (by first | (simp; done) | (simp; omega)) _).alloc (by first | (simp; done) | (simp; omega)) _).alloc (by first | (simp; done) | (simp; omega)) _
    · rw [decide_eq_false ca] at k1
      rw [decide_eq_true cb] at k2
      have e : joinE 16 (ptV a b) (ptV c d) = (truV false, 0) := by
        show (truV (decide (a = c ∧ b = d)), (0 : Int)) = _
        simp [ca, cb]
      rw [e]
      have HO := Lib.hid (out_tru false)
      unfold truO at HO
      generalize outV (truV false, 0) = R at *
      clear e ca cb
      go_enter Try.func44, Try.ntmps44
      go_wp2_with (go_at_call 51; refine (truth_any _ _).mono ?_; rintro e w1 ⟨rfl, rfl⟩)
      refine bodyPost_ret ?_ rfl ⟨HO.out.symm, ?_⟩
      · simp [results, Try.results44, go_sem]
      · exact ((((Below.refl _ _).alloc (Nat.le_refl _) _).alloc (by first | (simp; done) | (simp; omega)) _).alloc (by first | (simp; done) | (simp; omega)) _).alloc (by first | (simp; done) | (simp; omega)) _
    · rw [decide_eq_false ca] at k1
      rw [decide_eq_false cb] at k2
      have e : joinE 16 (ptV a b) (ptV c d) = (truV false, 0) := by
        show (truV (decide (a = c ∧ b = d)), (0 : Int)) = _
        simp [ca, cb]
      rw [e]
      have HO := Lib.hid (out_tru false)
      unfold truO at HO
      generalize outV (truV false, 0) = R at *
      clear e ca cb
      go_enter Try.func44, Try.ntmps44
      go_wp2_with (go_at_call 51; refine (truth_any _ _).mono ?_; rintro e w1 ⟨rfl, rfl⟩)
      refine bodyPost_ret ?_ rfl ⟨HO.out.symm, ?_⟩
      · simp [results, Try.results44, go_sem]
      · exact ((((Below.refl _ _).alloc (Nat.le_refl _) _).alloc (by first | (simp; done) | (simp; omega)) _).alloc (by first | (simp; done) | (simp; omega)) _).alloc (by first | (simp; done) | (simp; omega)) _
  by_cases h17 : op = 17
  · subst h17
    have k1 := ord_eq (rep_fl h1) (rep_fl h3)
    have k2 := ord_eq (rep_fl h2) (rep_fl h4)
    clear h1 h2 h3 h4
    by_cases ca : a = c <;> by_cases cb : b = d
    · rw [decide_eq_true ca] at k1
      rw [decide_eq_true cb] at k2
      have e : joinE 17 (ptV a b) (ptV c d) = (truV false, 0) := by
        show (truV (!decide (a = c ∧ b = d)), (0 : Int)) = _
        simp [ca, cb]
      rw [e]
      have HO := Lib.hid (out_tru false)
      unfold truO at HO
      generalize outV (truV false, 0) = R at *
      clear e ca cb
      go_enter Try.func44, Try.ntmps44
      go_wp2_with (go_at_call 51; refine (truth_any _ _).mono ?_; rintro e w1 ⟨rfl, rfl⟩)
      refine bodyPost_ret ?_ rfl ⟨HO.out.symm, ?_⟩
      · simp [results, Try.results44, go_sem]
      · exact ((((Below.refl _ _).alloc (Nat.le_refl _) _).alloc (by first | (simp; done) | (simp; omega)) _).alloc (by first | (simp; done) | (simp; omega)) _).alloc (by first | (simp; done) | (simp; omega)) _
    · rw [decide_eq_true ca] at k1
      rw [decide_eq_false cb] at k2
      have e : joinE 17 (ptV a b) (ptV c d) = (truV true, 0) := by
        show (truV (!decide (a = c ∧ b = d)), (0 : Int)) = _
        simp [ca, cb]
      rw [e]
      have HO := Lib.hid (out_tru true)
      unfold truO at HO
      generalize outV (truV true, 0) = R at *
      clear e ca cb
      go_enter Try.func44, Try.ntmps44
      go_wp2_with (go_at_call 51; refine (truth_any _ _).mono ?_; rintro e w1 ⟨rfl, rfl⟩)
      refine bodyPost_ret ?_ rfl ⟨HO.out.symm, ?_⟩
      · simp [results, Try.results44, go_sem]
      · exact ((((Below.refl _ _).alloc (Nat.le_refl _) _).alloc (by first | (simp; done) | (simp; omega)) _).alloc (by first | (simp; done) | (simp; omega)) _).alloc (by first | (simp; done) | (simp; omega)) _
    · rw [decide_eq_false ca] at k1
      rw [decide_eq_true cb] at k2
      have e : joinE 17 (ptV a b) (ptV c d) = (truV true, 0) := by
        show (truV (!decide (a = c ∧ b = d)), (0 : Int)) = _
        simp [ca, cb]
      rw [e]
      have HO := Lib.hid (out_tru true)
      unfold truO at HO
      generalize outV (truV true, 0) = R at *
      clear e ca cb
      go_enter Try.func44, Try.ntmps44
      go_wp2_with (go_at_call 51; refine (truth_any _ _).mono ?_; rintro e w1 ⟨rfl, rfl⟩)
      refine bodyPost_ret ?_ rfl ⟨HO.out.symm, ?_⟩
      · simp [results, Try.results44, go_sem]
      · exact ((((Below.refl _ _).alloc (Nat.le_refl _) _).alloc (by first | (simp; done) | (simp; omega)) _).alloc (by first | (simp; done) | (simp; omega)) _).alloc (by first | (simp; done) | (simp; omega)) _
    · rw [decide_eq_false ca] at k1
      rw [decide_eq_false cb] at k2
      have e : joinE 17 (ptV a b) (ptV c d) = (truV true, 0) := by
        show (truV (!decide (a = c ∧ b = d)), (0 : Int)) = _
        simp [ca, cb]
      rw [e]
      have HO := Lib.hid (out_tru true)
      unfold truO at HO
      generalize outV (truV true, 0) = R at *
      clear e ca cb
      go_enter Try.func44, Try.ntmps44
      go_wp2_with (go_at_call 51; refine (truth_any _ _).mono ?_; rintro e w1 ⟨rfl, rfl⟩)
      refine bodyPost_ret ?_ rfl ⟨HO.out.symm, ?_⟩
      · simp [results, Try.results44, go_sem]
      · exact ((((Below.refl _ _).alloc (Nat.le_refl _) _).alloc (by first | (simp; done) | (simp; omega)) _).alloc (by first | (simp; done) | (simp; omega)) _).alloc (by first | (simp; done) | (simp; omega)) _
  have t1 := int_ne h16
  have t2 := int_ne h17
  have e : joinE op (ptV a b) (ptV c d) = pointsE op a b c d := by
    unfold joinE
    rw [if_neg (by simp [ptV]), if_neg h16, if_neg h17]
    rfl
  rw [e]
  have HC := Lib.hid (fun W => ofPoints_any op a b c d W h h1 h2 h3 h4)
  generalize pointsE op a b c d = r at *
  clear e h16 h17 h1 h2 h3 h4
  obtain ⟨k, x, t, c1, c2, er, hf⟩ := out_form (r)
  have HF := Lib.hid hf
  clear hf
  go_enter Try.func44, Try.ntmps44
  go_wp2_with fail
  refine (HC.out _).mono ?_
  rintro e w1 ⟨rfl, hb1⟩
  rw [HF.out]
  obtain ⟨hh, hbw⟩ := fwd4 (show ((w.alloc _).alloc _).heap.size = w.heap.size + 1 + 1 by simp) (((Below.refl _ _).alloc (Nat.le_refl _) _).alloc (by simp) _) hb1
  obtain ⟨d0, d1, d2, d3, f0, f1, f2, f3⟩ := at4 hh
  clear hb1
  go_wp2
  obtain ⟨⟨r0, r1, r2, r3⟩, hbf⟩ := fin4 hh (by omega) hbw (.int .i64 k) (.int .i64 x) (.bool t) (.complex .f64 c1 c2)
  refine bodyPost_ret ?_ rfl ⟨HF.out.symm, hbf⟩
  simp [results, Try.results44, go_sem, r0, r1, r2, r3]

theorem between_any (op : Int) (x y : VA) (w : World) (h : 11 ≤ op ∧ op ≤ 23) (hx : OkV x) (hy : OkV y) :
    Calls Try.prog 44 #[.int .i64 op, opV x, opV y] w fun e w' => e = outV (joinE op x y) ∧ Below w.heap.size w w' := by
  rcases ok_cases hx with ⟨a, h1, rfl⟩ | ⟨p, rfl⟩ | ⟨a, b, h1, h2, rfl⟩ <;> rcases ok_cases hy with ⟨c, h3, rfl⟩ | ⟨q, rfl⟩ | ⟨c, d, h3, h4, rfl⟩
  · rw [opV_num, opV_num]; exact btw_num_num op _ _ w h h1 h3
  · rw [opV_num, opV_tru]; exact btw_num_tru op _ _ w h 
  · rw [opV_num, opV_pt]; exact btw_num_pt op _ _ _ w h 
  · rw [opV_tru, opV_num]; exact btw_tru_num op _ _ w h 
  · rw [opV_tru, opV_tru]; exact btw_tru_tru op _ _ w h 
  · rw [opV_tru, opV_pt]; exact btw_tru_pt op _ _ _ w h 
  · rw [opV_pt, opV_num]; exact btw_pt_num op _ _ _ w h 
  · rw [opV_pt, opV_tru]; exact btw_pt_tru op _ _ _ w h 
  · rw [opV_pt, opV_pt]; exact btw_pt_pt op _ _ _ _ w h h1 h2 h3 h4
theorem ahead_any (op : Int) (x : VA) (w : World) (h : 7 ≤ op ∧ op ≤ 10) (hx : OkV x) :
    Calls Try.prog 43 #[.int .i64 op, opV x] w fun e w' => e = outV (unE op x) ∧ Below w.heap.size w w' := by
  rcases ok_cases hx with ⟨a, h1, rfl⟩ | ⟨p, rfl⟩ | ⟨a, b, h1, h2, rfl⟩
  · rw [opV_num]; exact ahead_num op a w h h1
  · rw [opV_tru]; exact ahead_tru op p w h
  · rw [opV_pt]; exact ahead_pt op a b w h h1 h2
end Go.Proofs.Ytpidikbhjiaogaa
