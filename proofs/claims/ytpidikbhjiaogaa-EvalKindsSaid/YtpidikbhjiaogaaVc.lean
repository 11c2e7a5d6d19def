/- eval.ofNumbers, ofTruths. -/
import Derived.Test.YtpidikbhjiaogaaVb
namespace Go.Proofs.Ytpidikbhjiaogaa
open Go.RowKit

theorem op_bin {o : Int} (h : 11 ≤ o ∧ o ≤ 23) : o = 11 ∨ o = 12 ∨ o = 13 ∨ o = 14 ∨ o = 15 ∨ o = 16 ∨ o = 17 ∨ o = 18 ∨ o = 19 ∨ o = 20 ∨ o = 21 ∨ o = 22 ∨ o = 23 := by omega
theorem op_un {o : Int} (h : 7 ≤ o ∧ o ≤ 10) : o = 7 ∨ o = 8 ∨ o = 9 ∨ o = 10 := by omega
theorem op_leaf {o : Int} (h : 1 ≤ o ∧ o ≤ 6) : o = 1 ∨ o = 2 ∨ o = 3 ∨ o = 4 ∨ o = 5 ∨ o = 6 := by omega

set_option maxHeartbeats 2000000 in
theorem ofNumbers_any (op a b : Int) (w : World) (h : 11 ≤ op ∧ op ≤ 23) (ha : inL a = true) (hb : inL b = true) :
    Calls Try.prog 55 #[.int .i64 op, .int .i64 a, .int .i64 b] w fun e w' => e = outV (numbersE op a b) ∧ Below w.heap.size w w' := by
  rcases op_bin h with rfl | rfl | rfl | rfl | rfl | rfl | rfl | rfl | rfl | rfl | rfl | rfl | rfl
  · have HC := Lib.hid (fun W => sum_any a b W ha hb)
    rw [show numbersE 11 a b = (numE (a + b)) from rfl]
    generalize (numE (a + b)) = p at *
    clear ha hb
    obtain ⟨k, x, t, c1, c2, er, hf⟩ := out_form (p)
    have HF := Lib.hid hf
    clear hf
    go_enter Try.func55, Try.ntmps55
    go_wp2_with fail
    refine (HC.out _).mono ?_
    rintro e w1 ⟨rfl, hb1⟩
    rw [HF.out]
    obtain ⟨hh, hbw⟩ := fwd4 rfl (Below.refl _ _) hb1
    obtain ⟨d0, d1, d2, d3, f0, f1, f2, f3⟩ := at4 hh
    clear hb1
    go_wp2
    obtain ⟨⟨r0, r1, r2, r3⟩, hbf⟩ := fin4 hh (Nat.le_refl _) hbw (.int .i64 k) (.int .i64 x) (.bool t) (.complex .f64 c1 c2)
    refine bodyPost_ret ?_ rfl ⟨HF.out.symm, hbf⟩
    simp [results, Try.results55, go_sem, r0, r1, r2, r3]
  · have HC := Lib.hid (fun W => less_any a b W ha hb)
    rw [show numbersE 12 a b = (numE (a - b)) from rfl]
    generalize (numE (a - b)) = p at *
    clear ha hb
    obtain ⟨k, x, t, c1, c2, er, hf⟩ := out_form (p)
    have HF := Lib.hid hf
    clear hf
    go_enter Try.func55, Try.ntmps55
    go_wp2_with fail
    refine (HC.out _).mono ?_
    rintro e w1 ⟨rfl, hb1⟩
    rw [HF.out]
    obtain ⟨hh, hbw⟩ := fwd4 rfl (Below.refl _ _) hb1
    obtain ⟨d0, d1, d2, d3, f0, f1, f2, f3⟩ := at4 hh
    clear hb1
    go_wp2
    obtain ⟨⟨r0, r1, r2, r3⟩, hbf⟩ := fin4 hh (Nat.le_refl _) hbw (.int .i64 k) (.int .i64 x) (.bool t) (.complex .f64 c1 c2)
    refine bodyPost_ret ?_ rfl ⟨HF.out.symm, hbf⟩
    simp [results, Try.results55, go_sem, r0, r1, r2, r3]
  · have HC := Lib.hid (fun W => product_any a b W ha hb)
    rw [show numbersE 13 a b = (numE (a * b)) from rfl]
    generalize (numE (a * b)) = p at *
    clear ha hb
    obtain ⟨k, x, t, c1, c2, er, hf⟩ := out_form (p)
    have HF := Lib.hid hf
    clear hf
    go_enter Try.func55, Try.ntmps55
    go_wp2_with fail
    refine (HC.out _).mono ?_
    rintro e w1 ⟨rfl, hb1⟩
    rw [HF.out]
    obtain ⟨hh, hbw⟩ := fwd4 rfl (Below.refl _ _) hb1
    obtain ⟨d0, d1, d2, d3, f0, f1, f2, f3⟩ := at4 hh
    clear hb1
    go_wp2
    obtain ⟨⟨r0, r1, r2, r3⟩, hbf⟩ := fin4 hh (Nat.le_refl _) hbw (.int .i64 k) (.int .i64 x) (.bool t) (.complex .f64 c1 c2)
    refine bodyPost_ret ?_ rfl ⟨HF.out.symm, hbf⟩
    simp [results, Try.results55, go_sem, r0, r1, r2, r3]
  · have HC := Lib.hid (fun W => quotient_any a b W ha hb)
    rw [show numbersE 14 a b = (if b = 0 then erV 6 else numE (a.tdiv b)) from rfl]
    generalize (if b = 0 then erV 6 else numE (a.tdiv b)) = p at *
    clear ha hb
    obtain ⟨k, x, t, c1, c2, er, hf⟩ := out_form (p)
    have HF := Lib.hid hf
    clear hf
    go_enter Try.func55, Try.ntmps55
    go_wp2_with fail
    refine (HC.out _).mono ?_
    rintro e w1 ⟨rfl, hb1⟩
    rw [HF.out]
    obtain ⟨hh, hbw⟩ := fwd4 rfl (Below.refl _ _) hb1
    obtain ⟨d0, d1, d2, d3, f0, f1, f2, f3⟩ := at4 hh
    clear hb1
    go_wp2
    obtain ⟨⟨r0, r1, r2, r3⟩, hbf⟩ := fin4 hh (Nat.le_refl _) hbw (.int .i64 k) (.int .i64 x) (.bool t) (.complex .f64 c1 c2)
    refine bodyPost_ret ?_ rfl ⟨HF.out.symm, hbf⟩
    simp [results, Try.results55, go_sem, r0, r1, r2, r3]
  · have HC := Lib.hid (fun W => rest_any a b W ha)
    rw [show numbersE 15 a b = (if b = 0 then erV 6 else (numV (a.tmod b), 0)) from rfl]
    generalize (if b = 0 then erV 6 else (numV (a.tmod b), 0)) = p at *
    clear ha hb
    obtain ⟨k, x, t, c1, c2, er, hf⟩ := out_form (p)
    have HF := Lib.hid hf
    clear hf
    go_enter Try.func55, Try.ntmps55
    go_wp2_with fail
    refine (HC.out _).mono ?_
    rintro e w1 ⟨rfl, hb1⟩
    rw [HF.out]
    obtain ⟨hh, hbw⟩ := fwd4 rfl (Below.refl _ _) hb1
    obtain ⟨d0, d1, d2, d3, f0, f1, f2, f3⟩ := at4 hh
    clear hb1
    go_wp2
    obtain ⟨⟨r0, r1, r2, r3⟩, hbf⟩ := fin4 hh (Nat.le_refl _) hbw (.int .i64 k) (.int .i64 x) (.bool t) (.complex .f64 c1 c2)
    refine bodyPost_ret ?_ rfl ⟨HF.out.symm, hbf⟩
    simp [results, Try.results55, go_sem, r0, r1, r2, r3]
  · have HO := Lib.hid (out_er 8)
    unfold zeroO at HO
    rw [show numbersE 16 a b = erV 8 from rfl]
    generalize outV (erV 8) = R at *
    clear ha hb
    go_enter Try.func55, Try.ntmps55
    go_wp2
    refine bodyPost_ret ?_ rfl ⟨HO.out.symm, ?_⟩
    · simp [results, Try.results55, go_sem]
    · exact (Below.refl _ _).alloc (Nat.le_refl _) _
  · have HO := Lib.hid (out_er 8)
    unfold zeroO at HO
    rw [show numbersE 17 a b = erV 8 from rfl]
    generalize outV (erV 8) = R at *
    clear ha hb
    go_enter Try.func55, Try.ntmps55
    go_wp2
    refine bodyPost_ret ?_ rfl ⟨HO.out.symm, ?_⟩
    · simp [results, Try.results55, go_sem]
    · exact (Below.refl _ _).alloc (Nat.le_refl _) _
  · have HO := Lib.hid (out_tru (decide (a < b)))
    unfold truO at HO
    rw [show numbersE 18 a b = (truV (decide (a < b)), 0) from rfl]
    generalize outV (truV (decide (a < b)), 0) = R at *
    clear ha hb
    go_enter Try.func55, Try.ntmps55
    go_wp2_with (go_at_call 51; refine (truth_any _ _).mono ?_; rintro e w1 ⟨rfl, rfl⟩)
    refine bodyPost_ret ?_ rfl ⟨HO.out.symm, ?_⟩
    · simp [results, Try.results55, go_sem]
    · exact ((Below.refl _ _).alloc (Nat.le_refl _) _).alloc (by simp) _
  · have HO := Lib.hid (out_tru (decide (a ≤ b)))
    unfold truO at HO
    rw [show numbersE 19 a b = (truV (decide (a ≤ b)), 0) from rfl]
    generalize outV (truV (decide (a ≤ b)), 0) = R at *
    clear ha hb
    go_enter Try.func55, Try.ntmps55
    go_wp2_with (go_at_call 51; refine (truth_any _ _).mono ?_; rintro e w1 ⟨rfl, rfl⟩)
    refine bodyPost_ret ?_ rfl ⟨HO.out.symm, ?_⟩
    · simp [results, Try.results55, go_sem]
    · exact ((Below.refl _ _).alloc (Nat.le_refl _) _).alloc (by simp) _
  · have HO := Lib.hid (out_tru (decide (b < a)))
    unfold truO at HO
    rw [show numbersE 20 a b = (truV (decide (b < a)), 0) from rfl]
    generalize outV (truV (decide (b < a)), 0) = R at *
    clear ha hb
    go_enter Try.func55, Try.ntmps55
    go_wp2_with (go_at_call 51; refine (truth_any _ _).mono ?_; rintro e w1 ⟨rfl, rfl⟩)
    refine bodyPost_ret ?_ rfl ⟨HO.out.symm, ?_⟩
    · simp [results, Try.results55, go_sem]
    · exact ((Below.refl _ _).alloc (Nat.le_refl _) _).alloc (by simp) _
  · have HO := Lib.hid (out_tru (decide (b ≤ a)))
    unfold truO at HO
    rw [show numbersE 21 a b = (truV (decide (b ≤ a)), 0) from rfl]
    generalize outV (truV (decide (b ≤ a)), 0) = R at *
    clear ha hb
    go_enter Try.func55, Try.ntmps55
    go_wp2_with (go_at_call 51; refine (truth_any _ _).mono ?_; rintro e w1 ⟨rfl, rfl⟩)
    refine bodyPost_ret ?_ rfl ⟨HO.out.symm, ?_⟩
    · simp [results, Try.results55, go_sem]
    · exact ((Below.refl _ _).alloc (Nat.le_refl _) _).alloc (by simp) _
  · have HO := Lib.hid (out_er 8)
    unfold zeroO at HO
    rw [show numbersE 22 a b = erV 8 from rfl]
    generalize outV (erV 8) = R at *
    clear ha hb
    go_enter Try.func55, Try.ntmps55
    go_wp2
    refine bodyPost_ret ?_ rfl ⟨HO.out.symm, ?_⟩
    · simp [results, Try.results55, go_sem]
    · exact (Below.refl _ _).alloc (Nat.le_refl _) _
  · have HO := Lib.hid (out_er 8)
    unfold zeroO at HO
    rw [show numbersE 23 a b = erV 8 from rfl]
    generalize outV (erV 8) = R at *
    clear ha hb
    go_enter Try.func55, Try.ntmps55
    go_wp2
    refine bodyPost_ret ?_ rfl ⟨HO.out.symm, ?_⟩
    · simp [results, Try.results55, go_sem]
    · exact (Below.refl _ _).alloc (Nat.le_refl _) _

set_option maxHeartbeats 2000000 in
theorem ofTruths_any (op : Int) (a b : Bool) (w : World) (h : 11 ≤ op ∧ op ≤ 23) :
    Calls Try.prog 56 #[.int .i64 op, .bool a, .bool b] w fun e w' => e = outV (truthsE op a b) ∧ Below w.heap.size w w' := by
  rcases op_bin h with rfl | rfl | rfl | rfl | rfl | rfl | rfl | rfl | rfl | rfl | rfl | rfl | rfl
  · have HO := Lib.hid (out_er 8)
    unfold zeroO at HO
    rw [show truthsE 11 a b = erV 8 from rfl]
    generalize outV (erV 8) = R at *
    go_enter Try.func56, Try.ntmps56
    go_wp2
    refine bodyPost_ret ?_ rfl ⟨HO.out.symm, ?_⟩
    · simp [results, Try.results56, go_sem]
    · exact (Below.refl _ _).alloc (Nat.le_refl _) _
  · have HO := Lib.hid (out_er 8)
    unfold zeroO at HO
    rw [show truthsE 12 a b = erV 8 from rfl]
    generalize outV (erV 8) = R at *
    go_enter Try.func56, Try.ntmps56
    go_wp2
    refine bodyPost_ret ?_ rfl ⟨HO.out.symm, ?_⟩
    · simp [results, Try.results56, go_sem]
    · exact (Below.refl _ _).alloc (Nat.le_refl _) _
  · have HO := Lib.hid (out_er 8)
    unfold zeroO at HO
    rw [show truthsE 13 a b = erV 8 from rfl]
    generalize outV (erV 8) = R at *
    go_enter Try.func56, Try.ntmps56
    go_wp2
    refine bodyPost_ret ?_ rfl ⟨HO.out.symm, ?_⟩
    · simp [results, Try.results56, go_sem]
    · exact (Below.refl _ _).alloc (Nat.le_refl _) _
  · have HO := Lib.hid (out_er 8)
    unfold zeroO at HO
    rw [show truthsE 14 a b = erV 8 from rfl]
    generalize outV (erV 8) = R at *
    go_enter Try.func56, Try.ntmps56
    go_wp2
    refine bodyPost_ret ?_ rfl ⟨HO.out.symm, ?_⟩
    · simp [results, Try.results56, go_sem]
    · exact (Below.refl _ _).alloc (Nat.le_refl _) _
  · have HO := Lib.hid (out_er 8)
    unfold zeroO at HO
    rw [show truthsE 15 a b = erV 8 from rfl]
    generalize outV (erV 8) = R at *
    go_enter Try.func56, Try.ntmps56
    go_wp2
    refine bodyPost_ret ?_ rfl ⟨HO.out.symm, ?_⟩
    · simp [results, Try.results56, go_sem]
    · exact (Below.refl _ _).alloc (Nat.le_refl _) _
  · have HO := Lib.hid (out_er 8)
    unfold zeroO at HO
    rw [show truthsE 16 a b = erV 8 from rfl]
    generalize outV (erV 8) = R at *
    go_enter Try.func56, Try.ntmps56
    go_wp2
    refine bodyPost_ret ?_ rfl ⟨HO.out.symm, ?_⟩
    · simp [results, Try.results56, go_sem]
    · exact (Below.refl _ _).alloc (Nat.le_refl _) _
  · have HO := Lib.hid (out_er 8)
    unfold zeroO at HO
    rw [show truthsE 17 a b = erV 8 from rfl]
    generalize outV (erV 8) = R at *
    go_enter Try.func56, Try.ntmps56
    go_wp2
    refine bodyPost_ret ?_ rfl ⟨HO.out.symm, ?_⟩
    · simp [results, Try.results56, go_sem]
    · exact (Below.refl _ _).alloc (Nat.le_refl _) _
  · have HO := Lib.hid (out_er 8)
    unfold zeroO at HO
    rw [show truthsE 18 a b = erV 8 from rfl]
    generalize outV (erV 8) = R at *
    go_enter Try.func56, Try.ntmps56
    go_wp2
    refine bodyPost_ret ?_ rfl ⟨HO.out.symm, ?_⟩
    · simp [results, Try.results56, go_sem]
    · exact (Below.refl _ _).alloc (Nat.le_refl _) _
  · have HO := Lib.hid (out_er 8)
    unfold zeroO at HO
    rw [show truthsE 19 a b = erV 8 from rfl]
    generalize outV (erV 8) = R at *
    go_enter Try.func56, Try.ntmps56
    go_wp2
    refine bodyPost_ret ?_ rfl ⟨HO.out.symm, ?_⟩
    · simp [results, Try.results56, go_sem]
    · exact (Below.refl _ _).alloc (Nat.le_refl _) _
  · have HO := Lib.hid (out_er 8)
    unfold zeroO at HO
    rw [show truthsE 20 a b = erV 8 from rfl]
    generalize outV (erV 8) = R at *
    go_enter Try.func56, Try.ntmps56
    go_wp2
    refine bodyPost_ret ?_ rfl ⟨HO.out.symm, ?_⟩
    · simp [results, Try.results56, go_sem]
    · exact (Below.refl _ _).alloc (Nat.le_refl _) _
  · have HO := Lib.hid (out_er 8)
    unfold zeroO at HO
    rw [show truthsE 21 a b = erV 8 from rfl]
    generalize outV (erV 8) = R at *
    go_enter Try.func56, Try.ntmps56
    go_wp2
    refine bodyPost_ret ?_ rfl ⟨HO.out.symm, ?_⟩
    · simp [results, Try.results56, go_sem]
    · exact (Below.refl _ _).alloc (Nat.le_refl _) _
  · cases a <;> cases b
    · have HO := Lib.hid (out_tru false)
      unfold truO at HO
      rw [show truthsE 22 false false = (truV false, 0) from rfl]
      generalize outV (truV false, 0) = R at *
      go_enter Try.func56, Try.ntmps56
      go_wp2_with (go_at_call 51; refine (truth_any _ _).mono ?_; rintro e w1 ⟨rfl, rfl⟩)
      refine bodyPost_ret ?_ rfl ⟨HO.out.symm, ?_⟩
      · simp [results, Try.results56, go_sem]
      · exact ((Below.refl _ _).alloc (Nat.le_refl _) _).alloc (by simp) _
    · have HO := Lib.hid (out_tru false)
      unfold truO at HO
      rw [show truthsE 22 false true = (truV false, 0) from rfl]
      generalize outV (truV false, 0) = R at *
      go_enter Try.func56, Try.ntmps56
      go_wp2_with (go_at_call 51; refine (truth_any _ _).mono ?_; rintro e w1 ⟨rfl, rfl⟩)
      refine bodyPost_ret ?_ rfl ⟨HO.out.symm, ?_⟩
      · simp [results, Try.results56, go_sem]
      · exact ((Below.refl _ _).alloc (Nat.le_refl _) _).alloc (by simp) _
    · have HO := Lib.hid (out_tru false)
      unfold truO at HO
      rw [show truthsE 22 true false = (truV false, 0) from rfl]
      generalize outV (truV false, 0) = R at *
      go_enter Try.func56, Try.ntmps56
      go_wp2_with (go_at_call 51; refine (truth_any _ _).mono ?_; rintro e w1 ⟨rfl, rfl⟩)
      refine bodyPost_ret ?_ rfl ⟨HO.out.symm, ?_⟩
      · simp [results, Try.results56, go_sem]
      · exact ((Below.refl _ _).alloc (Nat.le_refl _) _).alloc (by simp) _
    · have HO := Lib.hid (out_tru true)
      unfold truO at HO
      rw [show truthsE 22 true true = (truV true, 0) from rfl]
      generalize outV (truV true, 0) = R at *
      go_enter Try.func56, Try.ntmps56
      go_wp2_with (go_at_call 51; refine (truth_any _ _).mono ?_; rintro e w1 ⟨rfl, rfl⟩)
      refine bodyPost_ret ?_ rfl ⟨HO.out.symm, ?_⟩
      · simp [results, Try.results56, go_sem]
      · exact ((Below.refl _ _).alloc (Nat.le_refl _) _).alloc (by simp) _
  · cases a <;> cases b
    · have HO := Lib.hid (out_tru false)
      unfold truO at HO
      rw [show truthsE 23 false false = (truV false, 0) from rfl]
      generalize outV (truV false, 0) = R at *
      go_enter Try.func56, Try.ntmps56
      go_wp2_with (go_at_call 51; refine (truth_any _ _).mono ?_; rintro e w1 ⟨rfl, rfl⟩)
      refine bodyPost_ret ?_ rfl ⟨HO.out.symm, ?_⟩
      · simp [results, Try.results56, go_sem]
      · exact ((Below.refl _ _).alloc (Nat.le_refl _) _).alloc (by simp) _
    · have HO := Lib.hid (out_tru true)
      unfold truO at HO
      rw [show truthsE 23 false true = (truV true, 0) from rfl]
      generalize outV (truV true, 0) = R at *
      go_enter Try.func56, Try.ntmps56
      go_wp2_with (go_at_call 51; refine (truth_any _ _).mono ?_; rintro e w1 ⟨rfl, rfl⟩)
      refine bodyPost_ret ?_ rfl ⟨HO.out.symm, ?_⟩
      · simp [results, Try.results56, go_sem]
      · exact ((Below.refl _ _).alloc (Nat.le_refl _) _).alloc (by simp) _
    · have HO := Lib.hid (out_tru true)
      unfold truO at HO
      rw [show truthsE 23 true false = (truV true, 0) from rfl]
      generalize outV (truV true, 0) = R at *
      go_enter Try.func56, Try.ntmps56
      go_wp2_with (go_at_call 51; refine (truth_any _ _).mono ?_; rintro e w1 ⟨rfl, rfl⟩)
      refine bodyPost_ret ?_ rfl ⟨HO.out.symm, ?_⟩
      · simp [results, Try.results56, go_sem]
      · exact ((Below.refl _ _).alloc (Nat.le_refl _) _).alloc (by simp) _
    · have HO := Lib.hid (out_tru true)
      unfold truO at HO
      rw [show truthsE 23 true true = (truV true, 0) from rfl]
      generalize outV (truV true, 0) = R at *
      go_enter Try.func56, Try.ntmps56
      go_wp2_with (go_at_call 51; refine (truth_any _ _).mono ?_; rintro e w1 ⟨rfl, rfl⟩)
      refine bodyPost_ret ?_ rfl ⟨HO.out.symm, ?_⟩
      · simp [results, Try.results56, go_sem]
      · exact ((Below.refl _ _).alloc (Nat.le_refl _) _).alloc (by simp) _
end Go.Proofs.Ytpidikbhjiaogaa
