/- Own texts, joined: Vc, Vp. -/
import Derived.Test.YtjgfkmakfdepcaaGreatDoorP11
namespace Go.Proofs.YtjgfkmakfdepcaaGreatDoor
open Go.RowKit

theorem op_bin {o : Int} (h : 11 ≤ o ∧ o ≤ 23) : o = 11 ∨ o = 12 ∨ o = 13 ∨ o = 14 ∨ o = 15 ∨ o = 16 ∨ o = 17 ∨ o = 18 ∨ o = 19 ∨ o = 20 ∨ o = 21 ∨ o = 22 ∨ o = 23 := by omega
theorem op_un {o : Int} (h : 7 ≤ o ∧ o ≤ 10) : o = 7 ∨ o = 8 ∨ o = 9 ∨ o = 10 := by omega
theorem op_leaf {o : Int} (h : 1 ≤ o ∧ o ≤ 6) : o = 1 ∨ o = 2 ∨ o = 3 ∨ o = 4 ∨ o = 5 ∨ o = 6 := by omega

set_option maxHeartbeats 2000000 in
theorem ofNumbers_any (op a b : Int) (w : World) (h : 11 ≤ op ∧ op ≤ 23) (ha : inL a = true) (hb : inL b = true) :
    Calls Tryz.prog 147 #[.int .i64 op, .int .i64 a, .int .i64 b] w fun e w' => e = outV (numbersE op a b) ∧ Below w.heap.size w w' := by
  rcases op_bin h with rfl | rfl | rfl | rfl | rfl | rfl | rfl | rfl | rfl | rfl | rfl | rfl | rfl
  · have HC := Lib.hid (fun W => sum_any a b W ha hb)
    rw [show numbersE 11 a b = (numE (a + b)) from rfl]
    generalize (numE (a + b)) = p at *
    clear ha hb
    obtain ⟨k, x, t, c1, c2, er, hf⟩ := out_form (p)
    have HF := Lib.hid hf
    clear hf
    go_enter Tryz.func147, Tryz.ntmps147
    go_wp2_with fail
    refine (HC.out _).mono ?_
    rintro e w1 ⟨rfl, hb1⟩
    rw [HF.out]
    obtain ⟨hh, hbw⟩ := fwd4 rfl (Below.refl _ _) hb1
    obtain ⟨d0, d1, d2, d3, f0, f1, f2, f3⟩ := at4 hh
    clear hb1
    go_wp2
    obtain ⟨⟨r0, r1, r2, r3⟩, hbf⟩ := fin4 hh (Nat.le_refl _) hbw (.int .i64 k) (.int .i64 x) (.bool t) (.complex .f64 c1 c2)
    refine bodyPost_ret ?_ rfl ⟨HF.out.symm, hbf⟩
    simp [results, Tryz.results147, go_sem, r0, r1, r2, r3]
  · have HC := Lib.hid (fun W => less_any a b W ha hb)
    rw [show numbersE 12 a b = (numE (a - b)) from rfl]
    generalize (numE (a - b)) = p at *
    clear ha hb
    obtain ⟨k, x, t, c1, c2, er, hf⟩ := out_form (p)
    have HF := Lib.hid hf
    clear hf
    go_enter Tryz.func147, Tryz.ntmps147
    go_wp2_with fail
    refine (HC.out _).mono ?_
    rintro e w1 ⟨rfl, hb1⟩
    rw [HF.out]
    obtain ⟨hh, hbw⟩ := fwd4 rfl (Below.refl _ _) hb1
    obtain ⟨d0, d1, d2, d3, f0, f1, f2, f3⟩ := at4 hh
    clear hb1
    go_wp2
    obtain ⟨⟨r0, r1, r2, r3⟩, hbf⟩ := fin4 hh (Nat.le_refl _) hbw (.int .i64 k) (.int .i64 x) (.bool t) (.complex .f64 c1 c2)
    refine bodyPost_ret ?_ rfl ⟨HF.out.symm, hbf⟩
    simp [results, Tryz.results147, go_sem, r0, r1, r2, r3]
  · have HC := Lib.hid (fun W => product_any a b W ha hb)
    rw [show numbersE 13 a b = (numE (a * b)) from rfl]
    generalize (numE (a * b)) = p at *
    clear ha hb
    obtain ⟨k, x, t, c1, c2, er, hf⟩ := out_form (p)
    have HF := Lib.hid hf
    clear hf
    go_enter Tryz.func147, Tryz.ntmps147
    go_wp2_with fail
    refine (HC.out _).mono ?_
    rintro e w1 ⟨rfl, hb1⟩
    rw [HF.out]
    obtain ⟨hh, hbw⟩ := fwd4 rfl (Below.refl _ _) hb1
    obtain ⟨d0, d1, d2, d3, f0, f1, f2, f3⟩ := at4 hh
    clear hb1
    go_wp2
    obtain ⟨⟨r0, r1, r2, r3⟩, hbf⟩ := fin4 hh (Nat.le_refl _) hbw (.int .i64 k) (.int .i64 x) (.bool t) (.complex .f64 c1 c2)
    refine bodyPost_ret ?_ rfl ⟨HF.out.symm, hbf⟩
    simp [results, Tryz.results147, go_sem, r0, r1, r2, r3]
  · have HC := Lib.hid (fun W => quotient_any a b W ha hb)
    rw [show numbersE 14 a b = (if b = 0 then erV 6 else numE (a.tdiv b)) from rfl]
    generalize (if b = 0 then erV 6 else numE (a.tdiv b)) = p at *
    clear ha hb
    obtain ⟨k, x, t, c1, c2, er, hf⟩ := out_form (p)
    have HF := Lib.hid hf
    clear hf
    go_enter Tryz.func147, Tryz.ntmps147
    go_wp2_with fail
    refine (HC.out _).mono ?_
    rintro e w1 ⟨rfl, hb1⟩
    rw [HF.out]
    obtain ⟨hh, hbw⟩ := fwd4 rfl (Below.refl _ _) hb1
    obtain ⟨d0, d1, d2, d3, f0, f1, f2, f3⟩ := at4 hh
    clear hb1
    go_wp2
    obtain ⟨⟨r0, r1, r2, r3⟩, hbf⟩ := fin4 hh (Nat.le_refl _) hbw (.int .i64 k) (.int .i64 x) (.bool t) (.complex .f64 c1 c2)
    refine bodyPost_ret ?_ rfl ⟨HF.out.symm, hbf⟩
    simp [results, Tryz.results147, go_sem, r0, r1, r2, r3]
  · have HC := Lib.hid (fun W => rest_any a b W ha)
    rw [show numbersE 15 a b = (if b = 0 then erV 6 else (numV (a.tmod b), 0)) from rfl]
    generalize (if b = 0 then erV 6 else (numV (a.tmod b), 0)) = p at *
    clear ha hb
    obtain ⟨k, x, t, c1, c2, er, hf⟩ := out_form (p)
    have HF := Lib.hid hf
    clear hf
    go_enter Tryz.func147, Tryz.ntmps147
    go_wp2_with fail
    refine (HC.out _).mono ?_
    rintro e w1 ⟨rfl, hb1⟩
    rw [HF.out]
    obtain ⟨hh, hbw⟩ := fwd4 rfl (Below.refl _ _) hb1
    obtain ⟨d0, d1, d2, d3, f0, f1, f2, f3⟩ := at4 hh
    clear hb1
    go_wp2
    obtain ⟨⟨r0, r1, r2, r3⟩, hbf⟩ := fin4 hh (Nat.le_refl _) hbw (.int .i64 k) (.int .i64 x) (.bool t) (.complex .f64 c1 c2)
    refine bodyPost_ret ?_ rfl ⟨HF.out.symm, hbf⟩
    simp [results, Tryz.results147, go_sem, r0, r1, r2, r3]
  · have HO := Lib.hid (out_er 8)
    unfold zeroO at HO
    rw [show numbersE 16 a b = erV 8 from rfl]
    generalize outV (erV 8) = R at *
    clear ha hb
    go_enter Tryz.func147, Tryz.ntmps147
    go_wp2
    refine bodyPost_ret ?_ rfl ⟨HO.out.symm, ?_⟩
    · simp [results, Tryz.results147, go_sem]
    · exact (Below.refl _ _).alloc (Nat.le_refl _) _
  · have HO := Lib.hid (out_er 8)
    unfold zeroO at HO
    rw [show numbersE 17 a b = erV 8 from rfl]
    generalize outV (erV 8) = R at *
    clear ha hb
    go_enter Tryz.func147, Tryz.ntmps147
    go_wp2
    refine bodyPost_ret ?_ rfl ⟨HO.out.symm, ?_⟩
    · simp [results, Tryz.results147, go_sem]
    · exact (Below.refl _ _).alloc (Nat.le_refl _) _
  · have HO := Lib.hid (out_tru (decide (a < b)))
    unfold truO at HO
    rw [show numbersE 18 a b = (truV (decide (a < b)), 0) from rfl]
    generalize outV (truV (decide (a < b)), 0) = R at *
    clear ha hb
    go_enter Tryz.func147, Tryz.ntmps147
    go_wp2_with (go_at_call 143; refine (truth_any _ _).mono ?_; rintro e w1 ⟨rfl, rfl⟩)
    refine bodyPost_ret ?_ rfl ⟨HO.out.symm, ?_⟩
    · simp [results, Tryz.results147, go_sem]
    · exact ((Below.refl _ _).alloc (Nat.le_refl _) _).alloc (by simp) _
  · have HO := Lib.hid (out_tru (decide (a ≤ b)))
    unfold truO at HO
    rw [show numbersE 19 a b = (truV (decide (a ≤ b)), 0) from rfl]
    generalize outV (truV (decide (a ≤ b)), 0) = R at *
    clear ha hb
    go_enter Tryz.func147, Tryz.ntmps147
    go_wp2_with (go_at_call 143; refine (truth_any _ _).mono ?_; rintro e w1 ⟨rfl, rfl⟩)
    refine bodyPost_ret ?_ rfl ⟨HO.out.symm, ?_⟩
    · simp [results, Tryz.results147, go_sem]
    · exact ((Below.refl _ _).alloc (Nat.le_refl _) _).alloc (by simp) _
  · have HO := Lib.hid (out_tru (decide (b < a)))
    unfold truO at HO
    rw [show numbersE 20 a b = (truV (decide (b < a)), 0) from rfl]
    generalize outV (truV (decide (b < a)), 0) = R at *
    clear ha hb
    go_enter Tryz.func147, Tryz.ntmps147
    go_wp2_with (go_at_call 143; refine (truth_any _ _).mono ?_; rintro e w1 ⟨rfl, rfl⟩)
    refine bodyPost_ret ?_ rfl ⟨HO.out.symm, ?_⟩
    · simp [results, Tryz.results147, go_sem]
    · exact ((Below.refl _ _).alloc (Nat.le_refl _) _).alloc (by simp) _
  · have HO := Lib.hid (out_tru (decide (b ≤ a)))
    unfold truO at HO
    rw [show numbersE 21 a b = (truV (decide (b ≤ a)), 0) from rfl]
    generalize outV (truV (decide (b ≤ a)), 0) = R at *
    clear ha hb
    go_enter Tryz.func147, Tryz.ntmps147
    go_wp2_with (go_at_call 143; refine (truth_any _ _).mono ?_; rintro e w1 ⟨rfl, rfl⟩)
    refine bodyPost_ret ?_ rfl ⟨HO.out.symm, ?_⟩
    · simp [results, Tryz.results147, go_sem]
    · exact ((Below.refl _ _).alloc (Nat.le_refl _) _).alloc (by simp) _
  · have HO := Lib.hid (out_er 8)
    unfold zeroO at HO
    rw [show numbersE 22 a b = erV 8 from rfl]
    generalize outV (erV 8) = R at *
    clear ha hb
    go_enter Tryz.func147, Tryz.ntmps147
    go_wp2
    refine bodyPost_ret ?_ rfl ⟨HO.out.symm, ?_⟩
    · simp [results, Tryz.results147, go_sem]
    · exact (Below.refl _ _).alloc (Nat.le_refl _) _
  · have HO := Lib.hid (out_er 8)
    unfold zeroO at HO
    rw [show numbersE 23 a b = erV 8 from rfl]
    generalize outV (erV 8) = R at *
    clear ha hb
    go_enter Tryz.func147, Tryz.ntmps147
    go_wp2
    refine bodyPost_ret ?_ rfl ⟨HO.out.symm, ?_⟩
    · simp [results, Tryz.results147, go_sem]
    · exact (Below.refl _ _).alloc (Nat.le_refl _) _

set_option maxHeartbeats 2000000 in
theorem ofTruths_any (op : Int) (a b : Bool) (w : World) (h : 11 ≤ op ∧ op ≤ 23) :
    Calls Tryz.prog 148 #[.int .i64 op, .bool a, .bool b] w fun e w' => e = outV (truthsE op a b) ∧ Below w.heap.size w w' := by
  rcases op_bin h with rfl | rfl | rfl | rfl | rfl | rfl | rfl | rfl | rfl | rfl | rfl | rfl | rfl
  · have HO := Lib.hid (out_er 8)
    unfold zeroO at HO
    rw [show truthsE 11 a b = erV 8 from rfl]
    generalize outV (erV 8) = R at *
    go_enter Tryz.func148, Tryz.ntmps148
    go_wp2
    refine bodyPost_ret ?_ rfl ⟨HO.out.symm, ?_⟩
    · simp [results, Tryz.results148, go_sem]
    · exact (Below.refl _ _).alloc (Nat.le_refl _) _
  · have HO := Lib.hid (out_er 8)
    unfold zeroO at HO
    rw [show truthsE 12 a b = erV 8 from rfl]
    generalize outV (erV 8) = R at *
    go_enter Tryz.func148, Tryz.ntmps148
    go_wp2
    refine bodyPost_ret ?_ rfl ⟨HO.out.symm, ?_⟩
    · simp [results, Tryz.results148, go_sem]
    · exact (Below.refl _ _).alloc (Nat.le_refl _) _
  · have HO := Lib.hid (out_er 8)
    unfold zeroO at HO
    rw [show truthsE 13 a b = erV 8 from rfl]
    generalize outV (erV 8) = R at *
    go_enter Tryz.func148, Tryz.ntmps148
    go_wp2
    refine bodyPost_ret ?_ rfl ⟨HO.out.symm, ?_⟩
    · simp [results, Tryz.results148, go_sem]
    · exact (Below.refl _ _).alloc (Nat.le_refl _) _
  · have HO := Lib.hid (out_er 8)
    unfold zeroO at HO
    rw [show truthsE 14 a b = erV 8 from rfl]
    generalize outV (erV 8) = R at *
    go_enter Tryz.func148, Tryz.ntmps148
    go_wp2
    refine bodyPost_ret ?_ rfl ⟨HO.out.symm, ?_⟩
    · simp [results, Tryz.results148, go_sem]
    · exact (Below.refl _ _).alloc (Nat.le_refl _) _
  · have HO := Lib.hid (out_er 8)
    unfold zeroO at HO
    rw [show truthsE 15 a b = erV 8 from rfl]
    generalize outV (erV 8) = R at *
    go_enter Tryz.func148, Tryz.ntmps148
    go_wp2
    refine bodyPost_ret ?_ rfl ⟨HO.out.symm, ?_⟩
    · simp [results, Tryz.results148, go_sem]
    · exact (Below.refl _ _).alloc (Nat.le_refl _) _
  · have HO := Lib.hid (out_er 8)
    unfold zeroO at HO
    rw [show truthsE 16 a b = erV 8 from rfl]
    generalize outV (erV 8) = R at *
    go_enter Tryz.func148, Tryz.ntmps148
    go_wp2
    refine bodyPost_ret ?_ rfl ⟨HO.out.symm, ?_⟩
    · simp [results, Tryz.results148, go_sem]
    · exact (Below.refl _ _).alloc (Nat.le_refl _) _
  · have HO := Lib.hid (out_er 8)
    unfold zeroO at HO
    rw [show truthsE 17 a b = erV 8 from rfl]
    generalize outV (erV 8) = R at *
    go_enter Tryz.func148, Tryz.ntmps148
    go_wp2
    refine bodyPost_ret ?_ rfl ⟨HO.out.symm, ?_⟩
    · simp [results, Tryz.results148, go_sem]
    · exact (Below.refl _ _).alloc (Nat.le_refl _) _
  · have HO := Lib.hid (out_er 8)
    unfold zeroO at HO
    rw [show truthsE 18 a b = erV 8 from rfl]
    generalize outV (erV 8) = R at *
    go_enter Tryz.func148, Tryz.ntmps148
    go_wp2
    refine bodyPost_ret ?_ rfl ⟨HO.out.symm, ?_⟩
    · simp [results, Tryz.results148, go_sem]
    · exact (Below.refl _ _).alloc (Nat.le_refl _) _
  · have HO := Lib.hid (out_er 8)
    unfold zeroO at HO
    rw [show truthsE 19 a b = erV 8 from rfl]
    generalize outV (erV 8) = R at *
    go_enter Tryz.func148, Tryz.ntmps148
    go_wp2
    refine bodyPost_ret ?_ rfl ⟨HO.out.symm, ?_⟩
    · simp [results, Tryz.results148, go_sem]
    · exact (Below.refl _ _).alloc (Nat.le_refl _) _
  · have HO := Lib.hid (out_er 8)
    unfold zeroO at HO
    rw [show truthsE 20 a b = erV 8 from rfl]
    generalize outV (erV 8) = R at *
    go_enter Tryz.func148, Tryz.ntmps148
    go_wp2
    refine bodyPost_ret ?_ rfl ⟨HO.out.symm, ?_⟩
    · simp [results, Tryz.results148, go_sem]
    · exact (Below.refl _ _).alloc (Nat.le_refl _) _
  · have HO := Lib.hid (out_er 8)
    unfold zeroO at HO
    rw [show truthsE 21 a b = erV 8 from rfl]
    generalize outV (erV 8) = R at *
    go_enter Tryz.func148, Tryz.ntmps148
    go_wp2
    refine bodyPost_ret ?_ rfl ⟨HO.out.symm, ?_⟩
    · simp [results, Tryz.results148, go_sem]
    · exact (Below.refl _ _).alloc (Nat.le_refl _) _
  · cases a <;> cases b
    · have HO := Lib.hid (out_tru false)
      unfold truO at HO
      rw [show truthsE 22 false false = (truV false, 0) from rfl]
      generalize outV (truV false, 0) = R at *
      go_enter Tryz.func148, Tryz.ntmps148
      go_wp2_with (go_at_call 143; refine (truth_any _ _).mono ?_; rintro e w1 ⟨rfl, rfl⟩)
      refine bodyPost_ret ?_ rfl ⟨HO.out.symm, ?_⟩
      · simp [results, Tryz.results148, go_sem]
      · exact ((Below.refl _ _).alloc (Nat.le_refl _) _).alloc (by simp) _
    · have HO := Lib.hid (out_tru false)
      unfold truO at HO
      rw [show truthsE 22 false true = (truV false, 0) from rfl]
      generalize outV (truV false, 0) = R at *
      go_enter Tryz.func148, Tryz.ntmps148
      go_wp2_with (go_at_call 143; refine (truth_any _ _).mono ?_; rintro e w1 ⟨rfl, rfl⟩)
      refine bodyPost_ret ?_ rfl ⟨HO.out.symm, ?_⟩
      · simp [results, Tryz.results148, go_sem]
      · exact ((Below.refl _ _).alloc (Nat.le_refl _) _).alloc (by simp) _
    · have HO := Lib.hid (out_tru false)
      unfold truO at HO
      rw [show truthsE 22 true false = (truV false, 0) from rfl]
      generalize outV (truV false, 0) = R at *
      go_enter Tryz.func148, Tryz.ntmps148
      go_wp2_with (go_at_call 143; refine (truth_any _ _).mono ?_; rintro e w1 ⟨rfl, rfl⟩)
      refine bodyPost_ret ?_ rfl ⟨HO.out.symm, ?_⟩
      · simp [results, Tryz.results148, go_sem]
      · exact ((Below.refl _ _).alloc (Nat.le_refl _) _).alloc (by simp) _
    · have HO := Lib.hid (out_tru true)
      unfold truO at HO
      rw [show truthsE 22 true true = (truV true, 0) from rfl]
      generalize outV (truV true, 0) = R at *
      go_enter Tryz.func148, Tryz.ntmps148
      go_wp2_with (go_at_call 143; refine (truth_any _ _).mono ?_; rintro e w1 ⟨rfl, rfl⟩)
      refine bodyPost_ret ?_ rfl ⟨HO.out.symm, ?_⟩
      · simp [results, Tryz.results148, go_sem]
      · exact ((Below.refl _ _).alloc (Nat.le_refl _) _).alloc (by simp) _
  · cases a <;> cases b
    · have HO := Lib.hid (out_tru false)
      unfold truO at HO
      rw [show truthsE 23 false false = (truV false, 0) from rfl]
      generalize outV (truV false, 0) = R at *
      go_enter Tryz.func148, Tryz.ntmps148
      go_wp2_with (go_at_call 143; refine (truth_any _ _).mono ?_; rintro e w1 ⟨rfl, rfl⟩)
      refine bodyPost_ret ?_ rfl ⟨HO.out.symm, ?_⟩
      · simp [results, Tryz.results148, go_sem]
      · exact ((Below.refl _ _).alloc (Nat.le_refl _) _).alloc (by simp) _
    · have HO := Lib.hid (out_tru true)
      unfold truO at HO
      rw [show truthsE 23 false true = (truV true, 0) from rfl]
      generalize outV (truV true, 0) = R at *
      go_enter Tryz.func148, Tryz.ntmps148
      go_wp2_with (go_at_call 143; refine (truth_any _ _).mono ?_; rintro e w1 ⟨rfl, rfl⟩)
      refine bodyPost_ret ?_ rfl ⟨HO.out.symm, ?_⟩
      · simp [results, Tryz.results148, go_sem]
      · exact ((Below.refl _ _).alloc (Nat.le_refl _) _).alloc (by simp) _
    · have HO := Lib.hid (out_tru true)
      unfold truO at HO
      rw [show truthsE 23 true false = (truV true, 0) from rfl]
      generalize outV (truV true, 0) = R at *
      go_enter Tryz.func148, Tryz.ntmps148
      go_wp2_with (go_at_call 143; refine (truth_any _ _).mono ?_; rintro e w1 ⟨rfl, rfl⟩)
      refine bodyPost_ret ?_ rfl ⟨HO.out.symm, ?_⟩
      · simp [results, Tryz.results148, go_sem]
      · exact ((Below.refl _ _).alloc (Nat.le_refl _) _).alloc (by simp) _
    · have HO := Lib.hid (out_tru true)
      unfold truO at HO
      rw [show truthsE 23 true true = (truV true, 0) from rfl]
      generalize outV (truV true, 0) = R at *
      go_enter Tryz.func148, Tryz.ntmps148
      go_wp2_with (go_at_call 143; refine (truth_any _ _).mono ?_; rintro e w1 ⟨rfl, rfl⟩)
      refine bodyPost_ret ?_ rfl ⟨HO.out.symm, ?_⟩
      · simp [results, Tryz.results148, go_sem]
      · exact ((Below.refl _ _).alloc (Nat.le_refl _) _).alloc (by simp) _
end Go.Proofs.YtjgfkmakfdepcaaGreatDoor
namespace Go.Proofs.YtjgfkmakfdepcaaGreatDoor
open Go.RowKit

theorem vwithin_any (n : Int) (w : World) :
    Calls Tryz.prog 164 #[.int .i64 n] w fun e w' => e = .returned (.bool (inB n)) ∧ w = w' := by
  by_cases h1 : -1048576 ≤ n
  · by_cases h2 : n ≤ 1048576
    · have hL : inB n = true := decide_eq_true ⟨h1, h2⟩
      rw [hL]; clear hL
      go_enter Tryz.func164, Tryz.ntmps164
      go_wp2
      go_ret
      exact ⟨rfl, rfl⟩
    · have hL : inB n = false := decide_eq_false (fun h => h2 h.2)
      rw [hL]; clear hL
      go_enter Tryz.func164, Tryz.ntmps164
      go_wp2
      go_ret
      exact ⟨rfl, rfl⟩
  · have hL : inB n = false := decide_eq_false (fun h => h1 h.1)
    rw [hL]; clear hL
    go_enter Tryz.func164, Tryz.ntmps164
    go_wp2
    go_ret
    exact ⟨rfl, rfl⟩

/-- what is answered of a point -/
def outC (a b : Int) : Ending := if (inB a && inB b) = true then .returned (.tuple #[.complex .f64 (fl a) (fl b), .int .i64 0]) else .returned (.tuple #[.complex .f64 0 0, .int .i64 5])
theorem outC_ok {a b : Int} (h : (inB a && inB b) = true) : outC a b = .returned (.tuple #[.complex .f64 (fl a) (fl b), .int .i64 0]) := if_pos h
theorem outC_no {a b : Int} (h : ¬ (inB a && inB b) = true) : outC a b = .returned (.tuple #[.complex .f64 0 0, .int .i64 5]) := if_neg h

theorem made_any (a b : Int) (w : World) :
    Calls Tryz.prog 139 #[.int .i64 a, .int .i64 b] w fun e w' => e = outC a b ∧ w = w' := by
  by_cases h : (inB a && inB b) = true
  · rw [outC_ok h]
    simp only [Bool.and_eq_true] at h
    obtain ⟨ha, hb⟩ := h
    go_enter Tryz.func139, Tryz.ntmps139
    go_wp2_with (go_at_call 164; refine (vwithin_any _ _).mono ?_; rintro e w' ⟨rfl, rfl⟩)
    go_ret2
    exact ⟨rfl, rfl⟩
  · rw [outC_no h]
    cases ha : inB a
    · clear h
      go_enter Tryz.func139, Tryz.ntmps139
      go_wp2_with (go_at_call 164; refine (vwithin_any _ _).mono ?_; rintro e w' ⟨rfl, rfl⟩)
      go_ret2
      exact ⟨rfl, rfl⟩
    · rw [ha, Bool.true_and] at h
      simp only [Bool.not_eq_true] at h
      go_enter Tryz.func139, Tryz.ntmps139
      go_wp2_with (go_at_call 164; refine (vwithin_any _ _).mono ?_; rintro e w' ⟨rfl, rfl⟩)
      go_ret2
      exact ⟨rfl, rfl⟩

/-! ### words that stand for whole numbers -/
theorem cmp_le (a b : Int) : (some (compare a b) == some Ordering.lt || some (compare a b) == some Ordering.eq) = decide (a ≤ b) := by
  simp only [compare, compareOfLessAndEq]
  rcases Int.lt_trichotomy a b with h | h | h
  · rw [if_pos h, decide_eq_true (by omega)]; rfl
  · rw [if_neg (by omega), if_pos h, decide_eq_true (by omega)]; rfl
  · rw [if_neg (by omega), if_neg (by omega), decide_eq_false (by omega)]; rfl
theorem cmp_eq (a b : Int) : (some (compare a b) == some Ordering.eq) = decide (a = b) := by
  simp only [compare, compareOfLessAndEq]
  rcases Int.lt_trichotomy a b with h | h | h
  · rw [if_pos h, decide_eq_false (by omega)]; rfl
  · rw [if_neg (by omega), if_pos h, decide_eq_true h]; rfl
  · rw [if_neg (by omega), if_neg (by omega), decide_eq_false (by omega)]; rfl
theorem ord_hi {x : Nat} {a : Int} (h : Rep x a) : (FloatKind.f64.format.order x 4697254411347427328 == some .lt || FloatKind.f64.format.order x 4697254411347427328 == some .eq) = decide (a ≤ 1048576) := by
  have e : (4697254411347427328 : Nat) = floatOfInt .f64 1048576 := by kernel_rfl
  show (Ieee.double.order _ _ == _ || Ieee.double.order _ _ == _) = _
  rw [e, rep_order h (rep_int 1048576 (by omega))]
  exact cmp_le _ _
theorem ord_lo {x : Nat} {a : Int} (h : Rep x a) : (FloatKind.f64.format.order 13920626448202203136 x == some .lt || FloatKind.f64.format.order 13920626448202203136 x == some .eq) = decide (-1048576 ≤ a) := by
  have e : (13920626448202203136 : Nat) = floatOfInt .f64 (-1048576) := by kernel_rfl
  show (Ieee.double.order _ _ == _ || Ieee.double.order _ _ == _) = _
  rw [e, rep_order (rep_int (-1048576) (by omega)) h]
  exact cmp_le _ _
theorem ord_eq {x y : Nat} {a b : Int} (h : Rep x a) (h' : Rep y b) : (FloatKind.f64.format.order x y == some .eq) = decide (a = b) := by
  show (Ieee.double.order _ _ == _) = _
  rw [rep_order h h']
  exact cmp_eq _ _
theorem rep_fl {a : Int} (h : inB a = true) : Rep (fl a) a := by rw [inB_iff] at h; exact rep_int a (by omega)
theorem toInt_rep {x : Nat} {a : Int} (h : Rep x a) (ha : inB a = true) : floatToIntVal .f64 x .i64 = some a := by
  rw [inB_iff] at ha
  unfold floatToIntVal
  have := rep_toInt h
  show (match (Ieee.double.read x).toInt .zero with | some n => _ | none => none) = _
  rw [this]
  have h1 : IntKind.i64.min = -9223372036854775808 := by kernel_rfl
  have h2 : IntKind.i64.max = 9223372036854775807 := by kernel_rfl
  simp only [h1, h2]
  rw [if_pos (by omega)]

theorem whole_rep (x : Nat) (a : Int) (w : World) (h : Rep x a) :
    Calls Tryz.prog 184 #[.float .f64 x] w fun e w' => e = .returned (.bool (inB a)) ∧ w = w' := by
  have h1 := ord_lo h
  have h2 := ord_hi h
  by_cases c1 : -1048576 ≤ a
  · rw [decide_eq_true c1] at h1
    by_cases c2 : a ≤ 1048576
    · rw [decide_eq_true c2] at h2
      have hi : inB a = true := inB_iff.2 ⟨c1, c2⟩
      have h3 : (FloatKind.f64.format.order (floatOfInt .f64 a) x == some .eq) = true := by rw [ord_eq (rep_int a (by omega)) h]; exact decide_eq_true rfl
      have h4 := fun (w : World) => run_convert_float_int (P := Tryz.prog) w 175 2 .f64 .i64 x a (by kernel_rfl) Tryz.underlying2 (toInt_rep h hi)
      rw [hi]
      clear h c1 c2 hi
      go_enter Tryz.func184, Tryz.ntmps184
      go_wp2
      go_ret
      exact ⟨rfl, rfl⟩
    · rw [decide_eq_false c2] at h2
      have hi : inB a = false := decide_eq_false (fun e => c2 e.2)
      rw [hi]
      clear h c1 c2 hi
      go_enter Tryz.func184, Tryz.ntmps184
      go_wp2
      go_ret
      exact ⟨rfl, rfl⟩
  · rw [decide_eq_false c1] at h1
    have hi : inB a = false := decide_eq_false (fun e => c1 e.1)
    rw [hi]
    clear h c1 hi
    go_enter Tryz.func184, Tryz.ntmps184
    go_wp2
    go_ret
    exact ⟨rfl, rfl⟩

theorem isPoint_rep (x y : Nat) (a b : Int) (w : World) (h : Rep x a) (h' : Rep y b) :
    Calls Tryz.prog 168 #[.complex .f64 x y] w fun e w' => e = .returned (.bool (inB a && inB b)) ∧ w = w' := by
  have HX := Lib.hid (fun W => whole_rep x a W h)
  have HY := Lib.hid (fun W => whole_rep y b W h')
  clear h h'
  cases ha : inB a
  · go_enter Tryz.func168, Tryz.ntmps168
    go_wp2_with fail
    refine (HX.out _).mono ?_
    rintro e w' ⟨rfl, rfl⟩
    rw [ha]
    go_wp2
    go_ret
    exact ⟨rfl, rfl⟩
  · rw [Bool.true_and]
    go_enter Tryz.func168, Tryz.ntmps168
    go_wp2_with fail
    refine (HX.out _).mono ?_
    rintro e w' ⟨rfl, rfl⟩
    rw [ha]
    go_wp2_with fail
    refine (HY.out _).mono ?_
    rintro e w' ⟨rfl, rfl⟩
    go_wp2
    go_ret
    exact ⟨rfl, rfl⟩

theorem outC_form (a b : Int) : ∃ c1 c2 er, outC a b = .returned (.tuple #[.complex .f64 c1 c2, .int .i64 er]) := by
  unfold outC
  split
  · exact ⟨_, _, _, rfl⟩
  · exact ⟨_, _, _, rfl⟩
theorem mul_bd {a b : Int} (ha : -1048576 ≤ a ∧ a ≤ 1048576) (hb : -1048576 ≤ b ∧ b ≤ 1048576) : -1099511627776 ≤ a * b ∧ a * b ≤ 1099511627776 := by
  have h : (a * b).natAbs ≤ 1048576 * 1048576 := by
    rw [Int.natAbs_mul]
    exact Nat.mul_le_mul (by omega) (by omega)
  omega

theorem settled_rep (x y : Nat) (a b : Int) (w : World) (h : Rep x a) (h' : Rep y b) :
    Calls Tryz.prog 169 #[.complex .f64 x y] w fun e w' => e = outC a b ∧ w = w' := by
  have HP := Lib.hid (fun W => isPoint_rep x y a b W h h')
  by_cases c : (inB a && inB b) = true
  · have HM := Lib.hid (fun W => made_any a b W)
    have HC := Lib.hid c
    have HO := Lib.hid (outC_ok c)
    simp only [Bool.and_eq_true] at c
    have h4 := fun (w : World) => run_convert_float_int (P := Tryz.prog) w 175 2 .f64 .i64 x a (by kernel_rfl) Tryz.underlying2 (toInt_rep h c.1)
    have h5 := fun (w : World) => run_convert_float_int (P := Tryz.prog) w 175 2 .f64 .i64 y b (by kernel_rfl) Tryz.underlying2 (toInt_rep h' c.2)
    clear h h' c
    go_enter Tryz.func169, Tryz.ntmps169
    go_wp2_with fail
    refine (HP.out _).mono ?_
    rintro e w' ⟨rfl, rfl⟩
    rw [HC.out]
    go_wp2_with fail
    refine (HM.out _).mono ?_
    rintro e w' ⟨rfl, rfl⟩
    rw [HO.out]
    go_wp2
    go_ret2
    exact ⟨HO.out.symm, rfl⟩
  · have HO := Lib.hid (outC_no c)
    have HC := Lib.hid ((Bool.not_eq_true _).mp c)
    clear h h' c
    go_enter Tryz.func169, Tryz.ntmps169
    go_wp2_with fail
    refine (HP.out _).mono ?_
    rintro e w' ⟨rfl, rfl⟩
    rw [HC.out]
    go_wp2
    go_ret2
    exact ⟨HO.out.symm, rfl⟩

theorem add_any (a b c d : Int) (w : World) (ha : inB a = true) (hb : inB b = true) (hc : inB c = true) (hd : inB d = true) :
    Calls Tryz.prog 174 #[.complex .f64 (fl a) (fl b), .complex .f64 (fl c) (fl d)] w fun e w' => e = outC (a + c) (b + d) ∧ w = w' := by
  have HP := Lib.hid (fun W => isPoint_rep (fl a) (fl b) a b W (rep_fl ha) (rep_fl hb))
  have HQ := Lib.hid (fun W => isPoint_rep (fl c) (fl d) c d W (rep_fl hc) (rep_fl hd))
  have HC : Hid ((inB a && inB b) = true) := by show _ = _; rw [ha, hb]; rfl
  have HD : Hid ((inB c && inB d) = true) := by show _ = _; rw [hc, hd]; rfl
  have ka := inB_iff.1 ha; have kb := inB_iff.1 hb; have kc := inB_iff.1 hc; have kd := inB_iff.1 hd
  obtain ⟨r, h1, h2⟩ := rep_add (rep_fl ha) (rep_fl hc) (by omega)
  obtain ⟨s, h3, h4⟩ := rep_add (rep_fl hb) (rep_fl hd) (by omega)
  have HS := Lib.hid (fun W => settled_rep r s _ _ W h2 h4)
  have hop := fun (W : World) t => run_complex_sum (P := Tryz.prog) W .add (Or.inl rfl) t .f64 (fl a) (fl b) (fl c) (fl d) r s (by unfold cSumBits; rw [h1, h3]; rfl)
  obtain ⟨c1, c2, er, ho⟩ := outC_form (a + c) (b + d)
  have HO := Lib.hid ho
  clear ha hb hc hd h1 h2 h3 h4 ka kb kc kd ho
  go_enter Tryz.func174, Tryz.ntmps174
  go_wp2_with fail
  refine (HP.out _).mono ?_
  rintro e w' ⟨rfl, rfl⟩
  rw [HC.out]
  go_wp2_with fail
  refine (HQ.out _).mono ?_
  rintro e w' ⟨rfl, rfl⟩
  rw [HD.out]
  go_wp2_with fail
  refine (HS.out _).mono ?_
  rintro e w' ⟨rfl, rfl⟩
  rw [HO.out]
  go_wp2
  go_ret2
  exact ⟨HO.out.symm, rfl⟩
theorem sub_any (a b c d : Int) (w : World) (ha : inB a = true) (hb : inB b = true) (hc : inB c = true) (hd : inB d = true) :
    Calls Tryz.prog 146 #[.complex .f64 (fl a) (fl b), .complex .f64 (fl c) (fl d)] w fun e w' => e = outC (a - c) (b - d) ∧ w = w' := by
  have HP := Lib.hid (fun W => isPoint_rep (fl a) (fl b) a b W (rep_fl ha) (rep_fl hb))
  have HQ := Lib.hid (fun W => isPoint_rep (fl c) (fl d) c d W (rep_fl hc) (rep_fl hd))
  have HC : Hid ((inB a && inB b) = true) := by show _ = _; rw [ha, hb]; rfl
  have HD : Hid ((inB c && inB d) = true) := by show _ = _; rw [hc, hd]; rfl
  have ka := inB_iff.1 ha; have kb := inB_iff.1 hb; have kc := inB_iff.1 hc; have kd := inB_iff.1 hd
  obtain ⟨r, h1, h2⟩ := rep_sub (rep_fl ha) (rep_fl hc) (by omega)
  obtain ⟨s, h3, h4⟩ := rep_sub (rep_fl hb) (rep_fl hd) (by omega)
  have HS := Lib.hid (fun W => settled_rep r s _ _ W h2 h4)
  have hop := fun (W : World) t => run_complex_sum (P := Tryz.prog) W .sub (Or.inr rfl) t .f64 (fl a) (fl b) (fl c) (fl d) r s (by unfold cSumBits; rw [h1, h3]; rfl)
  obtain ⟨c1, c2, er, ho⟩ := outC_form (a - c) (b - d)
  have HO := Lib.hid ho
  clear ha hb hc hd h1 h2 h3 h4 ka kb kc kd ho
  go_enter Tryz.func146, Tryz.ntmps146
  go_wp2_with fail
  refine (HP.out _).mono ?_
  rintro e w' ⟨rfl, rfl⟩
  rw [HC.out]
  go_wp2_with fail
  refine (HQ.out _).mono ?_
  rintro e w' ⟨rfl, rfl⟩
  rw [HD.out]
  go_wp2_with fail
  refine (HS.out _).mono ?_
  rintro e w' ⟨rfl, rfl⟩
  rw [HO.out]
  go_wp2
  go_ret2
  exact ⟨HO.out.symm, rfl⟩
theorem mul_any (a b c d : Int) (w : World) (ha : inB a = true) (hb : inB b = true) (hc : inB c = true) (hd : inB d = true) :
    Calls Tryz.prog 175 #[.complex .f64 (fl a) (fl b), .complex .f64 (fl c) (fl d)] w fun e w' => e = outC (a * c - b * d) (a * d + b * c) ∧ w = w' := by
  have HP := Lib.hid (fun W => isPoint_rep (fl a) (fl b) a b W (rep_fl ha) (rep_fl hb))
  have HQ := Lib.hid (fun W => isPoint_rep (fl c) (fl d) c d W (rep_fl hc) (rep_fl hd))
  have HC : Hid ((inB a && inB b) = true) := by show _ = _; rw [ha, hb]; rfl
  have HD : Hid ((inB c && inB d) = true) := by show _ = _; rw [hc, hd]; rfl
  have ka := inB_iff.1 ha; have kb := inB_iff.1 hb; have kc := inB_iff.1 hc; have kd := inB_iff.1 hd
  have ma := mul_bd ka kc; have mb := mul_bd kb kd; have mc := mul_bd ka kd; have md := mul_bd kb kc
  obtain ⟨r1, g1, g2⟩ := rep_mul (rep_fl ha) (rep_fl hc) (by omega)
  obtain ⟨r2, g3, g4⟩ := rep_mul (rep_fl hb) (rep_fl hd) (by omega)
  obtain ⟨r3, g5, g6⟩ := rep_mul (rep_fl ha) (rep_fl hd) (by omega)
  obtain ⟨r4, g7, g8⟩ := rep_mul (rep_fl hb) (rep_fl hc) (by omega)
  obtain ⟨r, h1, h2⟩ := rep_sub g2 g4 (by omega)
  obtain ⟨s, h3, h4⟩ := rep_add g6 g8 (by omega)
  have HS := Lib.hid (fun W => settled_rep r s _ _ W h2 h4)
  have hop := fun (W : World) t => run_complex_mul (P := Tryz.prog) W t (fl a) (fl b) (fl c) (fl d) r s (by unfold cMulBits; rw [g1, g3, g5, g7]; simp only [Option.bind_some]; rw [h1, h3]; rfl)
  obtain ⟨c1, c2, er, ho⟩ := outC_form (a * c - b * d) (a * d + b * c)
  have HO := Lib.hid ho
  clear ha hb hc hd h1 h2 h3 h4 ka kb kc kd ho g1 g2 g3 g4 g5 g6 g7 g8 ma mb mc md
  go_enter Tryz.func175, Tryz.ntmps175
  go_wp2_with fail
  refine (HP.out _).mono ?_
  rintro e w' ⟨rfl, rfl⟩
  rw [HC.out]
  go_wp2_with fail
  refine (HQ.out _).mono ?_
  rintro e w' ⟨rfl, rfl⟩
  rw [HD.out]
  go_wp2_with fail
  refine (HS.out _).mono ?_
  rintro e w' ⟨rfl, rfl⟩
  rw [HO.out]
  go_wp2
  go_ret2
  exact ⟨HO.out.symm, rfl⟩
end Go.Proofs.YtjgfkmakfdepcaaGreatDoor
