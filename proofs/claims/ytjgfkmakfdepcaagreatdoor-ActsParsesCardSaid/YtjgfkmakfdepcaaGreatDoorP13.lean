/- Own texts, joined: Vd. -/
import Derived.Test.YtjgfkmakfdepcaaGreatDoorP12
namespace Go.Proofs.YtjgfkmakfdepcaaGreatDoor
open Go.RowKit

theorem ptE_ok {a b : Int} (h : (inB a && inB b) = true) : outV (ptE a b) = .returned (.tuple #[.agg #[.int .i64 3, .int .i64 0, .bool false, .complex .f64 (fl a) (fl b)], .int .i64 0]) := by
  unfold ptE; rw [if_pos h]; exact out_pt a b
theorem ptE_no {a b : Int} (h : ¬ (inB a && inB b) = true) : outV (ptE a b) = .returned (.tuple #[.agg #[.int .i64 0, .int .i64 0, .bool false, .complex .f64 0 0], .int .i64 5]) := by
  unfold ptE; rw [if_neg h]; exact out_er 5
theorem point_any (a b : Int) (c1 c2 : Nat) (er : Int) (w : World) (h : outC a b = .returned (.tuple #[.complex .f64 c1 c2, .int .i64 er])) :
    Calls Tryz.prog 141 #[.complex .f64 c1 c2, .int .i64 er] w fun e w' => e = outV (ptE a b) ∧ Below w.heap.size w w' := by
  by_cases c : (inB a && inB b) = true
  · rw [outC_ok c] at h
    have HO := Lib.hid (ptE_ok c)
    simp at h
    obtain ⟨⟨rfl, rfl⟩, rfl⟩ := h
    clear c
    go_enter Tryz.func141, Tryz.ntmps141
    go_wp2
    refine bodyPost_ret ?_ rfl ⟨HO.out.symm, ?_⟩
    · simp [results, Tryz.results141, go_sem]
    · exact (Below.refl _ _).alloc (Nat.le_refl _) _
  · rw [outC_no c] at h
    have HO := Lib.hid (ptE_no c)
    simp at h
    obtain ⟨⟨rfl, rfl⟩, rfl⟩ := h
    clear c
    go_enter Tryz.func141, Tryz.ntmps141
    go_wp2
    refine bodyPost_ret ?_ rfl ⟨HO.out.symm, ?_⟩
    · simp [results, Tryz.results141, go_sem]
    · exact (Below.refl _ _).alloc (Nat.le_refl _) _

set_option maxHeartbeats 2000000 in
theorem ofPoints_any (op a b c d : Int) (w : World) (h : 11 ≤ op ∧ op ≤ 23) (ha : inB a = true) (hb : inB b = true) (hc : inB c = true) (hd : inB d = true) :
    Calls Tryz.prog 149 #[.int .i64 op, .complex .f64 (fl a) (fl b), .complex .f64 (fl c) (fl d)] w fun e w' => e = outV (pointsE op a b c d) ∧ Below w.heap.size w w' := by
  rcases op_bin h with rfl | rfl | rfl | rfl | rfl | rfl | rfl | rfl | rfl | rfl | rfl | rfl | rfl
  · obtain ⟨g1, g2, ge, hg⟩ := outC_form (a + c) (b + d)
    have HOC := Lib.hid hg
    have HA := Lib.hid (fun W => add_any a b c d W ha hb hc hd)
    have HPT := Lib.hid (fun W => point_any (a + c) (b + d) g1 g2 ge W hg)
    rw [show pointsE 11 a b c d = ptE (a + c) (b + d) from rfl]
    obtain ⟨p, hp⟩ : ∃ p, ptE (a + c) (b + d) = p := ⟨_, rfl⟩
    rw [hp] at HPT ⊢
    clear ha hb hc hd hg hp
    obtain ⟨k, x, t, c1, c2, er, hf⟩ := out_form (p)
    have HF := Lib.hid hf
    clear hf
    go_enter Tryz.func149, Tryz.ntmps149
    go_wp2_with fail
    refine (HA.out _).mono ?_
    rintro e w' ⟨rfl, rfl⟩
    rw [HOC.out]
    go_wp2_with fail
    refine (HPT.out _).mono ?_
    rintro e w1 ⟨rfl, hb1⟩
    rw [HF.out]
    obtain ⟨hh, hbw⟩ := fwd4 rfl (Below.refl _ _) hb1
    obtain ⟨d0, d1, d2, d3, f0, f1, f2, f3⟩ := at4 hh
    clear hb1
    go_wp2
    obtain ⟨⟨r0, r1, r2, r3⟩, hbf⟩ := fin4 hh (Nat.le_refl _) hbw (.int .i64 k) (.int .i64 x) (.bool t) (.complex .f64 c1 c2)
    refine bodyPost_ret ?_ rfl ⟨HF.out.symm, hbf⟩
    simp [results, Tryz.results149, go_sem, r0, r1, r2, r3]
  · obtain ⟨g1, g2, ge, hg⟩ := outC_form (a - c) (b - d)
    have HOC := Lib.hid hg
    have HA := Lib.hid (fun W => sub_any a b c d W ha hb hc hd)
    have HPT := Lib.hid (fun W => point_any (a - c) (b - d) g1 g2 ge W hg)
    rw [show pointsE 12 a b c d = ptE (a - c) (b - d) from rfl]
    obtain ⟨p, hp⟩ : ∃ p, ptE (a - c) (b - d) = p := ⟨_, rfl⟩
    rw [hp] at HPT ⊢
    clear ha hb hc hd hg hp
    obtain ⟨k, x, t, c1, c2, er, hf⟩ := out_form (p)
    have HF := Lib.hid hf
    clear hf
    go_enter Tryz.func149, Tryz.ntmps149
    go_wp2_with fail
    refine (HA.out _).mono ?_
    rintro e w' ⟨rfl, rfl⟩
    rw [HOC.out]
    go_wp2_with fail
    refine (HPT.out _).mono ?_
    rintro e w1 ⟨rfl, hb1⟩
    rw [HF.out]
    obtain ⟨hh, hbw⟩ := fwd4 rfl (Below.refl _ _) hb1
    obtain ⟨d0, d1, d2, d3, f0, f1, f2, f3⟩ := at4 hh
    clear hb1
    go_wp2
    obtain ⟨⟨r0, r1, r2, r3⟩, hbf⟩ := fin4 hh (Nat.le_refl _) hbw (.int .i64 k) (.int .i64 x) (.bool t) (.complex .f64 c1 c2)
    refine bodyPost_ret ?_ rfl ⟨HF.out.symm, hbf⟩
    simp [results, Tryz.results149, go_sem, r0, r1, r2, r3]
  · obtain ⟨g1, g2, ge, hg⟩ := outC_form (a * c - b * d) (a * d + b * c)
    have HOC := Lib.hid hg
    have HA := Lib.hid (fun W => mul_any a b c d W ha hb hc hd)
    have HPT := Lib.hid (fun W => point_any (a * c - b * d) (a * d + b * c) g1 g2 ge W hg)
    rw [show pointsE 13 a b c d = ptE (a * c - b * d) (a * d + b * c) from rfl]
    obtain ⟨p, hp⟩ : ∃ p, ptE (a * c - b * d) (a * d + b * c) = p := ⟨_, rfl⟩
    rw [hp] at HPT ⊢
    clear ha hb hc hd hg hp
    obtain ⟨k, x, t, c1, c2, er, hf⟩ := out_form (p)
    have HF := Lib.hid hf
    clear hf
    go_enter Tryz.func149, Tryz.ntmps149
    go_wp2_with fail
    refine (HA.out _).mono ?_
    rintro e w' ⟨rfl, rfl⟩
    rw [HOC.out]
    go_wp2_with fail
    refine (HPT.out _).mono ?_
    rintro e w1 ⟨rfl, hb1⟩
    rw [HF.out]
    obtain ⟨hh, hbw⟩ := fwd4 rfl (Below.refl _ _) hb1
    obtain ⟨d0, d1, d2, d3, f0, f1, f2, f3⟩ := at4 hh
    clear hb1
    go_wp2
    obtain ⟨⟨r0, r1, r2, r3⟩, hbf⟩ := fin4 hh (Nat.le_refl _) hbw (.int .i64 k) (.int .i64 x) (.bool t) (.complex .f64 c1 c2)
    refine bodyPost_ret ?_ rfl ⟨HF.out.symm, hbf⟩
    simp [results, Tryz.results149, go_sem, r0, r1, r2, r3]
  · have HO := Lib.hid (out_er 8)
    unfold zeroO at HO
    rw [show pointsE 14 a b c d = erV 8 from rfl]
    generalize outV (erV 8) = R at *
    clear ha hb hc hd
    go_enter Tryz.func149, Tryz.ntmps149
    go_wp2
    refine bodyPost_ret ?_ rfl ⟨HO.out.symm, ?_⟩
    · simp [results, Tryz.results149, go_sem]
    · exact (Below.refl _ _).alloc (Nat.le_refl _) _
  · have HO := Lib.hid (out_er 8)
    unfold zeroO at HO
    rw [show pointsE 15 a b c d = erV 8 from rfl]
    generalize outV (erV 8) = R at *
    clear ha hb hc hd
    go_enter Tryz.func149, Tryz.ntmps149
    go_wp2
    refine bodyPost_ret ?_ rfl ⟨HO.out.symm, ?_⟩
    · simp [results, Tryz.results149, go_sem]
    · exact (Below.refl _ _).alloc (Nat.le_refl _) _
  · have HO := Lib.hid (out_er 8)
    unfold zeroO at HO
    rw [show pointsE 16 a b c d = erV 8 from rfl]
    generalize outV (erV 8) = R at *
    clear ha hb hc hd
    go_enter Tryz.func149, Tryz.ntmps149
    go_wp2
    refine bodyPost_ret ?_ rfl ⟨HO.out.symm, ?_⟩
    · simp [results, Tryz.results149, go_sem]
    · exact (Below.refl _ _).alloc (Nat.le_refl _) _
  · have HO := Lib.hid (out_er 8)
    unfold zeroO at HO
    rw [show pointsE 17 a b c d = erV 8 from rfl]
    generalize outV (erV 8) = R at *
    clear ha hb hc hd
    go_enter Tryz.func149, Tryz.ntmps149
    go_wp2
    refine bodyPost_ret ?_ rfl ⟨HO.out.symm, ?_⟩
    · simp [results, Tryz.results149, go_sem]
    · exact (Below.refl _ _).alloc (Nat.le_refl _) _
  · have HO := Lib.hid (out_er 8)
    unfold zeroO at HO
    rw [show pointsE 18 a b c d = erV 8 from rfl]
    generalize outV (erV 8) = R at *
    clear ha hb hc hd
    go_enter Tryz.func149, Tryz.ntmps149
    go_wp2
    refine bodyPost_ret ?_ rfl ⟨HO.out.symm, ?_⟩
    · simp [results, Tryz.results149, go_sem]
    · exact (Below.refl _ _).alloc (Nat.le_refl _) _
  · have HO := Lib.hid (out_er 8)
    unfold zeroO at HO
    rw [show pointsE 19 a b c d = erV 8 from rfl]
    generalize outV (erV 8) = R at *
    clear ha hb hc hd
    go_enter Tryz.func149, Tryz.ntmps149
    go_wp2
    refine bodyPost_ret ?_ rfl ⟨HO.out.symm, ?_⟩
    · simp [results, Tryz.results149, go_sem]
    · exact (Below.refl _ _).alloc (Nat.le_refl _) _
  · have HO := Lib.hid (out_er 8)
    unfold zeroO at HO
    rw [show pointsE 20 a b c d = erV 8 from rfl]
    generalize outV (erV 8) = R at *
    clear ha hb hc hd
    go_enter Tryz.func149, Tryz.ntmps149
    go_wp2
    refine bodyPost_ret ?_ rfl ⟨HO.out.symm, ?_⟩
    · simp [results, Tryz.results149, go_sem]
    · exact (Below.refl _ _).alloc (Nat.le_refl _) _
  · have HO := Lib.hid (out_er 8)
    unfold zeroO at HO
    rw [show pointsE 21 a b c d = erV 8 from rfl]
    generalize outV (erV 8) = R at *
    clear ha hb hc hd
    go_enter Tryz.func149, Tryz.ntmps149
    go_wp2
    refine bodyPost_ret ?_ rfl ⟨HO.out.symm, ?_⟩
    · simp [results, Tryz.results149, go_sem]
    · exact (Below.refl _ _).alloc (Nat.le_refl _) _
  · have HO := Lib.hid (out_er 8)
    unfold zeroO at HO
    rw [show pointsE 22 a b c d = erV 8 from rfl]
    generalize outV (erV 8) = R at *
    clear ha hb hc hd
    go_enter Tryz.func149, Tryz.ntmps149
    go_wp2
    refine bodyPost_ret ?_ rfl ⟨HO.out.symm, ?_⟩
    · simp [results, Tryz.results149, go_sem]
    · exact (Below.refl _ _).alloc (Nat.le_refl _) _
  · have HO := Lib.hid (out_er 8)
    unfold zeroO at HO
    rw [show pointsE 23 a b c d = erV 8 from rfl]
    generalize outV (erV 8) = R at *
    clear ha hb hc hd
    go_enter Tryz.func149, Tryz.ntmps149
    go_wp2
    refine bodyPost_ret ?_ rfl ⟨HO.out.symm, ?_⟩
    · simp [results, Tryz.results149, go_sem]
    · exact (Below.refl _ _).alloc (Nat.le_refl _) _

set_option maxHeartbeats 2000000 in
theorem ahead_num (op a : Int) (w : World) (h : 7 ≤ op ∧ op ≤ 10) (ha : inL a = true) :
    Calls Tryz.prog 125 #[.int .i64 op, .agg #[.int .i64 1, .int .i64 a, .bool false, .complex .f64 0 0]] w fun e w' => e = outV (unE op (numV a)) ∧ Below w.heap.size w w' := by
  rcases op_un h with rfl | rfl | rfl | rfl
  · rw [show unE 7 (numV a) = numE (-a) from rfl, show -a = 0 - a by omega]
    have HC := Lib.hid (fun W => less_any 0 a W rfl ha)
    generalize numE (0 - a) = p at *
    clear ha
    obtain ⟨k, x, t, c1, c2, er, hf⟩ := out_form (p)
    have HF := Lib.hid hf
    clear hf
    go_enter Tryz.func125, Tryz.ntmps125
    go_wp2_with fail
    refine (HC.out _).mono ?_
    rintro e w1 ⟨rfl, hb1⟩
    rw [HF.out]
    obtain ⟨hh, hbw⟩ := fwd4 (show (w.alloc _).heap.size = w.heap.size + 1 by simp) ((Below.refl _ _).alloc (Nat.le_refl _) _) hb1
    obtain ⟨d0, d1, d2, d3, f0, f1, f2, f3⟩ := at4 hh
    clear hb1
    go_wp2
    obtain ⟨⟨r0, r1, r2, r3⟩, hbf⟩ := fin4 hh (by omega) hbw (.int .i64 k) (.int .i64 x) (.bool t) (.complex .f64 c1 c2)
    refine bodyPost_ret ?_ rfl ⟨HF.out.symm, hbf⟩
    simp [results, Tryz.results125, go_sem, r0, r1, r2, r3]
  · have HO := Lib.hid (out_er 8)
    unfold zeroO at HO
    rw [show unE 8 (numV a) = erV 8 from rfl]
    generalize outV (erV 8) = R at *
    clear ha
    go_enter Tryz.func125, Tryz.ntmps125
    go_wp2
    refine bodyPost_ret ?_ rfl ⟨HO.out.symm, ?_⟩
    · simp [results, Tryz.results125, go_sem]
    · exact ((Below.refl _ _).alloc (Nat.le_refl _) _).alloc (by first | (simp; done) | (simp; omega)) _
  · have HO := Lib.hid (out_er 8)
    unfold zeroO at HO
    rw [show unE 9 (numV a) = erV 8 from rfl]
    generalize outV (erV 8) = R at *
    clear ha
    go_enter Tryz.func125, Tryz.ntmps125
    go_wp2
    refine bodyPost_ret ?_ rfl ⟨HO.out.symm, ?_⟩
    · simp [results, Tryz.results125, go_sem]
    · exact ((Below.refl _ _).alloc (Nat.le_refl _) _).alloc (by first | (simp; done) | (simp; omega)) _
  · have HO := Lib.hid (out_er 8)
    unfold zeroO at HO
    rw [show unE 10 (numV a) = erV 8 from rfl]
    generalize outV (erV 8) = R at *
    clear ha
    go_enter Tryz.func125, Tryz.ntmps125
    go_wp2
    refine bodyPost_ret ?_ rfl ⟨HO.out.symm, ?_⟩
    · simp [results, Tryz.results125, go_sem]
    · exact ((Below.refl _ _).alloc (Nat.le_refl _) _).alloc (by first | (simp; done) | (simp; omega)) _

set_option maxHeartbeats 2000000 in
theorem ahead_tru (op : Int) (b : Bool) (w : World) (h : 7 ≤ op ∧ op ≤ 10) :
    Calls Tryz.prog 125 #[.int .i64 op, .agg #[.int .i64 2, .int .i64 0, .bool b, .complex .f64 0 0]] w fun e w' => e = outV (unE op (truV b)) ∧ Below w.heap.size w w' := by
  rcases op_un h with rfl | rfl | rfl | rfl
  · have HO := Lib.hid (out_er 8)
    unfold zeroO at HO
    rw [show unE 7 (truV b) = erV 8 from rfl]
    generalize outV (erV 8) = R at *
    go_enter Tryz.func125, Tryz.ntmps125
    go_wp2
    refine bodyPost_ret ?_ rfl ⟨HO.out.symm, ?_⟩
    · simp [results, Tryz.results125, go_sem]
    · exact ((Below.refl _ _).alloc (Nat.le_refl _) _).alloc (by first | (simp; done) | (simp; omega)) _
  · cases b
    · have HO := Lib.hid (out_tru true)
      unfold truO at HO
      rw [show unE 8 (truV false) = (truV true, 0) from rfl]
      generalize outV (truV true, 0) = R at *
      go_enter Tryz.func125, Tryz.ntmps125
      go_wp2_with (go_at_call 143; refine (truth_any _ _).mono ?_; rintro e w1 ⟨rfl, rfl⟩)
      refine bodyPost_ret ?_ rfl ⟨HO.out.symm, ?_⟩
      · simp [results, Tryz.results125, go_sem]
      · exact (((Below.refl _ _).alloc (Nat.le_refl _) _).alloc (by first | (simp; done) | (simp; omega)) _).alloc (by first | (simp; done) | (simp; omega)) _
    · have HO := Lib.hid (out_tru false)
      unfold truO at HO
      rw [show unE 8 (truV true) = (truV false, 0) from rfl]
      generalize outV (truV false, 0) = R at *
      go_enter Tryz.func125, Tryz.ntmps125
      go_wp2_with (go_at_call 143; refine (truth_any _ _).mono ?_; rintro e w1 ⟨rfl, rfl⟩)
      refine bodyPost_ret ?_ rfl ⟨HO.out.symm, ?_⟩
      · simp [results, Tryz.results125, go_sem]
      · exact (((Below.refl _ _).alloc (Nat.le_refl _) _).alloc (by first | (simp; done) | (simp; omega)) _).alloc (by first | (simp; done) | (simp; omega)) _
  · have HO := Lib.hid (out_er 8)
    unfold zeroO at HO
    rw [show unE 9 (truV b) = erV 8 from rfl]
    generalize outV (erV 8) = R at *
    go_enter Tryz.func125, Tryz.ntmps125
    go_wp2
    refine bodyPost_ret ?_ rfl ⟨HO.out.symm, ?_⟩
    · simp [results, Tryz.results125, go_sem]
    · exact ((Below.refl _ _).alloc (Nat.le_refl _) _).alloc (by first | (simp; done) | (simp; omega)) _
  · have HO := Lib.hid (out_er 8)
    unfold zeroO at HO
    rw [show unE 10 (truV b) = erV 8 from rfl]
    generalize outV (erV 8) = R at *
    go_enter Tryz.func125, Tryz.ntmps125
    go_wp2
    refine bodyPost_ret ?_ rfl ⟨HO.out.symm, ?_⟩
    · simp [results, Tryz.results125, go_sem]
    · exact ((Below.refl _ _).alloc (Nat.le_refl _) _).alloc (by first | (simp; done) | (simp; omega)) _

set_option maxHeartbeats 2000000 in
theorem ahead_pt (op a b : Int) (w : World) (h : 7 ≤ op ∧ op ≤ 10) (ha : inB a = true) (hb : inB b = true) :
    Calls Tryz.prog 125 #[.int .i64 op, .agg #[.int .i64 3, .int .i64 0, .bool false, .complex .f64 (fl a) (fl b)]] w fun e w' => e = outV (unE op (ptV a b)) ∧ Below w.heap.size w w' := by
  rcases op_un h with rfl | rfl | rfl | rfl
  · obtain ⟨g1, g2, ge, hg⟩ := outC_form (0 - a) (0 - b)
    have HOC := Lib.hid hg
    have HA := Lib.hid (fun W => sub_any 0 0 a b W rfl rfl ha hb)
    rw [fl0] at HA
    have HPT := Lib.hid (fun W => point_any (0 - a) (0 - b) g1 g2 ge W hg)
    have e : unE 7 (ptV a b) = ptE (0 - a) (0 - b) := by
      rw [show unE 7 (ptV a b) = (ptV (-a) (-b), 0) from rfl]
      unfold ptE
      rw [inB_iff] at ha hb
      rw [if_pos (by simp only [Bool.and_eq_true, inB_iff]; omega), show 0 - a = -a by omega, show 0 - b = -b by omega]
    rw [e]
    obtain ⟨p, hp⟩ : ∃ p, ptE (0 - a) (0 - b) = p := ⟨_, rfl⟩
    rw [hp] at HPT ⊢
    clear ha hb hg hp e
    obtain ⟨k, x, t, c1, c2, er, hf⟩ := out_form (p)
    have HF := Lib.hid hf
    clear hf
    go_enter Tryz.func125, Tryz.ntmps125
    go_wp2_with fail
    refine (HA.out _).mono ?_
    rintro e w' ⟨rfl, rfl⟩
    rw [HOC.out]
    go_wp2_with fail
    refine (HPT.out _).mono ?_
    rintro e w1 ⟨rfl, hb1⟩
    rw [HF.out]
    obtain ⟨hh, hbw⟩ := fwd4 (show (w.alloc _).heap.size = w.heap.size + 1 by simp) ((Below.refl _ _).alloc (Nat.le_refl _) _) hb1
    obtain ⟨d0, d1, d2, d3, f0, f1, f2, f3⟩ := at4 hh
    clear hb1
    go_wp2
    obtain ⟨⟨r0, r1, r2, r3⟩, hbf⟩ := fin4 hh (by omega) hbw (.int .i64 k) (.int .i64 x) (.bool t) (.complex .f64 c1 c2)
    refine bodyPost_ret ?_ rfl ⟨HF.out.symm, hbf⟩
    simp [results, Tryz.results125, go_sem, r0, r1, r2, r3]
  · have HO := Lib.hid (out_er 8)
    unfold zeroO at HO
    rw [show unE 8 (ptV a b) = erV 8 from rfl]
    generalize outV (erV 8) = R at *
    clear ha hb
    go_enter Tryz.func125, Tryz.ntmps125
    go_wp2
    refine bodyPost_ret ?_ rfl ⟨HO.out.symm, ?_⟩
    · simp [results, Tryz.results125, go_sem]
    · exact ((Below.refl _ _).alloc (Nat.le_refl _) _).alloc (by first | (simp; done) | (simp; omega)) _
  · have HO := Lib.hid (out_num a)
    unfold numO at HO
    have h4 := fun (w : World) => run_convert_float_int (P := Tryz.prog) w 175 2 .f64 .i64 (fl a) a (by kernel_rfl) Tryz.underlying2 (toInt_rep (rep_fl ha) ha)
    rw [show unE 9 (ptV a b) = (numV a, 0) from rfl]
    generalize outV (numV a, 0) = R at *
    clear ha hb
    go_enter Tryz.func125, Tryz.ntmps125
    go_wp2_with (go_at_call 140; refine (vnumber_any _ _).mono ?_; rintro e w1 ⟨rfl, rfl⟩)
    refine bodyPost_ret ?_ rfl ⟨HO.out.symm, ?_⟩
    · simp [results, Tryz.results125, go_sem]
    · exact (((Below.refl _ _).alloc (Nat.le_refl _) _).alloc (by first | (simp; done) | (simp; omega)) _).alloc (by first | (simp; done) | (simp; omega)) _
  · have HO := Lib.hid (out_num b)
    unfold numO at HO
    have h4 := fun (w : World) => run_convert_float_int (P := Tryz.prog) w 175 2 .f64 .i64 (fl b) b (by kernel_rfl) Tryz.underlying2 (toInt_rep (rep_fl hb) hb)
    rw [show unE 10 (ptV a b) = (numV b, 0) from rfl]
    generalize outV (numV b, 0) = R at *
    clear ha hb
    go_enter Tryz.func125, Tryz.ntmps125
    go_wp2_with (go_at_call 140; refine (vnumber_any _ _).mono ?_; rintro e w1 ⟨rfl, rfl⟩)
    refine bodyPost_ret ?_ rfl ⟨HO.out.symm, ?_⟩
    · simp [results, Tryz.results125, go_sem]
    · exact (((Below.refl _ _).alloc (Nat.le_refl _) _).alloc (by first | (simp; done) | (simp; omega)) _).alloc (by first | (simp; done) | (simp; omega)) _

theorem ok_cases {v : VA} (h : OkV v) : (∃ n, inL n = true ∧ v = numV n) ∨ (∃ b, v = truV b) ∨ (∃ a b, inB a = true ∧ inB b = true ∧ v = ptV a b) := by
  obtain ⟨h1, h2⟩ := h
  obtain ⟨k, a, b⟩ := v
  unfold rightV at h1
  simp only at h1 h2
  by_cases k1 : k = 1
  · rw [if_pos k1] at h1
    simp at h1
    subst k1 h1
    exact Or.inl ⟨a, h2, rfl⟩
  · rw [if_neg k1] at h1
    by_cases k2 : k = 2
    · rw [if_pos k2] at h1
      simp at h1
      obtain ⟨rfl, h3⟩ := h1
      subst k2
      rcases h3 with rfl | rfl
      · exact Or.inr (Or.inl ⟨false, rfl⟩)
      · exact Or.inr (Or.inl ⟨true, rfl⟩)
    · rw [if_neg k2] at h1
      by_cases k3 : k = 3
      · rw [if_pos k3] at h1
        simp at h1
        subst k3
        exact Or.inr (Or.inr ⟨a, b, h1.1, h1.2, rfl⟩)
      · rw [if_neg k3] at h1; cases h1

theorem operandOf_any (v : VA) (w : World) (h : OkV v) :
    Calls Tryz.prog 166 #[.agg #[.int .i64 v.kd, .int .i64 v.a, .int .i64 v.b]] w fun e w' => e = outV (v, 0) ∧ Below w.heap.size w w' := by
  rcases ok_cases h with ⟨n, _, rfl⟩ | ⟨b, rfl⟩ | ⟨a, b, ha, hb, rfl⟩
  · have HO := Lib.hid (out_num n)
    unfold numO at HO
    generalize outV (numV n, 0) = R at *
    unfold numV
    go_enter Tryz.func166, Tryz.ntmps166
    go_wp2_with (go_at_call 140; refine (vnumber_any _ _).mono ?_; rintro e w1 ⟨rfl, rfl⟩)
    refine bodyPost_ret ?_ rfl ⟨HO.out.symm, ?_⟩
    · simp [results, Tryz.results166, go_sem]
    · exact (((Below.refl _ _).alloc (Nat.le_refl _) _).alloc (by first | (simp; done) | (simp; omega)) _).alloc (by first | (simp; done) | (simp; omega)) _
  · cases b
    · have HO := Lib.hid (out_tru false)
      unfold truO at HO
      generalize outV (truV false, 0) = R at *
      show Calls _ _ #[.agg #[.int .i64 2, .int .i64 0, .int .i64 0]] _ _
      go_enter Tryz.func166, Tryz.ntmps166
      go_wp2_with (go_at_call 143; refine (truth_any _ _).mono ?_; rintro e w1 ⟨rfl, rfl⟩)
      refine bodyPost_ret ?_ rfl ⟨HO.out.symm, ?_⟩
      · simp [results, Tryz.results166, go_sem]
      · exact (((Below.refl _ _).alloc (Nat.le_refl _) _).alloc (by first | (simp; done) | (simp; omega)) _).alloc (by first | (simp; done) | (simp; omega)) _
    · have HO := Lib.hid (out_tru true)
      unfold truO at HO
      generalize outV (truV true, 0) = R at *
      show Calls _ _ #[.agg #[.int .i64 2, .int .i64 1, .int .i64 0]] _ _
      go_enter Tryz.func166, Tryz.ntmps166
      go_wp2_with (go_at_call 143; refine (truth_any _ _).mono ?_; rintro e w1 ⟨rfl, rfl⟩)
      refine bodyPost_ret ?_ rfl ⟨HO.out.symm, ?_⟩
      · simp [results, Tryz.results166, go_sem]
      · exact (((Below.refl _ _).alloc (Nat.le_refl _) _).alloc (by first | (simp; done) | (simp; omega)) _).alloc (by first | (simp; done) | (simp; omega)) _
  · obtain ⟨g1, g2, ge, hg⟩ := outC_form a b
    have HOC := Lib.hid hg
    have HA := Lib.hid (fun W => made_any a b W)
    have HPT := Lib.hid (fun W => point_any a b g1 g2 ge W hg)
    have e : (ptV a b, (0 : Int)) = ptE a b := by unfold ptE; rw [if_pos (by rw [ha, hb]; rfl)]
    rw [e]
    obtain ⟨p, hp⟩ : ∃ p, ptE a b = p := ⟨_, rfl⟩
    rw [hp] at HPT ⊢
    clear ha hb hg hp e h
    unfold ptV
    obtain ⟨k, x, t, c1, c2, er, hf⟩ := out_form (p)
    have HF := Lib.hid hf
    clear hf
    go_enter Tryz.func166, Tryz.ntmps166
    go_wp2_with fail
    refine (HA.out _).mono ?_
    rintro e w' ⟨rfl, rfl⟩
    rw [HOC.out]
    go_wp2_with fail
    refine (HPT.out _).mono ?_
    rintro e w1 ⟨rfl, hb1⟩
    rw [HF.out]
    obtain ⟨hh, hbw⟩ := fwd4 (show (w.alloc _).heap.size = w.heap.size + 1 by simp) ((Below.refl _ _).alloc (Nat.le_refl _) _) hb1
    obtain ⟨d0, d1, d2, d3, f0, f1, f2, f3⟩ := at4 hh
    clear hb1
    go_wp2
    obtain ⟨⟨r0, r1, r2, r3⟩, hbf⟩ := fin4 hh (by omega) hbw (.int .i64 k) (.int .i64 x) (.bool t) (.complex .f64 c1 c2)
    refine bodyPost_ret ?_ rfl ⟨HF.out.symm, hbf⟩
    simp [results, Tryz.results166, go_sem, r0, r1, r2, r3]
end Go.Proofs.YtjgfkmakfdepcaaGreatDoor
