/- Own texts, joined: Ve, Vg, Vy. -/
import Derived.Test.YtjgfkmakfdepcaaGreatDoorR9
import Derived.Test.YtjgfkmakfdepcaaGreatDoorR12
import Derived.Test.YtjgfkmakfdepcaaGreatDoorRows
namespace Go.Proofs.YtjgfkmakfdepcaaGreatDoor
open Go.RowKit

theorem run_equalIn_complex {P : Program} (w : World) (d : Nat) (t : TypeId) (k : FloatKind) (a b c e : Nat) (h : P.underlying t = some (.complex k)) : (Op.equalIn (d + 1) t (.complex k a b) (.complex k c e)).run P w = .ok ((k.format.order a c == some .eq) && (k.format.order b e == some .eq)) w := by
  simp [Op.equalIn, run_underlying h, Op.floatEq]
theorem order0 : (FloatKind.f64.format.order 0 0 == some .eq) = true := by kernel_rfl
set_option maxRecDepth 100000 in
set_option maxHeartbeats 2000000 in
theorem btw_num_num (op : Int) (a : Int) (c : Int) (w : World) (h : 11 ≤ op ∧ op ≤ 23) (h1 : inL a = true) (h2 : inL c = true) :
    Calls Tryz.prog 126 #[.int .i64 op, .agg #[.int .i64 1, .int .i64 a, .bool false, .complex .f64 0 0], .agg #[.int .i64 1, .int .i64 c, .bool false, .complex .f64 0 0]] w fun e w' => e = outV (joinE op (numV a) (numV c)) ∧ Below w.heap.size w w' := by
  have ho := order0
  have hq := fun (W : World) (a b c e : Nat) => run_equalIn_complex (P := Tryz.prog) W 9998 142 .f64 a b c e Tryz.underlying142
  by_cases h16 : op = 16
  · subst h16
    by_cases ca : a = c
    · have e : joinE 16 (numV a) (numV c) = (truV true, 0) := by
        show (truV (decide (a = c ∧ (0 : Int) = 0)), (0 : Int)) = _
        simp [ca]
      rw [e]
      have HO := Lib.hid (out_tru true)
      unfold truO at HO
      generalize outV (truV true, 0) = R at *
      clear e h1 h2
      subst ca
      go_enter Tryz.func126, Tryz.ntmps126
      go_wp2_with (go_at_call 143; refine (truth_any _ _).mono ?_; rintro e w1 ⟨rfl, rfl⟩)
      refine bodyPost_ret ?_ rfl ⟨HO.out.symm, ?_⟩
      · simp [results, Tryz.results126, go_sem]
      · exact ((((Below.refl _ _).alloc (Nat.le_refl _) _).alloc (by first | (simp; done) | (simp; omega)) _).alloc (by first | (simp; done) | (simp; omega)) _).alloc (by first | (simp; done) | (simp; omega)) _
    · have e : joinE 16 (numV a) (numV c) = (truV false, 0) := by
        show (truV (decide (a = c ∧ (0 : Int) = 0)), (0 : Int)) = _
        simp [ca]
      rw [e]
      have HO := Lib.hid (out_tru false)
      unfold truO at HO
      generalize outV (truV false, 0) = R at *
      clear e h1 h2
      have ta := int_ne ca
      go_enter Tryz.func126, Tryz.ntmps126
      go_wp2_with (go_at_call 143; refine (truth_any _ _).mono ?_; rintro e w1 ⟨rfl, rfl⟩)
      refine bodyPost_ret ?_ rfl ⟨HO.out.symm, ?_⟩
      · simp [results, Tryz.results126, go_sem]
      · exact ((((Below.refl _ _).alloc (Nat.le_refl _) _).alloc (by first | (simp; done) | (simp; omega)) _).alloc (by first | (simp; done) | (simp; omega)) _).alloc (by first | (simp; done) | (simp; omega)) _
  by_cases h17 : op = 17
  · subst h17
    by_cases ca : a = c
    · have e : joinE 17 (numV a) (numV c) = (truV false, 0) := by
        show (truV (!decide (a = c ∧ (0 : Int) = 0)), (0 : Int)) = _
        simp [ca]
      rw [e]
      have HO := Lib.hid (out_tru false)
      unfold truO at HO
      generalize outV (truV false, 0) = R at *
      clear e h1 h2
      subst ca
      go_enter Tryz.func126, Tryz.ntmps126
      go_wp2_with (go_at_call 143; refine (truth_any _ _).mono ?_; rintro e w1 ⟨rfl, rfl⟩)
      refine bodyPost_ret ?_ rfl ⟨HO.out.symm, ?_⟩
      · simp [results, Tryz.results126, go_sem]
      · exact ((((Below.refl _ _).alloc (Nat.le_refl _) _).alloc (by first | (simp; done) | (simp; omega)) _).alloc (by first | (simp; done) | (simp; omega)) _).alloc (by first | (simp; done) | (simp; omega)) _
    · have e : joinE 17 (numV a) (numV c) = (truV true, 0) := by
        show (truV (!decide (a = c ∧ (0 : Int) = 0)), (0 : Int)) = _
        simp [ca]
      rw [e]
      have HO := Lib.hid (out_tru true)
      unfold truO at HO
      generalize outV (truV true, 0) = R at *
      clear e h1 h2
      have ta := int_ne ca
      go_enter Tryz.func126, Tryz.ntmps126
      go_wp2_with (go_at_call 143; refine (truth_any _ _).mono ?_; rintro e w1 ⟨rfl, rfl⟩)
      refine bodyPost_ret ?_ rfl ⟨HO.out.symm, ?_⟩
      · simp [results, Tryz.results126, go_sem]
      · exact ((((Below.refl _ _).alloc (Nat.le_refl _) _).alloc (by first | (simp; done) | (simp; omega)) _).alloc (by first | (simp; done) | (simp; omega)) _).alloc (by first | (simp; done) | (simp; omega)) _
  have t1 := int_ne h16
  have t2 := int_ne h17
  have e : joinE op (numV a) (numV c) = numbersE op a c := by
    unfold joinE
    rw [if_neg (by simp [numV]), if_neg h16, if_neg h17]
    rfl
  rw [e]
  have HC := Lib.hid (fun W => ofNumbers_any op a c W h h1 h2)
  generalize numbersE op a c = r at *
  clear e h16 h17 h1 h2
  obtain ⟨k, x, t, c1, c2, er, hf⟩ := out_form (r)
  have HF := Lib.hid hf
  clear hf
  go_enter Tryz.func126, Tryz.ntmps126
  go_wp2_with fail
  refine (HC.out _).mono ?_
  rintro e w1 ⟨rfl, hb1⟩
  rw [HF.out]
  obtain ⟨hh, hbw⟩ := fwd4 (show ((w.alloc _).alloc _).heap.size = w.heap.size + 1 + 1 by simp) (((Below.refl _ _).alloc (Nat.le_refl _) _).alloc (by simp) _) hb1
  obtain ⟨d0, d1, d2, d3, f0, f1, f2, f3⟩ := at4 hh
  clear hb1
  go_wp2
  obtain ⟨⟨r0, r1, r2, r3⟩, hbf⟩ := fin4 hh (by omega) hbw (.int .i64 k) (.int .i64 x) (.bool t) (.complex .f64 c1 c2)
  refine bodyPost_ret ?_ rfl ⟨HF.out.symm, hbf⟩
  simp [results, Tryz.results126, go_sem, r0, r1, r2, r3]

set_option maxHeartbeats 1000000 in
theorem btw_num_tru (op : Int) (a : Int) (q : Bool) (w : World) (_h : 11 ≤ op ∧ op ≤ 23) :
    Calls Tryz.prog 126 #[.int .i64 op, .agg #[.int .i64 1, .int .i64 a, .bool false, .complex .f64 0 0], .agg #[.int .i64 2, .int .i64 0, .bool q, .complex .f64 0 0]] w fun e w' => e = outV (joinE op (numV a) (truV q)) ∧ Below w.heap.size w w' := by
  have HO := Lib.hid (out_er 8)
  unfold zeroO at HO
  rw [show joinE op (numV a) (truV q) = erV 8 from if_pos (by simp [numV, truV])]
  generalize outV (erV 8) = R at *
  go_enter Tryz.func126, Tryz.ntmps126
  go_wp2
  refine bodyPost_ret ?_ rfl ⟨HO.out.symm, ?_⟩
  · simp [results, Tryz.results126, go_sem]
  · exact (((Below.refl _ _).alloc (Nat.le_refl _) _).alloc (by first | (simp; done) | (simp; omega)) _).alloc (by first | (simp; done) | (simp; omega)) _

set_option maxHeartbeats 1000000 in
theorem btw_num_pt (op : Int) (a : Int) (c : Int) (d : Int) (w : World) (_h : 11 ≤ op ∧ op ≤ 23) :
    Calls Tryz.prog 126 #[.int .i64 op, .agg #[.int .i64 1, .int .i64 a, .bool false, .complex .f64 0 0], .agg #[.int .i64 3, .int .i64 0, .bool false, .complex .f64 (fl c) (fl d)]] w fun e w' => e = outV (joinE op (numV a) (ptV c d)) ∧ Below w.heap.size w w' := by
  have HO := Lib.hid (out_er 8)
  unfold zeroO at HO
  rw [show joinE op (numV a) (ptV c d) = erV 8 from if_pos (by simp [numV, ptV])]
  generalize outV (erV 8) = R at *
  go_enter Tryz.func126, Tryz.ntmps126
  go_wp2
  refine bodyPost_ret ?_ rfl ⟨HO.out.symm, ?_⟩
  · simp [results, Tryz.results126, go_sem]
  · exact (((Below.refl _ _).alloc (Nat.le_refl _) _).alloc (by first | (simp; done) | (simp; omega)) _).alloc (by first | (simp; done) | (simp; omega)) _

set_option maxHeartbeats 1000000 in
theorem btw_tru_num (op : Int) (p : Bool) (c : Int) (w : World) (_h : 11 ≤ op ∧ op ≤ 23) :
    Calls Tryz.prog 126 #[.int .i64 op, .agg #[.int .i64 2, .int .i64 0, .bool p, .complex .f64 0 0], .agg #[.int .i64 1, .int .i64 c, .bool false, .complex .f64 0 0]] w fun e w' => e = outV (joinE op (truV p) (numV c)) ∧ Below w.heap.size w w' := by
  have HO := Lib.hid (out_er 8)
  unfold zeroO at HO
  rw [show joinE op (truV p) (numV c) = erV 8 from if_pos (by simp [numV, truV])]
  generalize outV (erV 8) = R at *
  go_enter Tryz.func126, Tryz.ntmps126
  go_wp2
  refine bodyPost_ret ?_ rfl ⟨HO.out.symm, ?_⟩
  · simp [results, Tryz.results126, go_sem]
  · exact (((Below.refl _ _).alloc (Nat.le_refl _) _).alloc (by first | (simp; done) | (simp; omega)) _).alloc (by first | (simp; done) | (simp; omega)) _

set_option maxRecDepth 100000 in
set_option maxHeartbeats 2000000 in
theorem btw_tru_tru (op : Int) (p : Bool) (q : Bool) (w : World) (h : 11 ≤ op ∧ op ≤ 23) :
    Calls Tryz.prog 126 #[.int .i64 op, .agg #[.int .i64 2, .int .i64 0, .bool p, .complex .f64 0 0], .agg #[.int .i64 2, .int .i64 0, .bool q, .complex .f64 0 0]] w fun e w' => e = outV (joinE op (truV p) (truV q)) ∧ Below w.heap.size w w' := by
  have ho := order0
  have hq := fun (W : World) (a b c e : Nat) => run_equalIn_complex (P := Tryz.prog) W 9998 142 .f64 a b c e Tryz.underlying142
  by_cases h16 : op = 16
  · subst h16
    cases p <;> cases q
    · rw [show joinE 16 (truV false) (truV false) = (truV true, 0) from rfl]
      have HO := Lib.hid (out_tru true)
      unfold truO at HO
      generalize outV (truV true, 0) = R at *
      go_enter Tryz.func126, Tryz.ntmps126
      go_wp2_with (go_at_call 143; refine (truth_any _ _).mono ?_; rintro e w1 ⟨rfl, rfl⟩)
      refine bodyPost_ret ?_ rfl ⟨HO.out.symm, ?_⟩
      · simp [results, Tryz.results126, go_sem]
      · exact ((((Below.refl _ _).alloc (Nat.le_refl _) _).alloc (by first | (simp; done) | (simp; omega)) _).alloc (by first | (simp; done) | (simp; omega)) _).alloc (by first | (simp; done) | (simp; omega)) _
    · rw [show joinE 16 (truV false) (truV true) = (truV false, 0) from rfl]
      have HO := Lib.hid (out_tru false)
      unfold truO at HO
      generalize outV (truV false, 0) = R at *
      go_enter Tryz.func126, Tryz.ntmps126
      go_wp2_with (go_at_call 143; refine (truth_any _ _).mono ?_; rintro e w1 ⟨rfl, rfl⟩)
      refine bodyPost_ret ?_ rfl ⟨HO.out.symm, ?_⟩
      · simp [results, Tryz.results126, go_sem]
      · exact ((((Below.refl _ _).alloc (Nat.le_refl _) _).alloc (by first | (simp; done) | (simp; omega)) _).alloc (by first | (simp; done) | (simp; omega)) _).alloc (by first | (simp; done) | (simp; omega)) _
    · rw [show joinE 16 (truV true) (truV false) = (truV false, 0) from rfl]
      have HO := Lib.hid (out_tru false)
      unfold truO at HO
      generalize outV (truV false, 0) = R at *
      go_enter Tryz.func126, Tryz.ntmps126
      go_wp2_with (go_at_call 143; refine (truth_any _ _).mono ?_; rintro e w1 ⟨rfl, rfl⟩)
      refine bodyPost_ret ?_ rfl ⟨HO.out.symm, ?_⟩
      · simp [results, Tryz.results126, go_sem]
      · exact ((((Below.refl _ _).alloc (Nat.le_refl _) _).alloc (by first | (simp; done) | (simp; omega)) _).alloc (by first | (simp; done) | (simp; omega)) _).alloc (by first | (simp; done) | (simp; omega)) _
    · rw [show joinE 16 (truV true) (truV true) = (truV true, 0) from rfl]
      have HO := Lib.hid (out_tru true)
      unfold truO at HO
      generalize outV (truV true, 0) = R at *
      go_enter Tryz.func126, Tryz.ntmps126
      go_wp2_with (go_at_call 143; refine (truth_any _ _).mono ?_; rintro e w1 ⟨rfl, rfl⟩)
      refine bodyPost_ret ?_ rfl ⟨HO.out.symm, ?_⟩
      · simp [results, Tryz.results126, go_sem]
      · exact ((((Below.refl _ _).alloc (Nat.le_refl _) _).alloc (by first | (simp; done) | (simp; omega)) _).alloc (by first | (simp; done) | (simp; omega)) _).alloc (by first | (simp; done) | (simp; omega)) _
  by_cases h17 : op = 17
  · subst h17
    cases p <;> cases q
    · rw [show joinE 17 (truV false) (truV false) = (truV false, 0) from rfl]
      have HO := Lib.hid (out_tru false)
      unfold truO at HO
      generalize outV (truV false, 0) = R at *
      go_enter Tryz.func126, Tryz.ntmps126
      go_wp2_with (go_at_call 143; refine (truth_any _ _).mono ?_; rintro e w1 ⟨rfl, rfl⟩)
      refine bodyPost_ret ?_ rfl ⟨HO.out.symm, ?_⟩
      · simp [results, Tryz.results126, go_sem]
      · exact ((((Below.refl _ _).alloc (Nat.le_refl _) _).alloc (by first | (simp; done) | (simp; omega)) _).alloc (by first | (simp; done) | (simp; omega)) _).alloc (by first | (simp; done) | (simp; omega)) _
    · rw [show joinE 17 (truV false) (truV true) = (truV true, 0) from rfl]
      have HO := Lib.hid (out_tru true)
      unfold truO at HO
      generalize outV (truV true, 0) = R at *
      go_enter Tryz.func126, Tryz.ntmps126
      go_wp2_with (go_at_call 143; refine (truth_any _ _).mono ?_; rintro e w1 ⟨rfl, rfl⟩)
      refine bodyPost_ret ?_ rfl ⟨HO.out.symm, ?_⟩
      · simp [results, Tryz.results126, go_sem]
      · exact ((((Below.refl _ _).alloc (Nat.le_refl _) _).alloc (by first | (simp; done) | (simp; omega)) _).alloc (by first | (simp; done) | (simp; omega)) _).alloc (by first | (simp; done) | (simp; omega)) _
    · rw [show joinE 17 (truV true) (truV false) = (truV true, 0) from rfl]
      have HO := Lib.hid (out_tru true)
      unfold truO at HO
      generalize outV (truV true, 0) = R at *
      go_enter Tryz.func126, Tryz.ntmps126
      go_wp2_with (go_at_call 143; refine (truth_any _ _).mono ?_; rintro e w1 ⟨rfl, rfl⟩)
      refine bodyPost_ret ?_ rfl ⟨HO.out.symm, ?_⟩
      · simp [results, Tryz.results126, go_sem]
      · exact ((((Below.refl _ _).alloc (Nat.le_refl _) _).alloc (by first | (simp; done) | (simp; omega)) _).alloc (by first | (simp; done) | (simp; omega)) _).alloc (by first | (simp; done) | (simp; omega)) _
    · rw [show joinE 17 (truV true) (truV true) = (truV false, 0) from rfl]
      have HO := Lib.hid (out_tru false)
      unfold truO at HO
      generalize outV (truV false, 0) = R at *
      go_enter Tryz.func126, Tryz.ntmps126
      go_wp2_with (go_at_call 143; refine (truth_any _ _).mono ?_; rintro e w1 ⟨rfl, rfl⟩)
      refine bodyPost_ret ?_ rfl ⟨HO.out.symm, ?_⟩
      · simp [results, Tryz.results126, go_sem]
      · exact ((((Below.refl _ _).alloc (Nat.le_refl _) _).alloc (by first | (simp; done) | (simp; omega)) _).alloc (by first | (simp; done) | (simp; omega)) _).alloc (by first | (simp; done) | (simp; omega)) _
  have t1 := int_ne h16
  have t2 := int_ne h17
  have e : joinE op (truV p) (truV q) = truthsE op p q := by
    unfold joinE
    rw [if_neg (by simp [truV]), if_neg h16, if_neg h17]
    cases p <;> cases q <;> rfl
  rw [e]
  have HC := Lib.hid (fun W => ofTruths_any op p q W h)
  generalize truthsE op p q = r at *
  clear e h16 h17 
  obtain ⟨k, x, t, c1, c2, er, hf⟩ := out_form (r)
  have HF := Lib.hid hf
  clear hf
  go_enter Tryz.func126, Tryz.ntmps126
  go_wp2_with fail
  refine (HC.out _).mono ?_
  rintro e w1 ⟨rfl, hb1⟩
  rw [HF.out]
  obtain ⟨hh, hbw⟩ := fwd4 (show ((w.alloc _).alloc _).heap.size = w.heap.size + 1 + 1 by simp) (((Below.refl _ _).alloc (Nat.le_refl _) _).alloc (by simp) _) hb1
  obtain ⟨d0, d1, d2, d3, f0, f1, f2, f3⟩ := at4 hh
  clear hb1
  go_wp2
  obtain ⟨⟨r0, r1, r2, r3⟩, hbf⟩ := fin4 hh (by omega) hbw (.int .i64 k) (.int .i64 x) (.bool t) (.complex .f64 c1 c2)
  refine bodyPost_ret ?_ rfl ⟨HF.out.symm, hbf⟩
  simp [results, Tryz.results126, go_sem, r0, r1, r2, r3]

set_option maxHeartbeats 1000000 in
theorem btw_tru_pt (op : Int) (p : Bool) (c : Int) (d : Int) (w : World) (_h : 11 ≤ op ∧ op ≤ 23) :
    Calls Tryz.prog 126 #[.int .i64 op, .agg #[.int .i64 2, .int .i64 0, .bool p, .complex .f64 0 0], .agg #[.int .i64 3, .int .i64 0, .bool false, .complex .f64 (fl c) (fl d)]] w fun e w' => e = outV (joinE op (truV p) (ptV c d)) ∧ Below w.heap.size w w' := by
  have HO := Lib.hid (out_er 8)
  unfold zeroO at HO
  rw [show joinE op (truV p) (ptV c d) = erV 8 from if_pos (by simp [truV, ptV])]
  generalize outV (erV 8) = R at *
  go_enter Tryz.func126, Tryz.ntmps126
  go_wp2
  refine bodyPost_ret ?_ rfl ⟨HO.out.symm, ?_⟩
  · simp [results, Tryz.results126, go_sem]
  · exact (((Below.refl _ _).alloc (Nat.le_refl _) _).alloc (by first | (simp; done) | (simp; omega)) _).alloc (by first | (simp; done) | (simp; omega)) _

set_option maxHeartbeats 1000000 in
theorem btw_pt_num (op : Int) (a : Int) (b : Int) (c : Int) (w : World) (_h : 11 ≤ op ∧ op ≤ 23) :
    Calls Tryz.prog 126 #[.int .i64 op, .agg #[.int .i64 3, .int .i64 0, .bool false, .complex .f64 (fl a) (fl b)], .agg #[.int .i64 1, .int .i64 c, .bool false, .complex .f64 0 0]] w fun e w' => e = outV (joinE op (ptV a b) (numV c)) ∧ Below w.heap.size w w' := by
  have HO := Lib.hid (out_er 8)
  unfold zeroO at HO
  rw [show joinE op (ptV a b) (numV c) = erV 8 from if_pos (by simp [numV, ptV])]
  generalize outV (erV 8) = R at *
  go_enter Tryz.func126, Tryz.ntmps126
  go_wp2
  refine bodyPost_ret ?_ rfl ⟨HO.out.symm, ?_⟩
  · simp [results, Tryz.results126, go_sem]
  · exact (((Below.refl _ _).alloc (Nat.le_refl _) _).alloc (by first | (simp; done) | (simp; omega)) _).alloc (by first | (simp; done) | (simp; omega)) _

set_option maxHeartbeats 1000000 in
theorem btw_pt_tru (op : Int) (a : Int) (b : Int) (q : Bool) (w : World) (_h : 11 ≤ op ∧ op ≤ 23) :
    Calls Tryz.prog 126 #[.int .i64 op, .agg #[.int .i64 3, .int .i64 0, .bool false, .complex .f64 (fl a) (fl b)], .agg #[.int .i64 2, .int .i64 0, .bool q, .complex .f64 0 0]] w fun e w' => e = outV (joinE op (ptV a b) (truV q)) ∧ Below w.heap.size w w' := by
  have HO := Lib.hid (out_er 8)
  unfold zeroO at HO
  rw [show joinE op (ptV a b) (truV q) = erV 8 from if_pos (by simp [truV, ptV])]
  generalize outV (erV 8) = R at *
  go_enter Tryz.func126, Tryz.ntmps126
  go_wp2
  refine bodyPost_ret ?_ rfl ⟨HO.out.symm, ?_⟩
  · simp [results, Tryz.results126, go_sem]
  · exact (((Below.refl _ _).alloc (Nat.le_refl _) _).alloc (by first | (simp; done) | (simp; omega)) _).alloc (by first | (simp; done) | (simp; omega)) _

set_option maxRecDepth 100000 in
set_option maxHeartbeats 2000000 in
theorem btw_pt_pt (op : Int) (a : Int) (b : Int) (c : Int) (d : Int) (w : World) (h : 11 ≤ op ∧ op ≤ 23) (h1 : inB a = true) (h2 : inB b = true) (h3 : inB c = true) (h4 : inB d = true) :
    Calls Tryz.prog 126 #[.int .i64 op, .agg #[.int .i64 3, .int .i64 0, .bool false, .complex .f64 (fl a) (fl b)], .agg #[.int .i64 3, .int .i64 0, .bool false, .complex .f64 (fl c) (fl d)]] w fun e w' => e = outV (joinE op (ptV a b) (ptV c d)) ∧ Below w.heap.size w w' := by
  have ho := order0
  have hq := fun (W : World) (a b c e : Nat) => run_equalIn_complex (P := Tryz.prog) W 9998 142 .f64 a b c e Tryz.underlying142
  by_cases h16 : op = 16
  · subst h16
    have k1 := ord_eq (rep_fl h1) (rep_fl h3)
    have k2 := ord_eq (rep_fl h2) (rep_fl h4)
    clear h1 h2 h3 h4
    by_cases ca : a = c <;> by_cases cb : b = d
    · rw [decide_eq_true ca] at k1
      rw [decide_eq_true cb] at k2
      have e : joinE 16 (ptV a b) (ptV c d) = (truV true, 0) := by
        show (truV (decide (a = c ∧ b = d)), (0 : Int)) = _
        simp [ca, cb]
      rw [e]
      have HO := Lib.hid (out_tru true)
      unfold truO at HO
      generalize outV (truV true, 0) = R at *
      clear e ca cb
      go_enter Tryz.func126, Tryz.ntmps126
      go_wp2_with (go_at_call 143; refine (truth_any _ _).mono ?_; rintro e w1 ⟨rfl, rfl⟩)
      refine bodyPost_ret ?_ rfl ⟨HO.out.symm, ?_⟩
      · simp [results, Tryz.results126, go_sem]
      · exact ((((Below.refl _ _).alloc (Nat.le_refl _) _).alloc (by first | (simp; done) | (simp; omega)) _).alloc (by first | (simp; done) | (simp; omega)) _).alloc (by first | (simp; done) | (simp; omega)) _
    · rw [decide_eq_true ca] at k1
      rw [decide_eq_false cb] at k2
      have e : joinE 16 (ptV a b) (ptV c d) = (truV false, 0) := by
        show (truV (decide (a = c ∧ b = d)), (0 : Int)) = _
        simp [ca, cb]
      rw [e]
      have HO := Lib.hid (out_tru false)
      unfold truO at HO
      generalize outV (truV false, 0) = R at *
      clear e ca cb
      go_enter Tryz.func126, Tryz.ntmps126
      go_wp2_with (go_at_call 143; refine (truth_any _ _).mono ?_; rintro e w1 ⟨rfl, rfl⟩)
      refine bodyPost_ret ?_ rfl ⟨HO.out.symm, ?_⟩
      · simp [results, Tryz.results126, go_sem]
      · exact ((((Below.refl _ _).alloc (Nat.le_refl _) _).alloc (by first | (simp; done) | (simp; omega)) _).alloc (by first | (simp; done) | (simp; omega)) _).alloc (by first | (simp; done) | (simp; omega)) _
    · rw [decide_eq_false ca] at k1
      rw [decide_eq_true cb] at k2
      have e : joinE 16 (ptV a b) (ptV c d) = (truV false, 0) := by
        show (truV (decide (a = c ∧ b = d)), (0 : Int)) = _
        simp [ca, cb]
      rw [e]
      have HO := Lib.hid (out_tru false)
      unfold truO at HO
      generalize outV (truV false, 0) = R at *
      clear e ca cb
      go_enter Tryz.func126, Tryz.ntmps126
      go_wp2_with (go_at_call 143; refine (truth_any _ _).mono ?_; rintro e w1 ⟨rfl, rfl⟩)
      refine bodyPost_ret ?_ rfl ⟨HO.out.symm, ?_⟩
      · simp [results, Tryz.results126, go_sem]
      · exact ((((Below.refl _ _).alloc (Nat.le_refl _) _).alloc (by first | (simp; done) | (simp; omega)) _).alloc (by first | (simp; done) | (simp; omega)) _).alloc (by first | (simp; done) | (simp; omega)) _
    · rw [decide_eq_false ca] at k1
      rw [decide_eq_false cb] at k2
      have e : joinE 16 (ptV a b) (ptV c d) = (truV false, 0) := by
        show (truV (decide (a = c ∧ b = d)), (0 : Int)) = _
        simp [ca, cb]
      rw [e]
      have HO := Lib.hid (out_tru false)
      unfold truO at HO
      generalize outV (truV false, 0) = R at *
      clear e ca cb
      go_enter Tryz.func126, Tryz.ntmps126
      go_wp2_with (go_at_call 143; refine (truth_any _ _).mono ?_; rintro e w1 ⟨rfl, rfl⟩)
      refine bodyPost_ret ?_ rfl ⟨HO.out.symm, ?_⟩
      · simp [results, Tryz.results126, go_sem]
      · exact ((((Below.refl _ _).alloc (Nat.le_refl _) _).alloc (by first | (simp; done) | (simp; omega)) _).alloc (by first | (simp; done) | (simp; omega)) _).alloc (by first | (simp; done) | (simp; omega)) _
  by_cases h17 : op = 17
  · subst h17
    have k1 := ord_eq (rep_fl h1) (rep_fl h3)
    have k2 := ord_eq (rep_fl h2) (rep_fl h4)
    clear h1 h2 h3 h4
    by_cases ca : a = c <;> by_cases cb : b = d
    · rw [decide_eq_true ca] at k1
      rw [decide_eq_true cb] at k2
      have e : joinE 17 (ptV a b) (ptV c d) = (truV false, 0) := by
        show (truV (!decide (a = c ∧ b = d)), (0 : Int)) = _
        simp [ca, cb]
      rw [e]
      have HO := Lib.hid (out_tru false)
      unfold truO at HO
      generalize outV (truV false, 0) = R at *
      clear e ca cb
      go_enter Tryz.func126, Tryz.ntmps126
      go_wp2_with (go_at_call 143; refine (truth_any _ _).mono ?_; rintro e w1 ⟨rfl, rfl⟩)
      refine bodyPost_ret ?_ rfl ⟨HO.out.symm, ?_⟩
      · simp [results, Tryz.results126, go_sem]
      · exact ((((Below.refl _ _).alloc (Nat.le_refl _) _).alloc (by first | (simp; done) | (simp; omega)) _).alloc (by first | (simp; done) | (simp; omega)) _).alloc (by first | (simp; done) | (simp; omega)) _
    · rw [decide_eq_true ca] at k1
      rw [decide_eq_false cb] at k2
      have e : joinE 17 (ptV a b) (ptV c d) = (truV true, 0) := by
        show (truV (!decide (a = c ∧ b = d)), (0 : Int)) = _
        simp [ca, cb]
      rw [e]
      have HO := Lib.hid (out_tru true)
      unfold truO at HO
      generalize outV (truV true, 0) = R at *
      clear e ca cb
      go_enter Tryz.func126, Tryz.ntmps126
      go_wp2_with (go_at_call 143; refine (truth_any _ _).mono ?_; rintro e w1 ⟨rfl, rfl⟩)
      refine bodyPost_ret ?_ rfl ⟨HO.out.symm, ?_⟩
      · simp [results, Tryz.results126, go_sem]
      · exact ((((Below.refl _ _).alloc (Nat.le_refl _) _).alloc (by first | (simp; done) | (simp; omega)) _).alloc (by first | (simp; done) | (simp; omega)) _).alloc (by first | (simp; done) | (simp; omega)) _
    · rw [decide_eq_false ca] at k1
      rw [decide_eq_true cb] at k2
      have e : joinE 17 (ptV a b) (ptV c d) = (truV true, 0) := by
        show (truV (!decide (a = c ∧ b = d)), (0 : Int)) = _
        simp [ca, cb]
      rw [e]
      have HO := Lib.hid (out_tru true)
      unfold truO at HO
      generalize outV (truV true, 0) = R at *
      clear e ca cb
      go_enter Tryz.func126, Tryz.ntmps126
      go_wp2_with (go_at_call 143; refine (truth_any _ _).mono ?_; rintro e w1 ⟨rfl, rfl⟩)
      refine bodyPost_ret ?_ rfl ⟨HO.out.symm, ?_⟩
      · simp [results, Tryz.results126, go_sem]
      · exact ((((Below.refl _ _).alloc (Nat.le_refl _) _).alloc (by first | (simp; done) | (simp; omega)) _).alloc (by first | (simp; done) | (simp; omega)) _).alloc (by first | (simp; done) | (simp; omega)) _
    · rw [decide_eq_false ca] at k1
      rw [decide_eq_false cb] at k2
      have e : joinE 17 (ptV a b) (ptV c d) = (truV true, 0) := by
        show (truV (!decide (a = c ∧ b = d)), (0 : Int)) = _
        simp [ca, cb]
      rw [e]
      have HO := Lib.hid (out_tru true)
      unfold truO at HO
      generalize outV (truV true, 0) = R at *
      clear e ca cb
      go_enter Tryz.func126, Tryz.ntmps126
      go_wp2_with (go_at_call 143; refine (truth_any _ _).mono ?_; rintro e w1 ⟨rfl, rfl⟩)
      refine bodyPost_ret ?_ rfl ⟨HO.out.symm, ?_⟩
      · simp [results, Tryz.results126, go_sem]
      · exact ((((Below.refl _ _).alloc (Nat.le_refl _) _).alloc (by first | (simp; done) | (simp; omega)) _).alloc (by first | (simp; done) | (simp; omega)) _).alloc (by first | (simp; done) | (simp; omega)) _
  have t1 := int_ne h16
  have t2 := int_ne h17
  have e : joinE op (ptV a b) (ptV c d) = pointsE op a b c d := by
    unfold joinE
    rw [if_neg (by simp [ptV]), if_neg h16, if_neg h17]
    rfl
  rw [e]
  have HC := Lib.hid (fun W => ofPoints_any op a b c d W h h1 h2 h3 h4)
  generalize pointsE op a b c d = r at *
  clear e h16 h17 h1 h2 h3 h4
  obtain ⟨k, x, t, c1, c2, er, hf⟩ := out_form (r)
  have HF := Lib.hid hf
  clear hf
  go_enter Tryz.func126, Tryz.ntmps126
  go_wp2_with fail
  refine (HC.out _).mono ?_
  rintro e w1 ⟨rfl, hb1⟩
  rw [HF.out]
  obtain ⟨hh, hbw⟩ := fwd4 (show ((w.alloc _).alloc _).heap.size = w.heap.size + 1 + 1 by simp) (((Below.refl _ _).alloc (Nat.le_refl _) _).alloc (by simp) _) hb1
  obtain ⟨d0, d1, d2, d3, f0, f1, f2, f3⟩ := at4 hh
  clear hb1
  go_wp2
  obtain ⟨⟨r0, r1, r2, r3⟩, hbf⟩ := fin4 hh (by omega) hbw (.int .i64 k) (.int .i64 x) (.bool t) (.complex .f64 c1 c2)
  refine bodyPost_ret ?_ rfl ⟨HF.out.symm, hbf⟩
  simp [results, Tryz.results126, go_sem, r0, r1, r2, r3]

theorem vbetween_any (op : Int) (x y : VA) (w : World) (h : 11 ≤ op ∧ op ≤ 23) (hx : OkV x) (hy : OkV y) :
    Calls Tryz.prog 126 #[.int .i64 op, opV x, opV y] w fun e w' => e = outV (joinE op x y) ∧ Below w.heap.size w w' := by
  rcases ok_cases hx with ⟨a, h1, rfl⟩ | ⟨p, rfl⟩ | ⟨a, b, h1, h2, rfl⟩ <;> rcases ok_cases hy with ⟨c, h3, rfl⟩ | ⟨q, rfl⟩ | ⟨c, d, h3, h4, rfl⟩
  · rw [opV_num, opV_num]; exact btw_num_num op _ _ w h h1 h3
  · rw [opV_num, opV_tru]; exact btw_num_tru op _ _ w h 
  · rw [opV_num, opV_pt]; exact btw_num_pt op _ _ _ w h 
  · rw [opV_tru, opV_num]; exact btw_tru_num op _ _ w h 
  · rw [opV_tru, opV_tru]; exact btw_tru_tru op _ _ w h 
  · rw [opV_tru, opV_pt]; exact btw_tru_pt op _ _ _ w h 
  · rw [opV_pt, opV_num]; exact btw_pt_num op _ _ _ w h 
  · rw [opV_pt, opV_tru]; exact btw_pt_tru op _ _ _ w h 
  · rw [opV_pt, opV_pt]; exact btw_pt_pt op _ _ _ _ w h h1 h2 h3 h4
theorem vahead_any (op : Int) (x : VA) (w : World) (h : 7 ≤ op ∧ op ≤ 10) (hx : OkV x) :
    Calls Tryz.prog 125 #[.int .i64 op, opV x] w fun e w' => e = outV (unE op x) ∧ Below w.heap.size w w' := by
  rcases ok_cases hx with ⟨a, h1, rfl⟩ | ⟨p, rfl⟩ | ⟨a, b, h1, h2, rfl⟩
  · rw [opV_num]; exact ahead_num op a w h h1
  · rw [opV_tru]; exact ahead_tru op p w h
  · rw [opV_pt]; exact ahead_pt op a b w h h1 h2
end Go.Proofs.YtjgfkmakfdepcaaGreatDoor
namespace Go.Proofs.YtjgfkmakfdepcaaGreatDoor
open Go.RowKit

/-- a value in memory -/
def valV (v : VA) : Value := .agg #[.int .i64 v.kd, .int .i64 v.a, .int .i64 v.b]
set_option maxRecDepth 100000 in
theorem value_any (v : VA) (w : World) (h : OkV v) :
    Calls Tryz.prog 96 #[opV v] w fun e w' => e = .returned (valV v) ∧ Below w.heap.size w w' := by
  rcases ok_cases h with ⟨n, _, rfl⟩ | ⟨b, rfl⟩ | ⟨a, b, ha, hb, rfl⟩
  · rw [opV_num]
    unfold numO
    go_enter Tryz.func96, Tryz.ntmps96
    go_wp2
    refine bodyPost_ret ?_ rfl ⟨rfl, ?_⟩
    · simp [results, Tryz.results96, go_sem, valV, numV]
    · exact (((Below.refl _ _).alloc (Nat.le_refl _) _).alloc (by simp) _).alloc (by first | (simp; done) | (simp; omega)) _
  · rw [opV_tru]
    unfold truO
    cases b
    · go_enter Tryz.func96, Tryz.ntmps96
      go_wp2
      refine bodyPost_ret ?_ rfl ⟨rfl, ?_⟩
      · simp [results, Tryz.results96, go_sem, valV, truV]
      · exact (((Below.refl _ _).alloc (Nat.le_refl _) _).alloc (by simp) _).alloc (by first | (simp; done) | (simp; omega)) _
    · go_enter Tryz.func96, Tryz.ntmps96
      go_wp2
      refine bodyPost_ret ?_ rfl ⟨rfl, ?_⟩
      · simp [results, Tryz.results96, go_sem, valV, truV]
      · exact (((Below.refl _ _).alloc (Nat.le_refl _) _).alloc (by simp) _).alloc (by first | (simp; done) | (simp; omega)) _
  · rw [opV_pt]
    unfold ptO
    have h4 := fun (w : World) => run_convert_float_int (P := Tryz.prog) w 175 2 .f64 .i64 (fl a) a (by kernel_rfl) Tryz.underlying2 (toInt_rep (rep_fl ha) ha)
    have h5 := fun (w : World) => run_convert_float_int (P := Tryz.prog) w 175 2 .f64 .i64 (fl b) b (by kernel_rfl) Tryz.underlying2 (toInt_rep (rep_fl hb) hb)
    clear ha hb h
    go_enter Tryz.func96, Tryz.ntmps96
    go_wp2
    go_region
    all_goals
      go_wp2
      refine bodyPost_ret ?_ rfl ⟨rfl, ?_⟩
      · simp [results, Tryz.results96, go_sem, valV, ptV]
      · exact ((((Below.refl _ _).alloc (Nat.le_refl _) _).alloc (by simp) _).alloc (by first | (simp; done) | (simp; omega)) _).drew

theorem evRight_any (v : VA) (w : World) :
    Calls Tryz.prog 123 #[.agg #[.int .i64 v.kd, .int .i64 v.a, .int .i64 v.b]] w fun e w' => e = .returned (.bool (rightV v)) ∧ Below w.heap.size w w' := by
  obtain ⟨k, a, b⟩ := v
  have HB : Hid (∀ W : World, ∀ o : Obj, Below W.heap.size W (W.alloc o)) := fun W o => (Below.refl _ _).alloc (Nat.le_refl _) o
  show Calls _ _ #[.agg #[.int .i64 k, .int .i64 a, .int .i64 b]] _ _
  by_cases h1 : k = 1
  · subst h1
    have e : rightV ⟨1, a, b⟩ = decide (b = 0) := rfl
    rw [e]
    by_cases hb : b = 0
    · rw [decide_eq_true hb]; subst hb
      go_enter Tryz.func123, Tryz.ntmps123
      go_wp2
      go_ret
      exact ⟨rfl, HB.out _ _⟩
    · rw [decide_eq_false hb]; have tb := int_ne hb
      go_enter Tryz.func123, Tryz.ntmps123
      go_wp2
      go_ret
      exact ⟨rfl, HB.out _ _⟩
  · have t1 := int_ne h1
    by_cases h2 : k = 2
    · subst h2
      have e : rightV ⟨2, a, b⟩ = (decide (b = 0) && (decide (a = 0) || decide (a = 1))) := rfl
      rw [e]
      clear e h1
      by_cases hb : b = 0
      · rw [decide_eq_true hb]; subst hb
        by_cases h0 : a = 0
        · subst h0
          go_enter Tryz.func123, Tryz.ntmps123
          go_wp2
          go_ret
          exact ⟨rfl, HB.out _ _⟩
        · rw [decide_eq_false h0]; have ta := int_ne h0
          by_cases h1 : a = 1
          · subst h1
            go_enter Tryz.func123, Tryz.ntmps123
            go_wp2
            go_ret
            exact ⟨rfl, HB.out _ _⟩
          · rw [decide_eq_false h1]; have ta1 := int_ne h1
            go_enter Tryz.func123, Tryz.ntmps123
            go_wp2
            go_ret
            exact ⟨rfl, HB.out _ _⟩
      · rw [decide_eq_false hb]; have tb := int_ne hb
        go_enter Tryz.func123, Tryz.ntmps123
        go_wp2
        go_ret
        exact ⟨rfl, HB.out _ _⟩
    · have t2 := int_ne h2
      by_cases h3 : k = 3
      · subst h3
        have e : rightV ⟨3, a, b⟩ = (inB a && inB b) := rfl
        rw [e]
        clear e h1 h2
        obtain ⟨g1, g2, ge, hg⟩ := outC_form a b
        have HOC := Lib.hid hg
        have HA := Lib.hid (fun W => made_any a b W)
        have hge : (inB a && inB b) = (ge == 0) := by
          by_cases c : (inB a && inB b) = true
          · rw [outC_ok c] at hg
            simp at hg
            rw [c, ← hg.2]; rfl
          · rw [outC_no c] at hg
            simp at hg
            rw [(Bool.not_eq_true _).mp c, ← hg.2]; rfl
        rw [hge]
        clear hge hg
        go_enter Tryz.func123, Tryz.ntmps123
        go_wp2_with fail
        refine (HA.out _).mono ?_
        rintro e w' ⟨rfl, rfl⟩
        rw [HOC.out]
        go_wp2
        go_ret
        exact ⟨rfl, HB.out _ _⟩
      · have t3 := int_ne h3
        have e : rightV ⟨k, a, b⟩ = false := by
          show (if k = 1 then _ else if k = 2 then _ else if k = 3 then _ else false) = false
          rw [if_neg h1, if_neg h2, if_neg h3]
        rw [e]
        clear e h1 h2 h3
        go_enter Tryz.func123, Tryz.ntmps123
        go_wp2
        go_ret
        exact ⟨rfl, HB.out _ _⟩

theorem isWrong_any (v : VA) (w : World) :
    Calls Tryz.prog 93 #[.agg #[.int .i64 v.kd, .int .i64 v.a, .int .i64 v.b]] w fun e w' => e = .returned (.bool (!rightV v)) ∧ Below w.heap.size w w' := by
  have HR := Lib.hid (fun W => evRight_any v W)
  have HB : Hid (∀ W : World, ∀ o : Obj, Below W.heap.size W (W.alloc o)) := fun W o => (Below.refl _ _).alloc (Nat.le_refl _) o
  generalize rightV v = r at *
  generalize v.kd = k at *
  generalize v.a = a at *
  generalize v.b = b at *
  go_enter Tryz.func93, Tryz.ntmps93
  go_wp2_with fail
  refine (HR.out _).mono ?_
  rintro e w1 ⟨rfl, hb1⟩
  have HB1 := Lib.hid ((HB.out w _).trans (hb1.mono (HB.out w _).size))
  clear hb1
  go_wp2
  go_ret
  exact ⟨rfl, HB1.out⟩

/-- values as a slice in memory -/
def cellsV (v : VA) : List Value := [.int .i64 v.kd, .int .i64 v.a, .int .i64 v.b]
def flatX (xs : List VA) : List Value := xs.flatMap cellsV
theorem flatX_at {xs : List VA} {i : Nat} (h : i < xs.length) {j : Nat} (hj : j < 3) : (flatX xs)[i * 3 + j]? = (cellsV xs[i])[j]? := by
  induction xs generalizing i with
  | nil => simp at h
  | cons v r ih =>
    show (cellsV v ++ flatX r)[i * 3 + j]? = _
    cases i with
    | zero => rw [List.getElem?_append_left (by simp [cellsV]; omega)]; simp
    | succ k =>
      rw [List.getElem?_append_right (by simp [cellsV]; omega)]
      have e : (k + 1) * 3 + j - (cellsV v).length = k * 3 + j := by simp [cellsV]; omega
      rw [e]
      exact ih (by simpa using h)
theorem flatX_vals (xs : List VA) : ∀ u ∈ flatX xs, u.oneCell' = true := by
  intro u hu
  obtain ⟨v, _, hv⟩ := List.mem_flatMap.1 hu
  simp only [cellsV, List.mem_cons, List.not_mem_nil, or_false] at hv
  rcases hv with rfl | rfl | rfl <;> rfl
def RdX (w : World) (v : Value) (xs : List VA) : Prop := Inn w 3 v xs.length (flatX xs)
theorem RdX.below {w w' : World} {v : Value} {xs : List VA} (h : RdX w v xs) (hb : Below w.heap.size w w') : RdX w' v xs := Inn.below h hb
theorem RdX.form {w : World} {v : Value} {xs : List VA} (h : RdX w v xs) : ∃ A c, v = .slice A xs.length c := Inn.form h
theorem RdX.at_ {w : World} {A : Option Addr} {m c : Nat} {xs : List VA} (h : RdX w (.slice A m c) xs) {k : Nat} (hk : k < xs.length) :
    ∃ b o, A = some ⟨b, o, none⟩ ∧ b < w.heap.size ∧ w.cell? ⟨b, o + k * 3, none⟩ = some (.int .i64 xs[k].kd) ∧ w.cell? ⟨b, o + k * 3 + 1, none⟩ = some (.int .i64 xs[k].a) ∧ w.cell? ⟨b, o + k * 3 + 2, none⟩ = some (.int .i64 xs[k].b) := by
  obtain ⟨b, o, hA, hlt, hc⟩ := Inn.at_ h hk
  exact ⟨b, o, hA, hlt, hc 0 _ ((flatX_at hk (by omega)).trans rfl), hc 1 _ ((flatX_at hk (by omega)).trans rfl), hc 2 _ ((flatX_at hk (by omega)).trans rfl)⟩

set_option maxHeartbeats 1000000 in
theorem valIndex_any (v : Value) (xs : List VA) (w : World) (hR : RdX w v xs) (hl : xs.length ≤ 4611686018427387904) :
    Calls Tryz.prog 122 #[v, .func (.func 93) #[] #[]] w fun e w' => e = .returned (.int .i64 (ixP (fun x => !rightV x) xs 0)) ∧ Below w.heap.size w w' := by
  obtain ⟨A, c, rfl⟩ := hR.form
  have HR := Lib.hid hR; clear hR
  obtain ⟨n, hn⟩ : ∃ n, xs.length = n := ⟨_, rfl⟩
  have HN := Lib.hid hn
  rw [hn] at hl HR ⊢
  clear hn
  go_enter Tryz.func122, Tryz.ntmps122
  go_wp2
  go_loopw [4, 5, 8] (fun x4 x5 i wr => x4 = .int .i64 0 ∧ (x5 = .int .i64 0 ∨ True) ∧ ∃ k : Nat, k ≤ n ∧ i = .int .i64 k ∧ Hid (ixP (fun x => !rightV x) (xs.drop k) k = ixP (fun x => !rightV x) xs 0) ∧ Below w.heap.size w wr) (fun _ _ i _ => n - (intOf i).toNat)
  case atStart => exact ⟨rfl, Or.inr trivial, 0, by omega, rfl, rfl, Below.refl _ _⟩
  case round =>
    obtain ⟨rfl, _, k, hk, rfl, HI, hb⟩ := hrel
    have HBL := Lib.hid hb
    by_cases hkn : k < n
    · have HR' := HR.out.below hb
      obtain ⟨b, o, rfl, _, hc0, hc1, hc2⟩ := HR'.at_ (k := k) (by rw [HN.out]; exact hkn)
      have hst := ix_step (p := fun x => !rightV x) (l := xs) (k := k) (by rw [HN.out]; exact hkn)
      rw [HI.out] at hst
      generalize xs[k]'(by rw [HN.out]; exact hkn) = x at *
      have HC := Lib.hid (isWrong_any x wr)
      clear hb HR'
      by_cases he : (!rightV x) = true
      · have hr : ixP (fun x => !rightV x) xs 0 = k := by rw [hst, if_pos he]
        have HRR := Lib.hid hr
        have HE := Lib.hid he
        clear hst hr he HI
        go_wp2_with fail
        refine HC.out.mono ?_
        rintro e w1 ⟨rfl, hb1⟩
        rw [HE.out]
        have HB1 := Lib.hid (HBL.out.trans (hb1.mono HBL.out.size)); clear hb1
        go_wp2
        go_ret
        exact ⟨ret_int HRR.out.symm, HB1.out⟩
      · have hr : ixP (fun x => !rightV x) (xs.drop (k + 1)) (k + 1) = ixP (fun x => !rightV x) xs 0 := by rw [hst, if_neg he]
        have HRR := Lib.hid hr
        have HE := Lib.hid ((Bool.not_eq_true _).mp he)
        clear hst hr he HI
        go_wp2_with fail
        refine HC.out.mono ?_
        rintro e w1 ⟨rfl, hb1⟩
        rw [HE.out]
        have HB1 := Lib.hid (HBL.out.trans (hb1.mono HBL.out.size)); clear hb1
        go_wp2
        go_roundw
        case rel => exact ⟨rfl, Or.inr trivial, k + 1, by omega, by go_num, HRR.out, HB1.out⟩
        case measure => simp [intOf]; omega
    · have hr : ixP (fun x => !rightV x) xs 0 = -1 := by rw [← HI.out, ix_end (by rw [HN.out]; exact hkn)]
      have HRR := Lib.hid hr
      clear hr HI
      go_wp2
      go_ret
      exact ⟨ret_int HRR.out.symm, HBL.out⟩

theorem wrong_any (xs : List VA) : decide (0 ≤ ixP (fun x => !rightV x) xs 0) = !xs.all rightV := by
  rcases ix_find (fun x => !rightV x) xs 0 with ⟨h1, h2⟩ | ⟨j, hj, h1, h2⟩
  · rw [h1]
    have : xs.all rightV = true := by
      rw [List.all_eq_true]
      intro x hx
      have := List.find?_eq_none.1 h2 x hx
      simpa using this
    rw [this]; rfl
  · rw [h1, decide_eq_true (by omega)]
    have := List.find?_some h2
    have hm := List.mem_of_find?_eq_some h2
    cases ha : xs.all rightV
    · rfl
    · rw [List.all_eq_true] at ha
      have := ha _ hm
      simp_all
theorem valContains_any (v : Value) (xs : List VA) (w : World) (hR : RdX w v xs) (hl : xs.length ≤ 4611686018427387904) :
    Calls Tryz.prog 92 #[v, .func (.func 93) #[] #[]] w fun e w' => e = .returned (.bool (!xs.all rightV)) ∧ Below w.heap.size w w' := by
  have HI := Lib.hid (valIndex_any v xs w hR hl)
  have HW := Lib.hid (wrong_any xs)
  obtain ⟨A, c, rfl⟩ := hR.form
  clear hR
  go_enter Tryz.func92, Tryz.ntmps92
  go_wp2_with fail
  refine HI.out.mono ?_
  rintro e w1 ⟨rfl, hb1⟩
  have HB1 := Lib.hid hb1; clear hb1
  go_wp2
  go_ret
  refine ⟨?_, HB1.out⟩
  rw [← HW.out]
  rfl
end Go.Proofs.YtjgfkmakfdepcaaGreatDoor
namespace Go.Proofs.YtjgfkmakfdepcaaGreatDoor
open Go.RowKit Go.ChangeShapes Go.WideShapes Go.ChangeAt Go.Joins

theorem wf_in {n : Int} (h : (Lit.int .i64 n).wf = true) : inL n = true := by
  have h1 : IntKind.i64.min = -9223372036854775808 := by kernel_rfl
  have h2 : IntKind.i64.max = 9223372036854775807 := by kernel_rfl
  simp [Lit.wf, h1, h2] at h
  exact inL_iff.2 h
theorem bytesVal : Tryz.prog.bytesOf 54 = 24 := by kernel_rfl

section
variable {H : Type} {enc : TypeId × Value → H} {W : World} {base : Nat} {sp : Nat → Bool} {held : Bool} {fuel : Nat} {cs : List Value}
set_option maxRecDepth 100000 in
theorem val_struct {x : DataW H × List MemPlace} (h : DataW.trod enc Tryz.prog W base sp held fuel 54 cs = some x) : ∃ v : VA, cs = cellsV v ∧ inL v.a = true := by
  obtain ⟨xs, n, rfl, _, hl, hxl, hf⟩ := DataW.trod_struct Tryz.underlying54 h
  rw [cellsVal] at hl
  match cs, hl with
  | [u0, u1, u2], _ =>
    have e0 : DataW.trod enc Tryz.prog W base sp held n 3 (([u0, u1, u2].drop 0).take (Tryz.prog.cellsOf 3)) = xs[0]? := hf 0 _ rfl
    have e1 : DataW.trod enc Tryz.prog W base sp held n 2 (([u0, u1, u2].drop 1).take (Tryz.prog.cellsOf 2)) = xs[1]? := hf 1 _ rfl
    have e2 : DataW.trod enc Tryz.prog W base sp held n 2 (([u0, u1, u2].drop 2).take (Tryz.prog.cellsOf 2)) = xs[2]? := hf 2 _ rfl
    have hx3 : xs.length = 3 := hxl
    rw [cellsI, List.getElem?_eq_getElem (by omega)] at e0
    rw [cellsI64, List.getElem?_eq_getElem (by omega)] at e1 e2
    obtain ⟨a, h0, _, _⟩ := DataW.trod_int Tryz.underlying3 e0
    obtain ⟨b, h1, _, hw⟩ := DataW.trod_int Tryz.underlying2 e1
    obtain ⟨c, h2, _, _⟩ := DataW.trod_int Tryz.underlying2 e2
    simp at h0 h1 h2
    exact ⟨⟨a, b, c⟩, by rw [h0, h1, h2]; rfl, wf_in hw⟩
end

section
variable {H : Type} {enc : TypeId × Value → H} {W : World} {n : Nat} {v : Value} {y : DataW H × List MemPlace}
theorem vals_in (h : DataW.trod enc Tryz.prog W 0 (fun _ => true) true n 39 [v] = some y) :
    ∃ xs, RdX W v xs ∧ (∀ x ∈ xs, inL x.a = true) ∧ ((y.1 = .nil ∧ xs = []) ∨ ∃ es sp, y.1 = .slice es sp ∧ xs.length = es.length) := by
  obtain ⟨rows, h1, h2, h3, _⟩ := open_inn Tryz.underlying39 cellsVal (by decide) h
  obtain ⟨xs, rfl, hq⟩ := rows_of cellsV (fun x : VA => inL x.a = true) rows (fun r hr => by
    obtain ⟨_, k, x, hx⟩ := h2 r hr
    exact val_struct hx)
  have hf : (xs.map cellsV).flatten = flatX xs := by simp [flatX, List.flatMap_def]
  rw [hf, List.length_map] at h1
  refine ⟨xs, h1, hq, ?_⟩
  rcases h3 with ⟨e1, e2⟩ | ⟨es, sp, e1, e2⟩
  · exact Or.inl ⟨e1, List.map_eq_nil_iff.1 e2⟩
  · exact Or.inr ⟨es, sp, e1, by rw [← e2, List.length_map]⟩
end

end Go.Proofs.YtjgfkmakfdepcaaGreatDoor
