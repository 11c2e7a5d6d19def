/- Own texts, joined: Vr. -/
import Derived.Test.YtjgfkmakfdepcaaGreatDoorR20
namespace Go.Proofs.YtjgfkmakfdepcaaGreatDoor
open Go.RowKit

set_option maxRecDepth 100000 in
set_option maxHeartbeats 4000000 in
theorem rtwo_num2 (op a c : Int) (w : World) (h : 16 ≤ op ∧ op ≤ 23) :
    Calls Tryz.prog 102 #[.int .i64 op, .agg #[.int .i64 1, .int .i64 a, .int .i64 0], .agg #[.int .i64 1, .int .i64 c, .int .i64 0]] w fun e w' => e = outW (joinE op (numV a) (numV c)) ∧ Below w.heap.size w w' := by
  rcases (show op = 16 ∨ op = 17 ∨ op = 18 ∨ op = 19 ∨ op = 20 ∨ op = 21 ∨ op = 22 ∨ op = 23 by omega) with rfl | rfl | rfl | rfl | rfl | rfl | rfl | rfl
  · by_cases ca : a = c
    · subst ca
      have HE : Hid (outW (joinE 16 (numV a) (numV a)) = .returned (.tuple #[.agg #[.int .i64 2, .int .i64 1, .int .i64 0], .int .i64 0])) := by show _ = _; rw [show joinE 16 (numV a) (numV a) = (truV true, 0) by show (truV (decide (a = a ∧ (0 : Int) = 0)), (0 : Int)) = _; simp]; rfl
      clear h
      go_enter Tryz.func102, Tryz.ntmps102
      go_wp2_with fail
      refine (rTruth_tru _).mono ?_
      rintro e w1 ⟨rfl, hb1⟩
      obtain ⟨hh, hbw⟩ := fwd3 (show ((w.alloc _).alloc _).heap.size = w.heap.size + 1 + 1 by simp) (((Below.refl _ _).alloc (Nat.le_refl _) _).alloc (by simp) _) hb1
      obtain ⟨d0, d1, d2, f0, f1, f2⟩ := at3 hh
      clear hb1
      go_wp2
      obtain ⟨⟨r0, r1, r2⟩, hbf⟩ := fin3 hh (by omega) hbw (.int .i64 2) (.int .i64 1) (.int .i64 0)
      refine bodyPost_ret (v := .tuple #[.agg #[.int .i64 2, .int .i64 1, .int .i64 0], .int .i64 0]) ?_ rfl ⟨HE.out.symm, hbf⟩
      simp [results, Tryz.results102, go_sem, r0, r1, r2]
    · have HE : Hid (outW (joinE 16 (numV a) (numV c)) = .returned (.tuple #[.agg #[.int .i64 2, .int .i64 0, .int .i64 0], .int .i64 0])) := by show _ = _; rw [show joinE 16 (numV a) (numV c) = (truV false, 0) by show (truV (decide (a = c ∧ (0 : Int) = 0)), (0 : Int)) = _; simp [ca]]; rfl
      have ta := int_ne ca
      clear h
      go_enter Tryz.func102, Tryz.ntmps102
      go_wp2_with fail
      refine (rTruth_fls _).mono ?_
      rintro e w1 ⟨rfl, hb1⟩
      obtain ⟨hh, hbw⟩ := fwd3 (show ((w.alloc _).alloc _).heap.size = w.heap.size + 1 + 1 by simp) (((Below.refl _ _).alloc (Nat.le_refl _) _).alloc (by simp) _) hb1
      obtain ⟨d0, d1, d2, f0, f1, f2⟩ := at3 hh
      clear hb1
      go_wp2
      obtain ⟨⟨r0, r1, r2⟩, hbf⟩ := fin3 hh (by omega) hbw (.int .i64 2) (.int .i64 0) (.int .i64 0)
      refine bodyPost_ret (v := .tuple #[.agg #[.int .i64 2, .int .i64 0, .int .i64 0], .int .i64 0]) ?_ rfl ⟨HE.out.symm, hbf⟩
      simp [results, Tryz.results102, go_sem, r0, r1, r2]
  · by_cases ca : a = c
    · subst ca
      have HE : Hid (outW (joinE 17 (numV a) (numV a)) = .returned (.tuple #[.agg #[.int .i64 2, .int .i64 0, .int .i64 0], .int .i64 0])) := by show _ = _; rw [show joinE 17 (numV a) (numV a) = (truV false, 0) by show (truV (!decide (a = a ∧ (0 : Int) = 0)), (0 : Int)) = _; simp]; rfl
      clear h
      go_enter Tryz.func102, Tryz.ntmps102
      go_wp2_with fail
      refine (rTruth_fls _).mono ?_
      rintro e w1 ⟨rfl, hb1⟩
      obtain ⟨hh, hbw⟩ := fwd3 (show ((w.alloc _).alloc _).heap.size = w.heap.size + 1 + 1 by simp) (((Below.refl _ _).alloc (Nat.le_refl _) _).alloc (by simp) _) hb1
      obtain ⟨d0, d1, d2, f0, f1, f2⟩ := at3 hh
      clear hb1
      go_wp2
      obtain ⟨⟨r0, r1, r2⟩, hbf⟩ := fin3 hh (by omega) hbw (.int .i64 2) (.int .i64 0) (.int .i64 0)
      refine bodyPost_ret (v := .tuple #[.agg #[.int .i64 2, .int .i64 0, .int .i64 0], .int .i64 0]) ?_ rfl ⟨HE.out.symm, hbf⟩
      simp [results, Tryz.results102, go_sem, r0, r1, r2]
    · have HE : Hid (outW (joinE 17 (numV a) (numV c)) = .returned (.tuple #[.agg #[.int .i64 2, .int .i64 1, .int .i64 0], .int .i64 0])) := by show _ = _; rw [show joinE 17 (numV a) (numV c) = (truV true, 0) by show (truV (!decide (a = c ∧ (0 : Int) = 0)), (0 : Int)) = _; simp [ca]]; rfl
      have ta := int_ne ca
      clear h
      go_enter Tryz.func102, Tryz.ntmps102
      go_wp2_with fail
      refine (rTruth_tru _).mono ?_
      rintro e w1 ⟨rfl, hb1⟩
      obtain ⟨hh, hbw⟩ := fwd3 (show ((w.alloc _).alloc _).heap.size = w.heap.size + 1 + 1 by simp) (((Below.refl _ _).alloc (Nat.le_refl _) _).alloc (by simp) _) hb1
      obtain ⟨d0, d1, d2, f0, f1, f2⟩ := at3 hh
      clear hb1
      go_wp2
      obtain ⟨⟨r0, r1, r2⟩, hbf⟩ := fin3 hh (by omega) hbw (.int .i64 2) (.int .i64 1) (.int .i64 0)
      refine bodyPost_ret (v := .tuple #[.agg #[.int .i64 2, .int .i64 1, .int .i64 0], .int .i64 0]) ?_ rfl ⟨HE.out.symm, hbf⟩
      simp [results, Tryz.results102, go_sem, r0, r1, r2]
  · rcases dec2 (a < c) with ⟨c1, q1⟩ | ⟨c1, q1⟩
    · have HE : Hid (outW (joinE 18 (numV a) (numV c)) = .returned (.tuple #[.agg #[.int .i64 2, .int .i64 1, .int .i64 0], .int .i64 0])) := by show _ = _; rw [show joinE 18 (numV a) (numV c) = (truV (decide (a < c)), 0) from rfl, q1]; rfl
      clear h c1
      go_enter Tryz.func102, Tryz.ntmps102
      go_wp2_with fail
      refine (rTruth_tru _).mono ?_
      rintro e w1 ⟨rfl, hb1⟩
      obtain ⟨hh, hbw⟩ := fwd3 (show ((w.alloc _).alloc _).heap.size = w.heap.size + 1 + 1 by simp) (((Below.refl _ _).alloc (Nat.le_refl _) _).alloc (by simp) _) hb1
      obtain ⟨d0, d1, d2, f0, f1, f2⟩ := at3 hh
      clear hb1
      go_wp2
      obtain ⟨⟨r0, r1, r2⟩, hbf⟩ := fin3 hh (by omega) hbw (.int .i64 2) (.int .i64 1) (.int .i64 0)
      refine bodyPost_ret (v := .tuple #[.agg #[.int .i64 2, .int .i64 1, .int .i64 0], .int .i64 0]) ?_ rfl ⟨HE.out.symm, hbf⟩
      simp [results, Tryz.results102, go_sem, r0, r1, r2]
    · have HE : Hid (outW (joinE 18 (numV a) (numV c)) = .returned (.tuple #[.agg #[.int .i64 2, .int .i64 0, .int .i64 0], .int .i64 0])) := by show _ = _; rw [show joinE 18 (numV a) (numV c) = (truV (decide (a < c)), 0) from rfl, q1]; rfl
      clear h c1
      go_enter Tryz.func102, Tryz.ntmps102
      go_wp2_with fail
      refine (rTruth_fls _).mono ?_
      rintro e w1 ⟨rfl, hb1⟩
      obtain ⟨hh, hbw⟩ := fwd3 (show ((w.alloc _).alloc _).heap.size = w.heap.size + 1 + 1 by simp) (((Below.refl _ _).alloc (Nat.le_refl _) _).alloc (by simp) _) hb1
      obtain ⟨d0, d1, d2, f0, f1, f2⟩ := at3 hh
      clear hb1
      go_wp2
      obtain ⟨⟨r0, r1, r2⟩, hbf⟩ := fin3 hh (by omega) hbw (.int .i64 2) (.int .i64 0) (.int .i64 0)
      refine bodyPost_ret (v := .tuple #[.agg #[.int .i64 2, .int .i64 0, .int .i64 0], .int .i64 0]) ?_ rfl ⟨HE.out.symm, hbf⟩
      simp [results, Tryz.results102, go_sem, r0, r1, r2]
  · rcases dec2 (a ≤ c) with ⟨c1, q1⟩ | ⟨c1, q1⟩
    · have HE : Hid (outW (joinE 19 (numV a) (numV c)) = .returned (.tuple #[.agg #[.int .i64 2, .int .i64 1, .int .i64 0], .int .i64 0])) := by show _ = _; rw [show joinE 19 (numV a) (numV c) = (truV (decide (a ≤ c)), 0) from rfl, q1]; rfl
      clear h c1
      go_enter Tryz.func102, Tryz.ntmps102
      go_wp2_with fail
      refine (rTruth_tru _).mono ?_
      rintro e w1 ⟨rfl, hb1⟩
      obtain ⟨hh, hbw⟩ := fwd3 (show ((w.alloc _).alloc _).heap.size = w.heap.size + 1 + 1 by simp) (((Below.refl _ _).alloc (Nat.le_refl _) _).alloc (by simp) _) hb1
      obtain ⟨d0, d1, d2, f0, f1, f2⟩ := at3 hh
      clear hb1
      go_wp2
      obtain ⟨⟨r0, r1, r2⟩, hbf⟩ := fin3 hh (by omega) hbw (.int .i64 2) (.int .i64 1) (.int .i64 0)
      refine bodyPost_ret (v := .tuple #[.agg #[.int .i64 2, .int .i64 1, .int .i64 0], .int .i64 0]) ?_ rfl ⟨HE.out.symm, hbf⟩
      simp [results, Tryz.results102, go_sem, r0, r1, r2]
    · have HE : Hid (outW (joinE 19 (numV a) (numV c)) = .returned (.tuple #[.agg #[.int .i64 2, .int .i64 0, .int .i64 0], .int .i64 0])) := by show _ = _; rw [show joinE 19 (numV a) (numV c) = (truV (decide (a ≤ c)), 0) from rfl, q1]; rfl
      clear h c1
      go_enter Tryz.func102, Tryz.ntmps102
      go_wp2_with fail
      refine (rTruth_fls _).mono ?_
      rintro e w1 ⟨rfl, hb1⟩
      obtain ⟨hh, hbw⟩ := fwd3 (show ((w.alloc _).alloc _).heap.size = w.heap.size + 1 + 1 by simp) (((Below.refl _ _).alloc (Nat.le_refl _) _).alloc (by simp) _) hb1
      obtain ⟨d0, d1, d2, f0, f1, f2⟩ := at3 hh
      clear hb1
      go_wp2
      obtain ⟨⟨r0, r1, r2⟩, hbf⟩ := fin3 hh (by omega) hbw (.int .i64 2) (.int .i64 0) (.int .i64 0)
      refine bodyPost_ret (v := .tuple #[.agg #[.int .i64 2, .int .i64 0, .int .i64 0], .int .i64 0]) ?_ rfl ⟨HE.out.symm, hbf⟩
      simp [results, Tryz.results102, go_sem, r0, r1, r2]
  · rcases dec2 (c < a) with ⟨c1, q1⟩ | ⟨c1, q1⟩
    · have HE : Hid (outW (joinE 20 (numV a) (numV c)) = .returned (.tuple #[.agg #[.int .i64 2, .int .i64 1, .int .i64 0], .int .i64 0])) := by show _ = _; rw [show joinE 20 (numV a) (numV c) = (truV (decide (c < a)), 0) from rfl, q1]; rfl
      clear h c1
      go_enter Tryz.func102, Tryz.ntmps102
      go_wp2_with fail
      refine (rTruth_tru _).mono ?_
      rintro e w1 ⟨rfl, hb1⟩
      obtain ⟨hh, hbw⟩ := fwd3 (show ((w.alloc _).alloc _).heap.size = w.heap.size + 1 + 1 by simp) (((Below.refl _ _).alloc (Nat.le_refl _) _).alloc (by simp) _) hb1
      obtain ⟨d0, d1, d2, f0, f1, f2⟩ := at3 hh
      clear hb1
      go_wp2
      obtain ⟨⟨r0, r1, r2⟩, hbf⟩ := fin3 hh (by omega) hbw (.int .i64 2) (.int .i64 1) (.int .i64 0)
      refine bodyPost_ret (v := .tuple #[.agg #[.int .i64 2, .int .i64 1, .int .i64 0], .int .i64 0]) ?_ rfl ⟨HE.out.symm, hbf⟩
      simp [results, Tryz.results102, go_sem, r0, r1, r2]
    · have HE : Hid (outW (joinE 20 (numV a) (numV c)) = .returned (.tuple #[.agg #[.int .i64 2, .int .i64 0, .int .i64 0], .int .i64 0])) := by show _ = _; rw [show joinE 20 (numV a) (numV c) = (truV (decide (c < a)), 0) from rfl, q1]; rfl
      clear h c1
      go_enter Tryz.func102, Tryz.ntmps102
      go_wp2_with fail
      refine (rTruth_fls _).mono ?_
      rintro e w1 ⟨rfl, hb1⟩
      obtain ⟨hh, hbw⟩ := fwd3 (show ((w.alloc _).alloc _).heap.size = w.heap.size + 1 + 1 by simp) (((Below.refl _ _).alloc (Nat.le_refl _) _).alloc (by simp) _) hb1
      obtain ⟨d0, d1, d2, f0, f1, f2⟩ := at3 hh
      clear hb1
      go_wp2
      obtain ⟨⟨r0, r1, r2⟩, hbf⟩ := fin3 hh (by omega) hbw (.int .i64 2) (.int .i64 0) (.int .i64 0)
      refine bodyPost_ret (v := .tuple #[.agg #[.int .i64 2, .int .i64 0, .int .i64 0], .int .i64 0]) ?_ rfl ⟨HE.out.symm, hbf⟩
      simp [results, Tryz.results102, go_sem, r0, r1, r2]
  · rcases dec2 (c ≤ a) with ⟨c1, q1⟩ | ⟨c1, q1⟩
    · have HE : Hid (outW (joinE 21 (numV a) (numV c)) = .returned (.tuple #[.agg #[.int .i64 2, .int .i64 1, .int .i64 0], .int .i64 0])) := by show _ = _; rw [show joinE 21 (numV a) (numV c) = (truV (decide (c ≤ a)), 0) from rfl, q1]; rfl
      clear h c1
      go_enter Tryz.func102, Tryz.ntmps102
      go_wp2_with fail
      refine (rTruth_tru _).mono ?_
      rintro e w1 ⟨rfl, hb1⟩
      obtain ⟨hh, hbw⟩ := fwd3 (show ((w.alloc _).alloc _).heap.size = w.heap.size + 1 + 1 by simp) (((Below.refl _ _).alloc (Nat.le_refl _) _).alloc (by simp) _) hb1
      obtain ⟨d0, d1, d2, f0, f1, f2⟩ := at3 hh
      clear hb1
      go_wp2
      obtain ⟨⟨r0, r1, r2⟩, hbf⟩ := fin3 hh (by omega) hbw (.int .i64 2) (.int .i64 1) (.int .i64 0)
      refine bodyPost_ret (v := .tuple #[.agg #[.int .i64 2, .int .i64 1, .int .i64 0], .int .i64 0]) ?_ rfl ⟨HE.out.symm, hbf⟩
      simp [results, Tryz.results102, go_sem, r0, r1, r2]
    · have HE : Hid (outW (joinE 21 (numV a) (numV c)) = .returned (.tuple #[.agg #[.int .i64 2, .int .i64 0, .int .i64 0], .int .i64 0])) := by show _ = _; rw [show joinE 21 (numV a) (numV c) = (truV (decide (c ≤ a)), 0) from rfl, q1]; rfl
      clear h c1
      go_enter Tryz.func102, Tryz.ntmps102
      go_wp2_with fail
      refine (rTruth_fls _).mono ?_
      rintro e w1 ⟨rfl, hb1⟩
      obtain ⟨hh, hbw⟩ := fwd3 (show ((w.alloc _).alloc _).heap.size = w.heap.size + 1 + 1 by simp) (((Below.refl _ _).alloc (Nat.le_refl _) _).alloc (by simp) _) hb1
      obtain ⟨d0, d1, d2, f0, f1, f2⟩ := at3 hh
      clear hb1
      go_wp2
      obtain ⟨⟨r0, r1, r2⟩, hbf⟩ := fin3 hh (by omega) hbw (.int .i64 2) (.int .i64 0) (.int .i64 0)
      refine bodyPost_ret (v := .tuple #[.agg #[.int .i64 2, .int .i64 0, .int .i64 0], .int .i64 0]) ?_ rfl ⟨HE.out.symm, hbf⟩
      simp [results, Tryz.results102, go_sem, r0, r1, r2]
  · rw [show joinE 22 (numV a) (numV c) = erV 8 from rfl]
    clear h
    go_enter Tryz.func102, Tryz.ntmps102
    go_wp2
    refine bodyPost_ret (v := .tuple #[.agg #[.int .i64 0, .int .i64 0, .int .i64 0], .int .i64 8]) ?_ rfl ⟨rfl, ?_⟩
    · simp [results, Tryz.results102, go_sem]
    · exact ((((Below.refl _ _).alloc (Nat.le_refl _) _).alloc (by simp) _).alloc (by simp; omega) _)
  · rw [show joinE 23 (numV a) (numV c) = erV 8 from rfl]
    clear h
    go_enter Tryz.func102, Tryz.ntmps102
    go_wp2
    refine bodyPost_ret (v := .tuple #[.agg #[.int .i64 0, .int .i64 0, .int .i64 0], .int .i64 8]) ?_ rfl ⟨rfl, ?_⟩
    · simp [results, Tryz.results102, go_sem]
    · exact ((((Below.refl _ _).alloc (Nat.le_refl _) _).alloc (by simp) _).alloc (by simp; omega) _)
set_option maxRecDepth 100000 in
set_option maxHeartbeats 4000000 in
theorem rtwo_tru (op : Int) (p q : Bool) (w : World) (h : 11 ≤ op ∧ op ≤ 23) :
    Calls Tryz.prog 102 #[.int .i64 op, .agg #[.int .i64 2, .int .i64 (if p = true then 1 else 0), .int .i64 0], .agg #[.int .i64 2, .int .i64 (if q = true then 1 else 0), .int .i64 0]] w fun e w' => e = outW (joinE op (truV p) (truV q)) ∧ Below w.heap.size w w' := by
  by_cases hj : op = 16 ∨ op = 17 ∨ op = 22 ∨ op = 23
  · rcases hj with rfl | rfl | rfl | rfl <;> cases p <;> cases q
    · have HE : Hid (outW (joinE 16 (truV false) (truV false)) = .returned (.tuple #[.agg #[.int .i64 2, .int .i64 1, .int .i64 0], .int .i64 0])) := rfl
      show Calls _ _ #[_, .agg #[.int .i64 2, .int .i64 0, .int .i64 0], .agg #[.int .i64 2, .int .i64 0, .int .i64 0]] _ _
      clear h
      go_enter Tryz.func102, Tryz.ntmps102
      go_wp2_with fail
      refine (rTruth_tru _).mono ?_
      rintro e w1 ⟨rfl, hb1⟩
      obtain ⟨hh, hbw⟩ := fwd3 (show ((w.alloc _).alloc _).heap.size = w.heap.size + 1 + 1 by simp) (((Below.refl _ _).alloc (Nat.le_refl _) _).alloc (by simp) _) hb1
      obtain ⟨d0, d1, d2, f0, f1, f2⟩ := at3 hh
      clear hb1
      go_wp2
      obtain ⟨⟨r0, r1, r2⟩, hbf⟩ := fin3 hh (by omega) hbw (.int .i64 2) (.int .i64 1) (.int .i64 0)
      refine bodyPost_ret (v := .tuple #[.agg #[.int .i64 2, .int .i64 1, .int .i64 0], .int .i64 0]) ?_ rfl ⟨HE.out.symm, hbf⟩
      simp [results, Tryz.results102, go_sem, r0, r1, r2]
    · have HE : Hid (outW (joinE 16 (truV false) (truV true)) = .returned (.tuple #[.agg #[.int .i64 2, .int .i64 0, .int .i64 0], .int .i64 0])) := rfl
      show Calls _ _ #[_, .agg #[.int .i64 2, .int .i64 0, .int .i64 0], .agg #[.int .i64 2, .int .i64 1, .int .i64 0]] _ _
      clear h
      go_enter Tryz.func102, Tryz.ntmps102
      go_wp2_with fail
      refine (rTruth_fls _).mono ?_
      rintro e w1 ⟨rfl, hb1⟩
      obtain ⟨hh, hbw⟩ := fwd3 (show ((w.alloc _).alloc _).heap.size = w.heap.size + 1 + 1 by simp) (((Below.refl _ _).alloc (Nat.le_refl _) _).alloc (by simp) _) hb1
      obtain ⟨d0, d1, d2, f0, f1, f2⟩ := at3 hh
      clear hb1
      go_wp2
      obtain ⟨⟨r0, r1, r2⟩, hbf⟩ := fin3 hh (by omega) hbw (.int .i64 2) (.int .i64 0) (.int .i64 0)
      refine bodyPost_ret (v := .tuple #[.agg #[.int .i64 2, .int .i64 0, .int .i64 0], .int .i64 0]) ?_ rfl ⟨HE.out.symm, hbf⟩
      simp [results, Tryz.results102, go_sem, r0, r1, r2]
    · have HE : Hid (outW (joinE 16 (truV true) (truV false)) = .returned (.tuple #[.agg #[.int .i64 2, .int .i64 0, .int .i64 0], .int .i64 0])) := rfl
      show Calls _ _ #[_, .agg #[.int .i64 2, .int .i64 1, .int .i64 0], .agg #[.int .i64 2, .int .i64 0, .int .i64 0]] _ _
      clear h
      go_enter Tryz.func102, Tryz.ntmps102
      go_wp2_with fail
      refine (rTruth_fls _).mono ?_
      rintro e w1 ⟨rfl, hb1⟩
      obtain ⟨hh, hbw⟩ := fwd3 (show ((w.alloc _).alloc _).heap.size = w.heap.size + 1 + 1 by simp) (((Below.refl _ _).alloc (Nat.le_refl _) _).alloc (by simp) _) hb1
      obtain ⟨d0, d1, d2, f0, f1, f2⟩ := at3 hh
      clear hb1
      go_wp2
      obtain ⟨⟨r0, r1, r2⟩, hbf⟩ := fin3 hh (by omega) hbw (.int .i64 2) (.int .i64 0) (.int .i64 0)
      refine bodyPost_ret (v := .tuple #[.agg #[.int .i64 2, .int .i64 0, .int .i64 0], .int .i64 0]) ?_ rfl ⟨HE.out.symm, hbf⟩
      simp [results, Tryz.results102, go_sem, r0, r1, r2]
    · have HE : Hid (outW (joinE 16 (truV true) (truV true)) = .returned (.tuple #[.agg #[.int .i64 2, .int .i64 1, .int .i64 0], .int .i64 0])) := rfl
      show Calls _ _ #[_, .agg #[.int .i64 2, .int .i64 1, .int .i64 0], .agg #[.int .i64 2, .int .i64 1, .int .i64 0]] _ _
      clear h
      go_enter Tryz.func102, Tryz.ntmps102
      go_wp2_with fail
      refine (rTruth_tru _).mono ?_
      rintro e w1 ⟨rfl, hb1⟩
      obtain ⟨hh, hbw⟩ := fwd3 (show ((w.alloc _).alloc _).heap.size = w.heap.size + 1 + 1 by simp) (((Below.refl _ _).alloc (Nat.le_refl _) _).alloc (by simp) _) hb1
      obtain ⟨d0, d1, d2, f0, f1, f2⟩ := at3 hh
      clear hb1
      go_wp2
      obtain ⟨⟨r0, r1, r2⟩, hbf⟩ := fin3 hh (by omega) hbw (.int .i64 2) (.int .i64 1) (.int .i64 0)
      refine bodyPost_ret (v := .tuple #[.agg #[.int .i64 2, .int .i64 1, .int .i64 0], .int .i64 0]) ?_ rfl ⟨HE.out.symm, hbf⟩
      simp [results, Tryz.results102, go_sem, r0, r1, r2]
    · have HE : Hid (outW (joinE 17 (truV false) (truV false)) = .returned (.tuple #[.agg #[.int .i64 2, .int .i64 0, .int .i64 0], .int .i64 0])) := rfl
      show Calls _ _ #[_, .agg #[.int .i64 2, .int .i64 0, .int .i64 0], .agg #[.int .i64 2, .int .i64 0, .int .i64 0]] _ _
      clear h
      go_enter Tryz.func102, Tryz.ntmps102
      go_wp2_with fail
      refine (rTruth_fls _).mono ?_
      rintro e w1 ⟨rfl, hb1⟩
      obtain ⟨hh, hbw⟩ := fwd3 (show ((w.alloc _).alloc _).heap.size = w.heap.size + 1 + 1 by simp) (((Below.refl _ _).alloc (Nat.le_refl _) _).alloc (by simp) _) hb1
      obtain ⟨d0, d1, d2, f0, f1, f2⟩ := at3 hh
      clear hb1
      go_wp2
      obtain ⟨⟨r0, r1, r2⟩, hbf⟩ := fin3 hh (by omega) hbw (.int .i64 2) (.int .i64 0) (.int .i64 0)
      refine bodyPost_ret (v := .tuple #[.agg #[.int .i64 2, .int .i64 0, .int .i64 0], .int .i64 0]) ?_ rfl ⟨HE.out.symm, hbf⟩
      simp [results, Tryz.results102, go_sem, r0, r1, r2]
    · have HE : Hid (outW (joinE 17 (truV false) (truV true)) = .returned (.tuple #[.agg #[.int .i64 2, .int .i64 1, .int .i64 0], .int .i64 0])) := rfl
      show Calls _ _ #[_, .agg #[.int .i64 2, .int .i64 0, .int .i64 0], .agg #[.int .i64 2, .int .i64 1, .int .i64 0]] _ _
      clear h
      go_enter Tryz.func102, Tryz.ntmps102
      go_wp2_with fail
      refine (rTruth_tru _).mono ?_
      rintro e w1 ⟨rfl, hb1⟩
      obtain ⟨hh, hbw⟩ := fwd3 (show ((w.alloc _).alloc _).heap.size = w.heap.size + 1 + 1 by simp) (((Below.refl _ _).alloc (Nat.le_refl _) _).alloc (by simp) _) hb1
      obtain ⟨d0, d1, d2, f0, f1, f2⟩ := at3 hh
      clear hb1
      go_wp2
      obtain ⟨⟨r0, r1, r2⟩, hbf⟩ := fin3 hh (by omega) hbw (.int .i64 2) (.int .i64 1) (.int .i64 0)
      refine bodyPost_ret (v := .tuple #[.agg #[.int .i64 2, .int .i64 1, .int .i64 0], .int .i64 0]) ?_ rfl ⟨HE.out.symm, hbf⟩
      simp [results, Tryz.results102, go_sem, r0, r1, r2]
    · have HE : Hid (outW (joinE 17 (truV true) (truV false)) = .returned (.tuple #[.agg #[.int .i64 2, .int .i64 1, .int .i64 0], .int .i64 0])) := rfl
      show Calls _ _ #[_, .agg #[.int .i64 2, .int .i64 1, .int .i64 0], .agg #[.int .i64 2, .int .i64 0, .int .i64 0]] _ _
      clear h
      go_enter Tryz.func102, Tryz.ntmps102
      go_wp2_with fail
      refine (rTruth_tru _).mono ?_
      rintro e w1 ⟨rfl, hb1⟩
      obtain ⟨hh, hbw⟩ := fwd3 (show ((w.alloc _).alloc _).heap.size = w.heap.size + 1 + 1 by simp) (((Below.refl _ _).alloc (Nat.le_refl _) _).alloc (by simp) _) hb1
      obtain ⟨d0, d1, d2, f0, f1, f2⟩ := at3 hh
      clear hb1
      go_wp2
      obtain ⟨⟨r0, r1, r2⟩, hbf⟩ := fin3 hh (by omega) hbw (.int .i64 2) (.int .i64 1) (.int .i64 0)
      refine bodyPost_ret (v := .tuple #[.agg #[.int .i64 2, .int .i64 1, .int .i64 0], .int .i64 0]) ?_ rfl ⟨HE.out.symm, hbf⟩
      simp [results, Tryz.results102, go_sem, r0, r1, r2]
    · have HE : Hid (outW (joinE 17 (truV true) (truV true)) = .returned (.tuple #[.agg #[.int .i64 2, .int .i64 0, .int .i64 0], .int .i64 0])) := rfl
      show Calls _ _ #[_, .agg #[.int .i64 2, .int .i64 1, .int .i64 0], .agg #[.int .i64 2, .int .i64 1, .int .i64 0]] _ _
      clear h
      go_enter Tryz.func102, Tryz.ntmps102
      go_wp2_with fail
      refine (rTruth_fls _).mono ?_
      rintro e w1 ⟨rfl, hb1⟩
      obtain ⟨hh, hbw⟩ := fwd3 (show ((w.alloc _).alloc _).heap.size = w.heap.size + 1 + 1 by simp) (((Below.refl _ _).alloc (Nat.le_refl _) _).alloc (by simp) _) hb1
      obtain ⟨d0, d1, d2, f0, f1, f2⟩ := at3 hh
      clear hb1
      go_wp2
      obtain ⟨⟨r0, r1, r2⟩, hbf⟩ := fin3 hh (by omega) hbw (.int .i64 2) (.int .i64 0) (.int .i64 0)
      refine bodyPost_ret (v := .tuple #[.agg #[.int .i64 2, .int .i64 0, .int .i64 0], .int .i64 0]) ?_ rfl ⟨HE.out.symm, hbf⟩
      simp [results, Tryz.results102, go_sem, r0, r1, r2]
    · have HE : Hid (outW (joinE 22 (truV false) (truV false)) = .returned (.tuple #[.agg #[.int .i64 2, .int .i64 0, .int .i64 0], .int .i64 0])) := rfl
      show Calls _ _ #[_, .agg #[.int .i64 2, .int .i64 0, .int .i64 0], .agg #[.int .i64 2, .int .i64 0, .int .i64 0]] _ _
      clear h
      go_enter Tryz.func102, Tryz.ntmps102
      go_wp2_with fail
      refine (rTruth_fls _).mono ?_
      rintro e w1 ⟨rfl, hb1⟩
      obtain ⟨hh, hbw⟩ := fwd3 (show ((w.alloc _).alloc _).heap.size = w.heap.size + 1 + 1 by simp) (((Below.refl _ _).alloc (Nat.le_refl _) _).alloc (by simp) _) hb1
      obtain ⟨d0, d1, d2, f0, f1, f2⟩ := at3 hh
      clear hb1
      go_wp2
      obtain ⟨⟨r0, r1, r2⟩, hbf⟩ := fin3 hh (by omega) hbw (.int .i64 2) (.int .i64 0) (.int .i64 0)
      refine bodyPost_ret (v := .tuple #[.agg #[.int .i64 2, .int .i64 0, .int .i64 0], .int .i64 0]) ?_ rfl ⟨HE.out.symm, hbf⟩
      simp [results, Tryz.results102, go_sem, r0, r1, r2]
    · have HE : Hid (outW (joinE 22 (truV false) (truV true)) = .returned (.tuple #[.agg #[.int .i64 2, .int .i64 0, .int .i64 0], .int .i64 0])) := rfl
      show Calls _ _ #[_, .agg #[.int .i64 2, .int .i64 0, .int .i64 0], .agg #[.int .i64 2, .int .i64 1, .int .i64 0]] _ _
      clear h
      go_enter Tryz.func102, Tryz.ntmps102
      go_wp2_with fail
      refine (rTruth_fls _).mono ?_
      rintro e w1 ⟨rfl, hb1⟩
      obtain ⟨hh, hbw⟩ := fwd3 (show ((w.alloc _).alloc _).heap.size = w.heap.size + 1 + 1 by simp) (((Below.refl _ _).alloc (Nat.le_refl _) _).alloc (by simp) _) hb1
      obtain ⟨d0, d1, d2, f0, f1, f2⟩ := at3 hh
      clear hb1
      go_wp2
      obtain ⟨⟨r0, r1, r2⟩, hbf⟩ := fin3 hh (by omega) hbw (.int .i64 2) (.int .i64 0) (.int .i64 0)
      refine bodyPost_ret (v := .tuple #[.agg #[.int .i64 2, .int .i64 0, .int .i64 0], .int .i64 0]) ?_ rfl ⟨HE.out.symm, hbf⟩
      simp [results, Tryz.results102, go_sem, r0, r1, r2]
    · have HE : Hid (outW (joinE 22 (truV true) (truV false)) = .returned (.tuple #[.agg #[.int .i64 2, .int .i64 0, .int .i64 0], .int .i64 0])) := rfl
      show Calls _ _ #[_, .agg #[.int .i64 2, .int .i64 1, .int .i64 0], .agg #[.int .i64 2, .int .i64 0, .int .i64 0]] _ _
      clear h
      go_enter Tryz.func102, Tryz.ntmps102
      go_wp2_with fail
      refine (rTruth_fls _).mono ?_
      rintro e w1 ⟨rfl, hb1⟩
      obtain ⟨hh, hbw⟩ := fwd3 (show ((w.alloc _).alloc _).heap.size = w.heap.size + 1 + 1 by simp) (((Below.refl _ _).alloc (Nat.le_refl _) _).alloc (by simp) _) hb1
      obtain ⟨d0, d1, d2, f0, f1, f2⟩ := at3 hh
      clear hb1
      go_wp2
      obtain ⟨⟨r0, r1, r2⟩, hbf⟩ := fin3 hh (by omega) hbw (.int .i64 2) (.int .i64 0) (.int .i64 0)
      refine bodyPost_ret (v := .tuple #[.agg #[.int .i64 2, .int .i64 0, .int .i64 0], .int .i64 0]) ?_ rfl ⟨HE.out.symm, hbf⟩
      simp [results, Tryz.results102, go_sem, r0, r1, r2]
    · have HE : Hid (outW (joinE 22 (truV true) (truV true)) = .returned (.tuple #[.agg #[.int .i64 2, .int .i64 1, .int .i64 0], .int .i64 0])) := rfl
      show Calls _ _ #[_, .agg #[.int .i64 2, .int .i64 1, .int .i64 0], .agg #[.int .i64 2, .int .i64 1, .int .i64 0]] _ _
      clear h
      go_enter Tryz.func102, Tryz.ntmps102
      go_wp2_with fail
      refine (rTruth_tru _).mono ?_
      rintro e w1 ⟨rfl, hb1⟩
      obtain ⟨hh, hbw⟩ := fwd3 (show ((w.alloc _).alloc _).heap.size = w.heap.size + 1 + 1 by simp) (((Below.refl _ _).alloc (Nat.le_refl _) _).alloc (by simp) _) hb1
      obtain ⟨d0, d1, d2, f0, f1, f2⟩ := at3 hh
      clear hb1
      go_wp2
      obtain ⟨⟨r0, r1, r2⟩, hbf⟩ := fin3 hh (by omega) hbw (.int .i64 2) (.int .i64 1) (.int .i64 0)
      refine bodyPost_ret (v := .tuple #[.agg #[.int .i64 2, .int .i64 1, .int .i64 0], .int .i64 0]) ?_ rfl ⟨HE.out.symm, hbf⟩
      simp [results, Tryz.results102, go_sem, r0, r1, r2]
    · have HE : Hid (outW (joinE 23 (truV false) (truV false)) = .returned (.tuple #[.agg #[.int .i64 2, .int .i64 0, .int .i64 0], .int .i64 0])) := rfl
      show Calls _ _ #[_, .agg #[.int .i64 2, .int .i64 0, .int .i64 0], .agg #[.int .i64 2, .int .i64 0, .int .i64 0]] _ _
      clear h
      go_enter Tryz.func102, Tryz.ntmps102
      go_wp2_with fail
      refine (rTruth_fls _).mono ?_
      rintro e w1 ⟨rfl, hb1⟩
      obtain ⟨hh, hbw⟩ := fwd3 (show ((w.alloc _).alloc _).heap.size = w.heap.size + 1 + 1 by simp) (((Below.refl _ _).alloc (Nat.le_refl _) _).alloc (by simp) _) hb1
      obtain ⟨d0, d1, d2, f0, f1, f2⟩ := at3 hh
      clear hb1
      go_wp2
      obtain ⟨⟨r0, r1, r2⟩, hbf⟩ := fin3 hh (by omega) hbw (.int .i64 2) (.int .i64 0) (.int .i64 0)
      refine bodyPost_ret (v := .tuple #[.agg #[.int .i64 2, .int .i64 0, .int .i64 0], .int .i64 0]) ?_ rfl ⟨HE.out.symm, hbf⟩
      simp [results, Tryz.results102, go_sem, r0, r1, r2]
    · have HE : Hid (outW (joinE 23 (truV false) (truV true)) = .returned (.tuple #[.agg #[.int .i64 2, .int .i64 1, .int .i64 0], .int .i64 0])) := rfl
      show Calls _ _ #[_, .agg #[.int .i64 2, .int .i64 0, .int .i64 0], .agg #[.int .i64 2, .int .i64 1, .int .i64 0]] _ _
      clear h
      go_enter Tryz.func102, Tryz.ntmps102
      go_wp2_with fail
      refine (rTruth_tru _).mono ?_
      rintro e w1 ⟨rfl, hb1⟩
      obtain ⟨hh, hbw⟩ := fwd3 (show ((w.alloc _).alloc _).heap.size = w.heap.size + 1 + 1 by simp) (((Below.refl _ _).alloc (Nat.le_refl _) _).alloc (by simp) _) hb1
      obtain ⟨d0, d1, d2, f0, f1, f2⟩ := at3 hh
      clear hb1
      go_wp2
      obtain ⟨⟨r0, r1, r2⟩, hbf⟩ := fin3 hh (by omega) hbw (.int .i64 2) (.int .i64 1) (.int .i64 0)
      refine bodyPost_ret (v := .tuple #[.agg #[.int .i64 2, .int .i64 1, .int .i64 0], .int .i64 0]) ?_ rfl ⟨HE.out.symm, hbf⟩
      simp [results, Tryz.results102, go_sem, r0, r1, r2]
    · have HE : Hid (outW (joinE 23 (truV true) (truV false)) = .returned (.tuple #[.agg #[.int .i64 2, .int .i64 1, .int .i64 0], .int .i64 0])) := rfl
      show Calls _ _ #[_, .agg #[.int .i64 2, .int .i64 1, .int .i64 0], .agg #[.int .i64 2, .int .i64 0, .int .i64 0]] _ _
      clear h
      go_enter Tryz.func102, Tryz.ntmps102
      go_wp2_with fail
      refine (rTruth_tru _).mono ?_
      rintro e w1 ⟨rfl, hb1⟩
      obtain ⟨hh, hbw⟩ := fwd3 (show ((w.alloc _).alloc _).heap.size = w.heap.size + 1 + 1 by simp) (((Below.refl _ _).alloc (Nat.le_refl _) _).alloc (by simp) _) hb1
      obtain ⟨d0, d1, d2, f0, f1, f2⟩ := at3 hh
      clear hb1
      go_wp2
      obtain ⟨⟨r0, r1, r2⟩, hbf⟩ := fin3 hh (by omega) hbw (.int .i64 2) (.int .i64 1) (.int .i64 0)
      refine bodyPost_ret (v := .tuple #[.agg #[.int .i64 2, .int .i64 1, .int .i64 0], .int .i64 0]) ?_ rfl ⟨HE.out.symm, hbf⟩
      simp [results, Tryz.results102, go_sem, r0, r1, r2]
    · have HE : Hid (outW (joinE 23 (truV true) (truV true)) = .returned (.tuple #[.agg #[.int .i64 2, .int .i64 1, .int .i64 0], .int .i64 0])) := rfl
      show Calls _ _ #[_, .agg #[.int .i64 2, .int .i64 1, .int .i64 0], .agg #[.int .i64 2, .int .i64 1, .int .i64 0]] _ _
      clear h
      go_enter Tryz.func102, Tryz.ntmps102
      go_wp2_with fail
      refine (rTruth_tru _).mono ?_
      rintro e w1 ⟨rfl, hb1⟩
      obtain ⟨hh, hbw⟩ := fwd3 (show ((w.alloc _).alloc _).heap.size = w.heap.size + 1 + 1 by simp) (((Below.refl _ _).alloc (Nat.le_refl _) _).alloc (by simp) _) hb1
      obtain ⟨d0, d1, d2, f0, f1, f2⟩ := at3 hh
      clear hb1
      go_wp2
      obtain ⟨⟨r0, r1, r2⟩, hbf⟩ := fin3 hh (by omega) hbw (.int .i64 2) (.int .i64 1) (.int .i64 0)
      refine bodyPost_ret (v := .tuple #[.agg #[.int .i64 2, .int .i64 1, .int .i64 0], .int .i64 0]) ?_ rfl ⟨HE.out.symm, hbf⟩
      simp [results, Tryz.results102, go_sem, r0, r1, r2]
  · have hE : joinE op (truV p) (truV q) = erV 8 := by
      unfold joinE truthsE
      rw [if_neg (by simp [truV]), if_neg (by omega), if_neg (by omega), if_neg (by simp [truV]), if_pos (by rfl), if_neg (by omega), if_neg (by omega)]
    rw [hE]
    clear hE
    generalize (if p = true then (1 : Int) else 0) = x
    generalize (if q = true then (1 : Int) else 0) = y
    rcases (show op = 11 ∨ op = 12 ∨ op = 13 ∨ op = 14 ∨ op = 15 ∨ op = 18 ∨ op = 19 ∨ op = 20 ∨ op = 21 by omega) with rfl | rfl | rfl | rfl | rfl | rfl | rfl | rfl | rfl
    all_goals
      clear h hj
      go_enter Tryz.func102, Tryz.ntmps102
      go_wp2
      refine bodyPost_ret (v := .tuple #[.agg #[.int .i64 0, .int .i64 0, .int .i64 0], .int .i64 8]) ?_ rfl ⟨rfl, ?_⟩
      · simp [results, Tryz.results102, go_sem]
      · exact ((((Below.refl _ _).alloc (Nat.le_refl _) _).alloc (by simp) _).alloc (by simp; omega) _)

set_option maxRecDepth 100000 in
set_option maxHeartbeats 4000000 in
theorem rtwo_pt (op a b c d : Int) (w : World) (h : 11 ≤ op ∧ op ≤ 23) (ha : inB a = true) (hb : inB b = true) (hc : inB c = true) (hd : inB d = true) :
    Calls Tryz.prog 102 #[.int .i64 op, .agg #[.int .i64 3, .int .i64 a, .int .i64 b], .agg #[.int .i64 3, .int .i64 c, .int .i64 d]] w fun e w' => e = outW (joinE op (ptV a b) (ptV c d)) ∧ Below w.heap.size w w' := by
  by_cases hj : op = 11 ∨ op = 12 ∨ op = 13 ∨ op = 16 ∨ op = 17
  · rcases hj with rfl | rfl | rfl | rfl | rfl
    · rw [show joinE 11 (ptV a b) (ptV c d) = pointsE 11 a b c d from rfl]
      have HC := Lib.hid (fun W => rpoints11 a b c d W ha hb hc hd)
      generalize pointsE 11 a b c d = r at *
      obtain ⟨⟨rk, ra, rb⟩, re⟩ := r
      have HC : Hid (∀ W : World, Calls Tryz.prog 127 #[.int .i64 11, .agg #[.int .i64 3, .int .i64 a, .int .i64 b], .agg #[.int .i64 3, .int .i64 c, .int .i64 d]] W fun e w' => e = .returned (.tuple #[.agg #[.int .i64 rk, .int .i64 ra, .int .i64 rb], .int .i64 re]) ∧ Below W.heap.size W w') := HC
      clear h ha hb hc hd
      go_enter Tryz.func102, Tryz.ntmps102
      go_wp2_with fail
      refine (HC.out _).mono ?_
      rintro e w1 ⟨rfl, hb1⟩
      obtain ⟨hh, hbw⟩ := fwd3 (show ((w.alloc _).alloc _).heap.size = w.heap.size + 1 + 1 by simp) (((Below.refl _ _).alloc (Nat.le_refl _) _).alloc (by simp) _) hb1
      obtain ⟨d0, d1, d2, f0, f1, f2⟩ := at3 hh
      clear hb1
      go_wp2
      obtain ⟨⟨r0, r1, r2⟩, hbf⟩ := fin3 hh (by omega) hbw (.int .i64 rk) (.int .i64 ra) (.int .i64 rb)
      refine bodyPost_ret (v := .tuple #[.agg #[.int .i64 rk, .int .i64 ra, .int .i64 rb], .int .i64 re]) ?_ rfl ⟨rfl, hbf⟩
      simp [results, Tryz.results102, go_sem, r0, r1, r2]
    · rw [show joinE 12 (ptV a b) (ptV c d) = pointsE 12 a b c d from rfl]
      have HC := Lib.hid (fun W => rpoints12 a b c d W ha hb hc hd)
      generalize pointsE 12 a b c d = r at *
      obtain ⟨⟨rk, ra, rb⟩, re⟩ := r
      have HC : Hid (∀ W : World, Calls Tryz.prog 127 #[.int .i64 12, .agg #[.int .i64 3, .int .i64 a, .int .i64 b], .agg #[.int .i64 3, .int .i64 c, .int .i64 d]] W fun e w' => e = .returned (.tuple #[.agg #[.int .i64 rk, .int .i64 ra, .int .i64 rb], .int .i64 re]) ∧ Below W.heap.size W w') := HC
      clear h ha hb hc hd
      go_enter Tryz.func102, Tryz.ntmps102
      go_wp2_with fail
      refine (HC.out _).mono ?_
      rintro e w1 ⟨rfl, hb1⟩
      obtain ⟨hh, hbw⟩ := fwd3 (show ((w.alloc _).alloc _).heap.size = w.heap.size + 1 + 1 by simp) (((Below.refl _ _).alloc (Nat.le_refl _) _).alloc (by simp) _) hb1
      obtain ⟨d0, d1, d2, f0, f1, f2⟩ := at3 hh
      clear hb1
      go_wp2
      obtain ⟨⟨r0, r1, r2⟩, hbf⟩ := fin3 hh (by omega) hbw (.int .i64 rk) (.int .i64 ra) (.int .i64 rb)
      refine bodyPost_ret (v := .tuple #[.agg #[.int .i64 rk, .int .i64 ra, .int .i64 rb], .int .i64 re]) ?_ rfl ⟨rfl, hbf⟩
      simp [results, Tryz.results102, go_sem, r0, r1, r2]
    · rw [show joinE 13 (ptV a b) (ptV c d) = pointsE 13 a b c d from rfl]
      have HC := Lib.hid (fun W => rpoints13 a b c d W ha hb hc hd)
      generalize pointsE 13 a b c d = r at *
      obtain ⟨⟨rk, ra, rb⟩, re⟩ := r
      have HC : Hid (∀ W : World, Calls Tryz.prog 127 #[.int .i64 13, .agg #[.int .i64 3, .int .i64 a, .int .i64 b], .agg #[.int .i64 3, .int .i64 c, .int .i64 d]] W fun e w' => e = .returned (.tuple #[.agg #[.int .i64 rk, .int .i64 ra, .int .i64 rb], .int .i64 re]) ∧ Below W.heap.size W w') := HC
      clear h ha hb hc hd
      go_enter Tryz.func102, Tryz.ntmps102
      go_wp2_with fail
      refine (HC.out _).mono ?_
      rintro e w1 ⟨rfl, hb1⟩
      obtain ⟨hh, hbw⟩ := fwd3 (show ((w.alloc _).alloc _).heap.size = w.heap.size + 1 + 1 by simp) (((Below.refl _ _).alloc (Nat.le_refl _) _).alloc (by simp) _) hb1
      obtain ⟨d0, d1, d2, f0, f1, f2⟩ := at3 hh
      clear hb1
      go_wp2
      obtain ⟨⟨r0, r1, r2⟩, hbf⟩ := fin3 hh (by omega) hbw (.int .i64 rk) (.int .i64 ra) (.int .i64 rb)
      refine bodyPost_ret (v := .tuple #[.agg #[.int .i64 rk, .int .i64 ra, .int .i64 rb], .int .i64 re]) ?_ rfl ⟨rfl, hbf⟩
      simp [results, Tryz.results102, go_sem, r0, r1, r2]
    · clear ha hb hc hd
      by_cases ca : a = c
      · subst ca
        by_cases cb : b = d
        · subst cb
          have HE : Hid (outW (joinE 16 (ptV a b) (ptV a b)) = .returned (.tuple #[.agg #[.int .i64 2, .int .i64 1, .int .i64 0], .int .i64 0])) := by show _ = _; rw [show joinE 16 (ptV a b) (ptV a b) = (truV true, 0) by show (truV (decide (a = a ∧ b = b)), (0 : Int)) = _; simp]; rfl
          clear h
          go_enter Tryz.func102, Tryz.ntmps102
          go_wp2_with fail
          refine (rTruth_tru _).mono ?_
          rintro e w1 ⟨rfl, hb1⟩
          obtain ⟨hh, hbw⟩ := fwd3 (show ((w.alloc _).alloc _).heap.size = w.heap.size + 1 + 1 by simp) (((Below.refl _ _).alloc (Nat.le_refl _) _).alloc (by simp) _) hb1
          obtain ⟨d0, d1, d2, f0, f1, f2⟩ := at3 hh
          clear hb1
          go_wp2
          obtain ⟨⟨r0, r1, r2⟩, hbf⟩ := fin3 hh (by omega) hbw (.int .i64 2) (.int .i64 1) (.int .i64 0)
          refine bodyPost_ret (v := .tuple #[.agg #[.int .i64 2, .int .i64 1, .int .i64 0], .int .i64 0]) ?_ rfl ⟨HE.out.symm, hbf⟩
          simp [results, Tryz.results102, go_sem, r0, r1, r2]
        · have HE : Hid (outW (joinE 16 (ptV a b) (ptV a d)) = .returned (.tuple #[.agg #[.int .i64 2, .int .i64 0, .int .i64 0], .int .i64 0])) := by show _ = _; rw [show joinE 16 (ptV a b) (ptV a d) = (truV false, 0) by show (truV (decide (a = a ∧ b = d)), (0 : Int)) = _; simp [cb]]; rfl
          have tb := int_ne cb
          clear h
          go_enter Tryz.func102, Tryz.ntmps102
          go_wp2_with fail
          refine (rTruth_fls _).mono ?_
          rintro e w1 ⟨rfl, hb1⟩
          obtain ⟨hh, hbw⟩ := fwd3 (show ((w.alloc _).alloc _).heap.size = w.heap.size + 1 + 1 by simp) (((Below.refl _ _).alloc (Nat.le_refl _) _).alloc (by simp) _) hb1
          obtain ⟨d0, d1, d2, f0, f1, f2⟩ := at3 hh
          clear hb1
          go_wp2
          obtain ⟨⟨r0, r1, r2⟩, hbf⟩ := fin3 hh (by omega) hbw (.int .i64 2) (.int .i64 0) (.int .i64 0)
          refine bodyPost_ret (v := .tuple #[.agg #[.int .i64 2, .int .i64 0, .int .i64 0], .int .i64 0]) ?_ rfl ⟨HE.out.symm, hbf⟩
          simp [results, Tryz.results102, go_sem, r0, r1, r2]
      · have HE : Hid (outW (joinE 16 (ptV a b) (ptV c d)) = .returned (.tuple #[.agg #[.int .i64 2, .int .i64 0, .int .i64 0], .int .i64 0])) := by show _ = _; rw [show joinE 16 (ptV a b) (ptV c d) = (truV false, 0) by show (truV (decide (a = c ∧ b = d)), (0 : Int)) = _; simp [ca]]; rfl
        have ta := int_ne ca
        clear h
        go_enter Tryz.func102, Tryz.ntmps102
        go_wp2_with fail
        refine (rTruth_fls _).mono ?_
        rintro e w1 ⟨rfl, hb1⟩
        obtain ⟨hh, hbw⟩ := fwd3 (show ((w.alloc _).alloc _).heap.size = w.heap.size + 1 + 1 by simp) (((Below.refl _ _).alloc (Nat.le_refl _) _).alloc (by simp) _) hb1
        obtain ⟨d0, d1, d2, f0, f1, f2⟩ := at3 hh
        clear hb1
        go_wp2
        obtain ⟨⟨r0, r1, r2⟩, hbf⟩ := fin3 hh (by omega) hbw (.int .i64 2) (.int .i64 0) (.int .i64 0)
        refine bodyPost_ret (v := .tuple #[.agg #[.int .i64 2, .int .i64 0, .int .i64 0], .int .i64 0]) ?_ rfl ⟨HE.out.symm, hbf⟩
        simp [results, Tryz.results102, go_sem, r0, r1, r2]
    · clear ha hb hc hd
      by_cases ca : a = c
      · subst ca
        by_cases cb : b = d
        · subst cb
          have HE : Hid (outW (joinE 17 (ptV a b) (ptV a b)) = .returned (.tuple #[.agg #[.int .i64 2, .int .i64 0, .int .i64 0], .int .i64 0])) := by show _ = _; rw [show joinE 17 (ptV a b) (ptV a b) = (truV false, 0) by show (truV (!decide (a = a ∧ b = b)), (0 : Int)) = _; simp]; rfl
          clear h
          go_enter Tryz.func102, Tryz.ntmps102
          go_wp2_with fail
          refine (rTruth_fls _).mono ?_
          rintro e w1 ⟨rfl, hb1⟩
          obtain ⟨hh, hbw⟩ := fwd3 (show ((w.alloc _).alloc _).heap.size = w.heap.size + 1 + 1 by simp) (((Below.refl _ _).alloc (Nat.le_refl _) _).alloc (by simp) _) hb1
          obtain ⟨d0, d1, d2, f0, f1, f2⟩ := at3 hh
          clear hb1
          go_wp2
          obtain ⟨⟨r0, r1, r2⟩, hbf⟩ := fin3 hh (by omega) hbw (.int .i64 2) (.int .i64 0) (.int .i64 0)
          refine bodyPost_ret (v := .tuple #[.agg #[.int .i64 2, .int .i64 0, .int .i64 0], .int .i64 0]) ?_ rfl ⟨HE.out.symm, hbf⟩
          simp [results, Tryz.results102, go_sem, r0, r1, r2]
        · have HE : Hid (outW (joinE 17 (ptV a b) (ptV a d)) = .returned (.tuple #[.agg #[.int .i64 2, .int .i64 1, .int .i64 0], .int .i64 0])) := by show _ = _; rw [show joinE 17 (ptV a b) (ptV a d) = (truV true, 0) by show (truV (!decide (a = a ∧ b = d)), (0 : Int)) = _; simp [cb]]; rfl
          have tb := int_ne cb
          clear h
          go_enter Tryz.func102, Tryz.ntmps102
          go_wp2_with fail
          refine (rTruth_tru _).mono ?_
          rintro e w1 ⟨rfl, hb1⟩
          obtain ⟨hh, hbw⟩ := fwd3 (show ((w.alloc _).alloc _).heap.size = w.heap.size + 1 + 1 by simp) (((Below.refl _ _).alloc (Nat.le_refl _) _).alloc (by simp) _) hb1
          obtain ⟨d0, d1, d2, f0, f1, f2⟩ := at3 hh
          clear hb1
          go_wp2
          obtain ⟨⟨r0, r1, r2⟩, hbf⟩ := fin3 hh (by omega) hbw (.int .i64 2) (.int .i64 1) (.int .i64 0)
          refine bodyPost_ret (v := .tuple #[.agg #[.int .i64 2, .int .i64 1, .int .i64 0], .int .i64 0]) ?_ rfl ⟨HE.out.symm, hbf⟩
          simp [results, Tryz.results102, go_sem, r0, r1, r2]
      · have HE : Hid (outW (joinE 17 (ptV a b) (ptV c d)) = .returned (.tuple #[.agg #[.int .i64 2, .int .i64 1, .int .i64 0], .int .i64 0])) := by show _ = _; rw [show joinE 17 (ptV a b) (ptV c d) = (truV true, 0) by show (truV (!decide (a = c ∧ b = d)), (0 : Int)) = _; simp [ca]]; rfl
        have ta := int_ne ca
        clear h
        go_enter Tryz.func102, Tryz.ntmps102
        go_wp2_with fail
        refine (rTruth_tru _).mono ?_
        rintro e w1 ⟨rfl, hb1⟩
        obtain ⟨hh, hbw⟩ := fwd3 (show ((w.alloc _).alloc _).heap.size = w.heap.size + 1 + 1 by simp) (((Below.refl _ _).alloc (Nat.le_refl _) _).alloc (by simp) _) hb1
        obtain ⟨d0, d1, d2, f0, f1, f2⟩ := at3 hh
        clear hb1
        go_wp2
        obtain ⟨⟨r0, r1, r2⟩, hbf⟩ := fin3 hh (by omega) hbw (.int .i64 2) (.int .i64 1) (.int .i64 0)
        refine bodyPost_ret (v := .tuple #[.agg #[.int .i64 2, .int .i64 1, .int .i64 0], .int .i64 0]) ?_ rfl ⟨HE.out.symm, hbf⟩
        simp [results, Tryz.results102, go_sem, r0, r1, r2]
  · have hE : joinE op (ptV a b) (ptV c d) = erV 8 := by
      unfold joinE pointsE
      rw [if_neg (by simp [ptV]), if_neg (by omega), if_neg (by omega), if_neg (by simp [ptV]), if_neg (by simp [ptV]), if_neg (by omega), if_neg (by omega), if_neg (by omega)]
    rw [hE]
    clear hE ha hb hc hd
    rcases (show op = 14 ∨ op = 15 ∨ op = 18 ∨ op = 19 ∨ op = 20 ∨ op = 21 ∨ op = 22 ∨ op = 23 by omega) with rfl | rfl | rfl | rfl | rfl | rfl | rfl | rfl
    all_goals
      clear h hj
      go_enter Tryz.func102, Tryz.ntmps102
      go_wp2
      refine bodyPost_ret (v := .tuple #[.agg #[.int .i64 0, .int .i64 0, .int .i64 0], .int .i64 8]) ?_ rfl ⟨rfl, ?_⟩
      · simp [results, Tryz.results102, go_sem]
      · exact ((((Below.refl _ _).alloc (Nat.le_refl _) _).alloc (by simp) _).alloc (by simp; omega) _)


theorem rtwo_any (op : Int) (x y : VA) (w : World) (h : 11 ≤ op ∧ op ≤ 23) (hx : OkV x) (hy : OkV y) :
    Calls Tryz.prog 102 #[.int .i64 op, valV x, valV y] w fun e w' => e = outW (joinE op x y) ∧ Below w.heap.size w w' := by
  by_cases hk : x.kd = y.kd
  · rcases ok_cases hx with ⟨n, hn, rfl⟩ | ⟨b, rfl⟩ | ⟨a, b, ha, hb, rfl⟩ <;> rcases ok_cases hy with ⟨m, hm, rfl⟩ | ⟨c, rfl⟩ | ⟨c, d, hc, hd, rfl⟩
    all_goals first
      | (by_cases h5 : op ≤ 15
         · exact rtwo_num op n m w ⟨h.1, h5⟩ hn hm
         · exact rtwo_num2 op n m w (by omega))
      | exact rtwo_tru op b c w h
      | exact rtwo_pt op a b c d w h ha hb hc hd
      | exact absurd hk (by simp [numV, truV, ptV])
  · rw [show joinE op x y = erV 8 from if_pos hk]
    exact rtwo_un op x.kd x.a x.b y.kd y.a y.b w hk

theorem neg_wrap {a : Int} (h : inB a = true) : wrap64 (-a) = -a := by rw [inB_iff] at h; exact wrap_id (by omega)
set_option maxRecDepth 100000 in
set_option maxHeartbeats 4000000 in
theorem rone_num (op a : Int) (w : World) (h : 7 ≤ op ∧ op ≤ 10) (ha : inL a = true) :
    Calls Tryz.prog 101 #[.int .i64 op, .agg #[.int .i64 1, .int .i64 a, .int .i64 0]] w fun e w' => e = outW (unE op (numV a)) ∧ Below w.heap.size w w' := by
  rcases (show op = 7 ∨ op = 8 ∨ op = 9 ∨ op = 10 by omega) with rfl | rfl | rfl | rfl
  · rw [show unE 7 (numV a) = joinE 12 (numV 0) (numV a) by rw [join_nn 0 a (by decide) (by decide)]; show numE (-a) = numE (0 - a); rw [Int.zero_sub]]
    have HC := Lib.hid (fun W => rtwo_num 12 0 a W (by decide) (by decide) ha)
    generalize joinE 12 (numV 0) (numV a) = r at *
    obtain ⟨⟨rk, ra, rb⟩, re⟩ := r
    have HC : Hid (∀ W : World, Calls Tryz.prog 102 #[.int .i64 12, .agg #[.int .i64 1, .int .i64 0, .int .i64 0], .agg #[.int .i64 1, .int .i64 a, .int .i64 0]] W fun e w' => e = .returned (.tuple #[.agg #[.int .i64 rk, .int .i64 ra, .int .i64 rb], .int .i64 re]) ∧ Below W.heap.size W w') := HC
    clear h ha
    go_enter Tryz.func101, Tryz.ntmps101
    go_wp2_with fail
    refine (HC.out _).mono ?_
    rintro e w1 ⟨rfl, hb1⟩
    obtain ⟨hh, hbw⟩ := fwd3 (show (w.alloc _).heap.size = w.heap.size + 1 by simp) ((Below.refl _ _).alloc (Nat.le_refl _) _) hb1
    obtain ⟨d0, d1, d2, f0, f1, f2⟩ := at3 hh
    clear hb1
    go_wp2
    obtain ⟨⟨r0, r1, r2⟩, hbf⟩ := fin3 hh (by omega) hbw (.int .i64 rk) (.int .i64 ra) (.int .i64 rb)
    refine bodyPost_ret (v := .tuple #[.agg #[.int .i64 rk, .int .i64 ra, .int .i64 rb], .int .i64 re]) ?_ rfl ⟨rfl, hbf⟩
    simp [results, Tryz.results101, go_sem, r0, r1, r2]
  all_goals
    rw [show unE _ (numV a) = erV 8 from rfl]
    clear h ha
    go_enter Tryz.func101, Tryz.ntmps101
    go_wp2
    refine bodyPost_ret (v := .tuple #[.agg #[.int .i64 0, .int .i64 0, .int .i64 0], .int .i64 8]) ?_ rfl ⟨rfl, ?_⟩
    · simp [results, Tryz.results101, go_sem]
    · exact (((Below.refl _ _).alloc (Nat.le_refl _) _).alloc (by simp) _)

set_option maxRecDepth 100000 in
set_option maxHeartbeats 4000000 in
theorem rone_tru (op : Int) (p : Bool) (w : World) (h : 7 ≤ op ∧ op ≤ 10) :
    Calls Tryz.prog 101 #[.int .i64 op, .agg #[.int .i64 2, .int .i64 (if p = true then 1 else 0), .int .i64 0]] w fun e w' => e = outW (unE op (truV p)) ∧ Below w.heap.size w w' := by
  rcases (show op = 8 ∨ op = 7 ∨ op = 9 ∨ op = 10 by omega) with rfl | rfl | rfl | rfl
  · cases p
    · have HE : Hid (outW (unE 8 (truV false)) = .returned (.tuple #[.agg #[.int .i64 2, .int .i64 1, .int .i64 0], .int .i64 0])) := rfl
      show Calls _ _ #[_, .agg #[.int .i64 2, .int .i64 0, .int .i64 0]] _ _
      clear h
      go_enter Tryz.func101, Tryz.ntmps101
      go_wp2_with fail
      refine (rTruth_tru _).mono ?_
      rintro e w1 ⟨rfl, hb1⟩
      obtain ⟨hh, hbw⟩ := fwd3 (show (w.alloc _).heap.size = w.heap.size + 1 by simp) ((Below.refl _ _).alloc (Nat.le_refl _) _) hb1
      obtain ⟨d0, d1, d2, f0, f1, f2⟩ := at3 hh
      clear hb1
      go_wp2
      obtain ⟨⟨r0, r1, r2⟩, hbf⟩ := fin3 hh (by omega) hbw (.int .i64 2) (.int .i64 1) (.int .i64 0)
      refine bodyPost_ret (v := .tuple #[.agg #[.int .i64 2, .int .i64 1, .int .i64 0], .int .i64 0]) ?_ rfl ⟨HE.out.symm, hbf⟩
      simp [results, Tryz.results101, go_sem, r0, r1, r2]
    · have HE : Hid (outW (unE 8 (truV true)) = .returned (.tuple #[.agg #[.int .i64 2, .int .i64 0, .int .i64 0], .int .i64 0])) := rfl
      show Calls _ _ #[_, .agg #[.int .i64 2, .int .i64 1, .int .i64 0]] _ _
      clear h
      go_enter Tryz.func101, Tryz.ntmps101
      go_wp2_with fail
      refine (rTruth_fls _).mono ?_
      rintro e w1 ⟨rfl, hb1⟩
      obtain ⟨hh, hbw⟩ := fwd3 (show (w.alloc _).heap.size = w.heap.size + 1 by simp) ((Below.refl _ _).alloc (Nat.le_refl _) _) hb1
      obtain ⟨d0, d1, d2, f0, f1, f2⟩ := at3 hh
      clear hb1
      go_wp2
      obtain ⟨⟨r0, r1, r2⟩, hbf⟩ := fin3 hh (by omega) hbw (.int .i64 2) (.int .i64 0) (.int .i64 0)
      refine bodyPost_ret (v := .tuple #[.agg #[.int .i64 2, .int .i64 0, .int .i64 0], .int .i64 0]) ?_ rfl ⟨HE.out.symm, hbf⟩
      simp [results, Tryz.results101, go_sem, r0, r1, r2]
  all_goals
    rw [show unE _ (truV p) = erV 8 from rfl]
    generalize (if p = true then (1 : Int) else 0) = x
    clear h
    go_enter Tryz.func101, Tryz.ntmps101
    go_wp2
    refine bodyPost_ret (v := .tuple #[.agg #[.int .i64 0, .int .i64 0, .int .i64 0], .int .i64 8]) ?_ rfl ⟨rfl, ?_⟩
    · simp [results, Tryz.results101, go_sem]
    · exact (((Below.refl _ _).alloc (Nat.le_refl _) _).alloc (by simp) _)

set_option maxRecDepth 100000 in
set_option maxHeartbeats 4000000 in
theorem rone_pt (op a b : Int) (w : World) (h : 7 ≤ op ∧ op ≤ 10) (ha : inB a = true) (hb : inB b = true) :
    Calls Tryz.prog 101 #[.int .i64 op, .agg #[.int .i64 3, .int .i64 a, .int .i64 b]] w fun e w' => e = outW (unE op (ptV a b)) ∧ Below w.heap.size w w' := by
  rcases (show op = 7 ∨ op = 8 ∨ op = 9 ∨ op = 10 by omega) with rfl | rfl | rfl | rfl
  · rw [show unE 7 (ptV a b) = (ptV (-a) (-b), 0) from rfl]
    have w1 := neg_wrap ha
    have w2 := neg_wrap hb
    generalize hna : -a = na at *
    generalize hnb : -b = nb at *
    clear h ha hb
    go_enter Tryz.func101, Tryz.ntmps101
    go_wp2
    refine bodyPost_ret (v := .tuple #[.agg #[.int .i64 3, .int .i64 na, .int .i64 nb], .int .i64 0]) ?_ rfl ⟨rfl, ?_⟩
    · simp [results, Tryz.results101, go_sem, w1, w2]
    · exact (((Below.refl _ _).alloc (Nat.le_refl _) _).alloc (by simp) _)
  · rw [show unE 8 (ptV a b) = erV 8 from rfl]
    clear h ha hb
    go_enter Tryz.func101, Tryz.ntmps101
    go_wp2
    refine bodyPost_ret (v := .tuple #[.agg #[.int .i64 0, .int .i64 0, .int .i64 0], .int .i64 8]) ?_ rfl ⟨rfl, ?_⟩
    · simp [results, Tryz.results101, go_sem]
    · exact (((Below.refl _ _).alloc (Nat.le_refl _) _).alloc (by simp) _)
  · rw [show unE 9 (ptV a b) = (numV a, 0) from rfl]
    clear h ha hb
    go_enter Tryz.func101, Tryz.ntmps101
    go_wp2
    refine bodyPost_ret (v := .tuple #[.agg #[.int .i64 1, .int .i64 a, .int .i64 0], .int .i64 0]) ?_ rfl ⟨rfl, ?_⟩
    · simp [results, Tryz.results101, go_sem]
    · exact (((Below.refl _ _).alloc (Nat.le_refl _) _).alloc (by simp) _)
  · rw [show unE 10 (ptV a b) = (numV b, 0) from rfl]
    clear h ha hb
    go_enter Tryz.func101, Tryz.ntmps101
    go_wp2
    refine bodyPost_ret (v := .tuple #[.agg #[.int .i64 1, .int .i64 b, .int .i64 0], .int .i64 0]) ?_ rfl ⟨rfl, ?_⟩
    · simp [results, Tryz.results101, go_sem]
    · exact (((Below.refl _ _).alloc (Nat.le_refl _) _).alloc (by simp) _)

theorem rone_any (op : Int) (x : VA) (w : World) (h : 7 ≤ op ∧ op ≤ 10) (hx : OkV x) :
    Calls Tryz.prog 101 #[.int .i64 op, valV x] w fun e w' => e = outW (unE op x) ∧ Below w.heap.size w w' := by
  rcases ok_cases hx with ⟨n, hn, rfl⟩ | ⟨b, rfl⟩ | ⟨a, b, ha, hb, rfl⟩
  · exact rone_num op n w h hn
  · exact rone_tru op b w h
  · exact rone_pt op a b w h ha hb
end Go.Proofs.YtjgfkmakfdepcaaGreatDoor
