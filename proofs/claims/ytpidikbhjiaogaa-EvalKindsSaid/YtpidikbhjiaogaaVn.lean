/- The document's own reckoning: parts within their bounds, sums, products, points; Right, Truth. -/
import Derived.Test.YtpidikbhjiaogaaVm
namespace Go.Proofs.Ytpidikbhjiaogaa
open Go.RowKit

theorem rIn_any (n : Int) (w : World) :
    Calls Try.prog 20 #[.int .i64 n] w fun e w' => e = .returned (.bool (inB n)) ∧ w = w' := by
  by_cases h1 : -1048576 ≤ n
  · by_cases h2 : n ≤ 1048576
    · have hL : inB n = true := decide_eq_true ⟨h1, h2⟩
      rw [hL]; clear hL
      go_enter Try.func20, Try.ntmps20
      go_wp2
      go_ret
      exact ⟨rfl, rfl⟩
    · have hL : inB n = false := decide_eq_false (fun h => h2 h.2)
      rw [hL]; clear hL
      go_enter Try.func20, Try.ntmps20
      go_wp2
      go_ret
      exact ⟨rfl, rfl⟩
  · have hL : inB n = false := decide_eq_false (fun h => h1 h.1)
    rw [hL]; clear hL
    go_enter Try.func20, Try.ntmps20
    go_wp2
    go_ret
    exact ⟨rfl, rfl⟩

/-- what is answered of a point -/
def outP (a b : Int) : Ending := if (inB a && inB b) = true then .returned (.tuple #[.agg #[.int .i64 a, .int .i64 b], .int .i64 0]) else .returned (.tuple #[.agg #[.int .i64 0, .int .i64 0], .int .i64 5])
theorem outP_form (a b : Int) : ∃ c1 c2 er, outP a b = .returned (.tuple #[.agg #[.int .i64 c1, .int .i64 c2], .int .i64 er]) := by
  unfold outP
  split
  · exact ⟨a, b, 0, rfl⟩
  · exact ⟨0, 0, 5, rfl⟩
theorem outP_pt (a b : Int) : ∃ c1 c2 er, outP a b = .returned (.tuple #[.agg #[.int .i64 c1, .int .i64 c2], .int .i64 er]) ∧ ((er = 0 ∧ ptE a b = (ptV c1 c2, 0)) ∨ (er ≠ 0 ∧ ptE a b = erV er)) := by
  unfold outP ptE
  split
  · exact ⟨a, b, 0, rfl, Or.inl ⟨rfl, rfl⟩⟩
  · exact ⟨0, 0, 5, rfl, Or.inr ⟨by decide, rfl⟩⟩

theorem bound_any (a b : Int) (w : World) :
    Calls Try.prog 79 #[.int .i64 a, .int .i64 b] w fun e w' => e = outP a b ∧ Below w.heap.size w w' := by
  cases ha : inB a with
  | false =>
    have HA := Lib.hid (fun W => rIn_any a W)
    rw [ha] at HA
    have HO : Hid (outP a b = .returned (.tuple #[.agg #[.int .i64 0, .int .i64 0], .int .i64 5])) := by show _ = _; unfold outP; rw [ha]; rfl
    generalize outP a b = R at *
    clear ha
    go_enter Try.func79, Try.ntmps79
    go_wp2_with (first | (go_at_call 20; refine (HA.out _).mono ?_; rintro e w1 ⟨rfl, rfl⟩))
    refine bodyPost_ret ?_ rfl ⟨HO.out.symm, ?_⟩
    · simp [results, Try.results79, go_sem]
    · exact (Below.refl _ _).alloc (Nat.le_refl _) _
  | true =>
    have HA := Lib.hid (fun W => rIn_any a W)
    have HB := Lib.hid (fun W => rIn_any b W)
    rw [ha] at HA
    cases hb : inB b with
    | false =>
      rw [hb] at HB
      have HO : Hid (outP a b = .returned (.tuple #[.agg #[.int .i64 0, .int .i64 0], .int .i64 5])) := by show _ = _; unfold outP; rw [ha, hb]; rfl
      generalize outP a b = R at *
      clear ha hb
      go_enter Try.func79, Try.ntmps79
      go_wp2_with fail
      refine (HA.out _).mono ?_
      rintro e w1 ⟨rfl, rfl⟩
      go_wp2_with fail
      refine (HB.out _).mono ?_
      rintro e w1 ⟨rfl, rfl⟩
      go_wp2
      refine bodyPost_ret ?_ rfl ⟨HO.out.symm, ?_⟩
      · simp [results, Try.results79, go_sem]
      · exact (Below.refl _ _).alloc (Nat.le_refl _) _
    | true =>
      rw [hb] at HB
      have HO : Hid (outP a b = .returned (.tuple #[.agg #[.int .i64 a, .int .i64 b], .int .i64 0])) := by show _ = _; unfold outP; rw [ha, hb]; rfl
      generalize outP a b = R at *
      clear ha hb
      go_enter Try.func79, Try.ntmps79
      go_wp2_with fail
      refine (HA.out _).mono ?_
      rintro e w1 ⟨rfl, rfl⟩
      go_wp2_with fail
      refine (HB.out _).mono ?_
      rintro e w1 ⟨rfl, rfl⟩
      go_wp2
      refine bodyPost_ret ?_ rfl ⟨HO.out.symm, ?_⟩
      · simp [results, Try.results79, go_sem]
      · exact (Below.refl _ _).alloc (Nat.le_refl _) _

/-- the result's variable of two parts, behind a call -/
theorem at2 {w : World} {D : Nat} {x0 x1 : Value} {t : TypeId} (h : w.heap[D]? = some (.cells #[x0, x1] t (0, 0))) :
    w.cell? ⟨D, 0, none⟩ = some x0 ∧ w.cell? ⟨D, 1, none⟩ = some x1 ∧ w.frozen? ⟨D, 0, none⟩ = false ∧ w.frozen? ⟨D, 1, none⟩ = false := by
  simp [World.cell?, World.frozen?, h]
theorem fwd2 {w W w1 : World} {D : Nat} {x0 x1 : Value} {t : TypeId} (hD : W.heap.size = D) (hW : Below w.heap.size w W)
    (hb1 : Below (W.alloc (.cells #[x0, x1] t)).heap.size (W.alloc (.cells #[x0, x1] t)) w1) :
    w1.heap[D]? = some (.cells #[x0, x1] t (0, 0)) ∧ Below w.heap.size w w1 := by
  refine ⟨?_, (hW.alloc hW.size _).trans (hb1.mono (Nat.le_trans hW.size (by simp)))⟩
  rw [hb1.block D (by rw [← hD]; simp), ← hD]
  exact heap_alloc_new W _
theorem fwd3 {w W w1 : World} {D : Nat} {x0 x1 x2 : Value} {t : TypeId} (hD : W.heap.size = D) (hW : Below w.heap.size w W)
    (hb1 : Below (W.alloc (.cells #[x0, x1, x2] t)).heap.size (W.alloc (.cells #[x0, x1, x2] t)) w1) :
    w1.heap[D]? = some (.cells #[x0, x1, x2] t (0, 0)) ∧ Below w.heap.size w w1 := by
  refine ⟨?_, (hW.alloc hW.size _).trans (hb1.mono (Nat.le_trans hW.size (by simp)))⟩
  rw [hb1.block D (by rw [← hD]; simp), ← hD]
  exact heap_alloc_new W _
theorem fin2 {w w1 : World} {D B : Nat} {x0 x1 : Value} {t : TypeId} (h : w1.heap[D]? = some (.cells #[x0, x1] t (0, 0))) (hB : B ≤ D) (hb : Below B w w1) (u0 u1 : Value) :
    (((w1.setCell ⟨D, 0, none⟩ u0).setCell ⟨D, 1, none⟩ u1).cell? ⟨D, 0, none⟩ = some u0 ∧
    ((w1.setCell ⟨D, 0, none⟩ u0).setCell ⟨D, 1, none⟩ u1).cell? ⟨D, 1, none⟩ = some u1) ∧
    Below B w ((w1.setCell ⟨D, 0, none⟩ u0).setCell ⟨D, 1, none⟩ u1) := by
  have h1 := heap_setCell_same _ _ 0 _ _ u0 h
  have h2 := heap_setCell_same _ _ 1 _ _ u1 h1
  obtain ⟨r0, r1, _⟩ := at2 (x0 := u0) (x1 := u1) h2
  exact ⟨⟨r0, r1⟩, (hb.setCell hB _).setCell hB _⟩

set_option maxHeartbeats 1000000 in
theorem rAdd_any (a b c d : Int) (w : World) (ha : inB a = true) (hb : inB b = true) (hc : inB c = true) (hd : inB d = true) :
    Calls Try.prog 58 #[.agg #[.int .i64 a, .int .i64 b], .agg #[.int .i64 c, .int .i64 d]] w fun e w' => e = outP (a + c) (b + d) ∧ Below w.heap.size w w' := by
  have ka := inB_iff.1 ha; have kb := inB_iff.1 hb; have kc := inB_iff.1 hc; have kd := inB_iff.1 hd
  have e0 : wrap64 (a + c) = a + c := wrap_id (by omega)
  have e1 : wrap64 (b + d) = b + d := wrap_id (by omega)
  have HS := Lib.hid (fun W => bound_any (a + c) (b + d) W)
  obtain ⟨c1, c2, er, ho⟩ := outP_form (a + c) (b + d)
  have HO := Lib.hid ho
  rw [ho] at HS ⊢
  clear ha hb hc hd ka kb kc kd ho
  go_enter Try.func58, Try.ntmps58
  go_wp2_with fail
  refine (HS.out _).mono ?_
  rintro e w1 ⟨rfl, hb1⟩
  obtain ⟨hh, hbw⟩ := fwd2 (show ((w.alloc _).alloc _).heap.size = w.heap.size + 1 + 1 by simp) (((Below.refl _ _).alloc (Nat.le_refl _) _).alloc (by simp) _) hb1
  obtain ⟨d0, d1, f0, f1⟩ := at2 hh
  clear hb1
  go_wp2
  obtain ⟨⟨r0, r1⟩, hbf⟩ := fin2 hh (by omega) hbw (.int .i64 c1) (.int .i64 c2)
  refine bodyPost_ret ?_ rfl ⟨rfl, hbf⟩
  simp [results, Try.results58, go_sem, r0, r1]

set_option maxHeartbeats 1000000 in
theorem rSub_any (a b c d : Int) (w : World) (ha : inB a = true) (hb : inB b = true) (hc : inB c = true) (hd : inB d = true) :
    Calls Try.prog 59 #[.agg #[.int .i64 a, .int .i64 b], .agg #[.int .i64 c, .int .i64 d]] w fun e w' => e = outP (a - c) (b - d) ∧ Below w.heap.size w w' := by
  have ka := inB_iff.1 ha; have kb := inB_iff.1 hb; have kc := inB_iff.1 hc; have kd := inB_iff.1 hd
  have e0 : wrap64 (a - c) = a - c := wrap_id (by omega)
  have e1 : wrap64 (b - d) = b - d := wrap_id (by omega)
  have HS := Lib.hid (fun W => bound_any (a - c) (b - d) W)
  obtain ⟨c1, c2, er, ho⟩ := outP_form (a - c) (b - d)
  have HO := Lib.hid ho
  rw [ho] at HS ⊢
  clear ha hb hc hd ka kb kc kd ho
  go_enter Try.func59, Try.ntmps59
  go_wp2_with fail
  refine (HS.out _).mono ?_
  rintro e w1 ⟨rfl, hb1⟩
  obtain ⟨hh, hbw⟩ := fwd2 (show ((w.alloc _).alloc _).heap.size = w.heap.size + 1 + 1 by simp) (((Below.refl _ _).alloc (Nat.le_refl _) _).alloc (by simp) _) hb1
  obtain ⟨d0, d1, f0, f1⟩ := at2 hh
  clear hb1
  go_wp2
  obtain ⟨⟨r0, r1⟩, hbf⟩ := fin2 hh (by omega) hbw (.int .i64 c1) (.int .i64 c2)
  refine bodyPost_ret ?_ rfl ⟨rfl, hbf⟩
  simp [results, Try.results59, go_sem, r0, r1]

set_option maxHeartbeats 1000000 in
theorem rMul_any (a b c d : Int) (w : World) (ha : inB a = true) (hb : inB b = true) (hc : inB c = true) (hd : inB d = true) :
    Calls Try.prog 60 #[.agg #[.int .i64 a, .int .i64 b], .agg #[.int .i64 c, .int .i64 d]] w fun e w' => e = outP (a * c - b * d) (a * d + b * c) ∧ Below w.heap.size w w' := by
  have ka := inB_iff.1 ha; have kb := inB_iff.1 hb; have kc := inB_iff.1 hc; have kd := inB_iff.1 hd
  have m1 := mul_bd ka kc; have m2 := mul_bd kb kd; have m3 := mul_bd ka kd; have m4 := mul_bd kb kc
  generalize hp1 : a * c = p1 at *
  generalize hp2 : b * d = p2 at *
  generalize hp3 : a * d = p3 at *
  generalize hp4 : b * c = p4 at *
  have e0 : wrap64 (p1) = p1 := wrap_id (by omega)
  have e1 : wrap64 (p2) = p2 := wrap_id (by omega)
  have e2 : wrap64 (p3) = p3 := wrap_id (by omega)
  have e3 : wrap64 (p4) = p4 := wrap_id (by omega)
  have e4 : wrap64 (p1 - p2) = p1 - p2 := wrap_id (by omega)
  have e5 : wrap64 (p3 + p4) = p3 + p4 := wrap_id (by omega)
  have HS := Lib.hid (fun W => bound_any (p1 - p2) (p3 + p4) W)
  obtain ⟨c1, c2, er, ho⟩ := outP_form (p1 - p2) (p3 + p4)
  have HO := Lib.hid ho
  rw [ho] at HS ⊢
  clear ha hb hc hd ka kb kc kd ho m1 m2 m3 m4
  go_enter Try.func60, Try.ntmps60
  go_wp2_with fail
  refine (HS.out _).mono ?_
  rintro e w1 ⟨rfl, hb1⟩
  obtain ⟨hh, hbw⟩ := fwd2 (show ((w.alloc _).alloc _).heap.size = w.heap.size + 1 + 1 by simp) (((Below.refl _ _).alloc (Nat.le_refl _) _).alloc (by simp) _) hb1
  obtain ⟨d0, d1, f0, f1⟩ := at2 hh
  clear hb1
  go_wp2
  obtain ⟨⟨r0, r1⟩, hbf⟩ := fin2 hh (by omega) hbw (.int .i64 c1) (.int .i64 c2)
  refine bodyPost_ret ?_ rfl ⟨rfl, hbf⟩
  simp [results, Try.results60, go_sem, r0, r1]
end Go.Proofs.Ytpidikbhjiaogaa
