/- Layer 16: the law of messages that are told. -/
import Derived.Test.YtlbhkendbngmaaaKu
import Derived.Test.YtlbhkendbngmaaaK6
namespace Go.Proofs.Ytlbhkendbngmaaa.Wi
open Go.RowKit
set_option maxRecDepth 100000

theorem enc_small {m : MsgM} (h : (encodeM m).2 = 0) : Small m := small_ok (encode_ok h).1
set_option maxHeartbeats 8000000 in
theorem tells_law (w : World) (m : MsgM) (Q : List (PastM × Value)) (ev : ByteArray) (t s n v st ps : Value) (hm : MI w m Q ev t s n v st ps) :
    Calls Try.prog 3 #[msgV m ev t s n v st ps] w fun e w' => e = .returned (.bool true) ∧ Below w.heap.size w w' := by
  obtain ⟨A0, c0, rfl⟩ := hm.tr.form
  obtain ⟨A1, c1, rfl⟩ := hm.ss.form
  obtain ⟨A2, c2, rfl⟩ := hm.en.form
  obtain ⟨A3, c3, rfl⟩ := hm.vs.form
  obtain ⟨A4, c4, rfl⟩ := hm.sets.form
  obtain ⟨A5, c5, rfl⟩ := hm.pasts.form
  obtain ⟨P, hP⟩ : ∃ P, P = w.heap.size := ⟨_, rfl⟩
  obtain ⟨w0, hw⟩ : ∃ W, W = w.alloc (.cells #[.int .i64 m.kd, .int .u64 m.step, .string ev, .slice A0 m.tr.length c0, .slice A1 m.ss.length c1, .slice A2 m.en.length c2, .slice A3 m.vs.length c3, .slice A4 m.sets.length c4, .slice A5 Q.length c5] 27) := ⟨_, rfl⟩
  have hb0 : Below w.heap.size w w0 := by rw [hw]; exact (Below.refl _ _).alloc (Nat.le_refl _) _
  have q0 : w0.cell? ⟨P, 0, none⟩ = some (.int .i64 m.kd) := by rw [hw, hP]; exact (cell_of_row _ _ 0 _ _ _ (heap_alloc_new w _)).trans rfl
  have Q0 := Lib.hid q0
  have q1 : w0.cell? ⟨P, 1, none⟩ = some (.int .u64 m.step) := by rw [hw, hP]; exact (cell_of_row _ _ 1 _ _ _ (heap_alloc_new w _)).trans rfl
  have Q1 := Lib.hid q1
  have q2 : w0.cell? ⟨P, 2, none⟩ = some (.string ev) := by rw [hw, hP]; exact (cell_of_row _ _ 2 _ _ _ (heap_alloc_new w _)).trans rfl
  have Q2 := Lib.hid q2
  have q3 : w0.cell? ⟨P, 3, none⟩ = some (.slice A0 m.tr.length c0) := by rw [hw, hP]; exact (cell_of_row _ _ 3 _ _ _ (heap_alloc_new w _)).trans rfl
  have Q3 := Lib.hid q3
  have q4 : w0.cell? ⟨P, 4, none⟩ = some (.slice A1 m.ss.length c1) := by rw [hw, hP]; exact (cell_of_row _ _ 4 _ _ _ (heap_alloc_new w _)).trans rfl
  have Q4 := Lib.hid q4
  have q5 : w0.cell? ⟨P, 5, none⟩ = some (.slice A2 m.en.length c2) := by rw [hw, hP]; exact (cell_of_row _ _ 5 _ _ _ (heap_alloc_new w _)).trans rfl
  have Q5 := Lib.hid q5
  have q6 : w0.cell? ⟨P, 6, none⟩ = some (.slice A3 m.vs.length c3) := by rw [hw, hP]; exact (cell_of_row _ _ 6 _ _ _ (heap_alloc_new w _)).trans rfl
  have Q6 := Lib.hid q6
  have q7 : w0.cell? ⟨P, 7, none⟩ = some (.slice A4 m.sets.length c4) := by rw [hw, hP]; exact (cell_of_row _ _ 7 _ _ _ (heap_alloc_new w _)).trans rfl
  have Q7 := Lib.hid q7
  have q8 : w0.cell? ⟨P, 8, none⟩ = some (.slice A5 Q.length c5) := by rw [hw, hP]; exact (cell_of_row _ _ 8 _ _ _ (heap_alloc_new w _)).trans rfl
  have Q8 := Lib.hid q8
  have hm0 := hm.below hb0
  have HCP : Hid (Calls Try.prog 10 #[.agg #[.int .i64 m.kd, .int .u64 m.step, .string ev, .slice A0 m.tr.length c0, .slice A1 m.ss.length c1, .slice A2 m.en.length c2, .slice A3 m.vs.length c3, .slice A4 m.sets.length c4, .slice A5 Q.length c5]] w0 fun e w' => (∃ t' s' n' v' st' ps', e = .returned (msgV m ev t' s' n' v' st' ps') ∧ MsgIn w' m ev t' s' n' v' st' ps') ∧ Below w0.heap.size w0 w') := Lib.hid (copied_any w0 m Q ev _ _ _ _ _ _ hm0)
  have hsame : m.pasts.length = Q.length := by rw [hm.q, List.length_map]
  obtain ⟨⟨l, er⟩, hd⟩ : ∃ z, encodeM m = z := ⟨_, rfl⟩
  have hlen := enc_len m
  have henc := fun (W : World) (t s n v st ps : Value) (h : MsgIn W m ev t s n v st ps) => encode_any W m ev t s n v st ps h
  have href := fun (W : World) (t s n v st ps : Value) (h : MsgIn W m ev t s n v st ps) => refEncode_any W m ev t s n v st ps h
  have hsm : er = 0 → Small m := fun h => enc_small (by rw [hd]; exact h)
  have hback : er = 0 → decodeM l = (m, 0) := fun h => by
    have := decode_encode (m := m) (by rw [hd]; exact h)
    rw [hd] at this; exact this
  obtain ⟨S, hS, hSl, hSz⟩ := bstr_eq l
  rw [hd] at henc href hlen
  have hSe : (⟨l.toArray⟩ : ByteArray) = S := data_inj (by rw [hSl])
  have HENC : Hid (∀ (W : World) (t s n v st ps : Value) (_ : MsgIn W m ev t s n v st ps), Calls Try.prog 9 #[msgV m ev t s n v st ps] W fun e w' => e = .returned (.tuple #[.string S, .int .i64 er]) ∧ Below W.heap.size W w') := Lib.hid (by rw [← hSe]; exact henc)
  have hrf : ∀ W, Below w0.heap.size w0 W → Calls Try.prog 11 #[.agg #[.int .i64 m.kd, .int .u64 m.step, .string ev, .slice A0 m.tr.length c0, .slice A1 m.ss.length c1, .slice A2 m.en.length c2, .slice A3 m.vs.length c3, .slice A4 m.sets.length c4, .slice A5 Q.length c5]] W fun e w' => e = .returned (.tuple #[.string S, .int .i64 er]) ∧ Below W.heap.size W w' := fun W hW => by
    rw [← hS]
    exact href W _ _ _ _ _ _ (hm0.below hW).msgIn
  have HRF := Lib.hid hrf
  have hdec := fun w => decode_any S w (by rw [hSz]; simp only at hlen; omega)
  rw [hSl] at hdec
  have HDEC := Lib.hid hdec
  have HW := Lib.hid wakes_any
  have HP := Lib.hid hP; have HW0 := Lib.hid hw; have HB0 := Lib.hid hb0; have HSM := Lib.hid hsm; have HBK := Lib.hid hback; have HM0 := Lib.hid hm0; have HSQ := Lib.hid hsame
  have hq1 : (S.toList == S.toList) = true := by simp
  have hq2 : (S.toList != S.toList) = false := by simp
  have hq3 : (er == er) = true := by simp
  have hq4 : (er != er) = false := by simp
  have HEVD := Lib.hid hm.evd
  clear hP hw hb0 hsm hback henc href hlen hd hS hSl hSz hm hm0 hSe hrf hdec hsame
  unfold msgV
  go_enter Try.func3, Try.ntmps3
  go_upto_region 1 with fail
  rw [← HW0.out, ← HP.out]
  go_wp2_with fail
  refine HCP.out.mono ?_
  rintro e w1 ⟨⟨t1, s1, n1, v1, st1, ps1, rfl, hmi⟩, hb1⟩
  have HE := Lib.hid (HENC.out w1 t1 s1 n1 v1 st1 ps1 hmi)
  have HB1 := Lib.hid hb1
  clear hmi hb1 HENC HCP
  go_wp2_with fail
  refine HE.out.mono ?_
  rintro e w2 ⟨rfl, hb2⟩
  have hb02 := HB1.out.trans (hb2.mono HB1.out.size)
  have HB2 := Lib.hid hb02
  have HR := Lib.hid (HRF.out w2 hb02)
  have r0 := (hb02.cell (cell_lt q0)).trans q0
  have r1 := (hb02.cell (cell_lt q1)).trans q1
  have r2 := (hb02.cell (cell_lt q2)).trans q2
  have r3 := (hb02.cell (cell_lt q3)).trans q3
  have r4 := (hb02.cell (cell_lt q4)).trans q4
  have r5 := (hb02.cell (cell_lt q5)).trans q5
  have r6 := (hb02.cell (cell_lt q6)).trans q6
  have r7 := (hb02.cell (cell_lt q7)).trans q7
  have r8 := (hb02.cell (cell_lt q8)).trans q8
  clear hb2 HE HB1 hb02 HRF q0 q1 q2 q3 q4 q5 q6 q7 q8
  go_wp2_with fail
  refine HR.out.mono ?_
  rintro e w3 ⟨rfl, hb3⟩
  have HB3 := Lib.hid (HB2.out.trans (hb3.mono HB2.out.size))
  clear hb3 HR HB2 r0 r1 r2 r3 r4 r5 r6 r7 r8
  go_wp2_with fail
  refine (HW.out _).mono ?_
  rintro e w4 ⟨rfl, hb4⟩
  have HB4 := Lib.hid (HB3.out.trans (hb4.mono HB3.out.size))
  clear hb4 HW HB3
  go_upto_region 5 with fail
  go_wp2_with fail
  refine (HDEC.out _).mono ?_
  rintro e w5 ⟨⟨v, rfl, hmo⟩, hb5⟩
  by_cases he : er = 0
  rotate_left
  · have heb : (er == 0) = false := beq_eq_false_iff_ne.2 he
    have heb2 : (er != 0) = true := by rw [bne, heb]; rfl
    have HB5 := Lib.hid (HB0.out.trans ((HB4.out.trans (hb5.mono HB4.out.size)).mono HB0.out.size))
    obtain ⟨t3, t4, t5, t6, t7, t8, rfl, hmi⟩ := hmo.rd (small_decode l)
    obtain ⟨B3, D3, rfl⟩ := hmi.tr.form
    obtain ⟨B4, D4, rfl⟩ := hmi.ss.form
    obtain ⟨B5, D5, rfl⟩ := hmi.en.form
    obtain ⟨B6, D6, rfl⟩ := hmi.vs.form
    obtain ⟨B7, D7, rfl⟩ := hmi.sets.form
    obtain ⟨B8, D8, rfl⟩ := hmi.pasts.form
    obtain ⟨w6, hw6⟩ : ∃ W, W = w5.alloc (.cells #[.int .i64 (decodeM l).1.kd, .int .u64 ((decodeM l).1.step : Nat), .string ⟨(decodeM l).1.ev.toArray⟩, .slice B3 (decodeM l).1.tr.length D3, .slice B4 (decodeM l).1.ss.length D4, .slice B5 (decodeM l).1.en.length D5, .slice B6 (decodeM l).1.vs.length D6, .slice B7 (decodeM l).1.sets.length D7, .slice B8 (decodeM l).1.pasts.length D8] 27) := ⟨_, rfl⟩
    have HB6 : Hid (Below w.heap.size w w6) := Lib.hid (HB5.out.trans ((by rw [hw6]; exact (Below.refl _ _).alloc (Nat.le_refl _) _ : Below w5.heap.size w5 w6).mono HB5.out.size))
    have HW6 := Lib.hid hw6
    clear hb5 HB4 HSM HBK hw6 hmi hmo
    unfold msgV
    generalize (decodeM l).2 = c
    go_upto_region 6 with fail
    rw [← HW6.out]
    go_wp2
    go_ret
    exact ⟨rfl, HB6.out⟩
  have hbk := HBK.out he
  have hsm := HSM.out he
  rw [hbk] at hmo ⊢
  obtain ⟨t3, t4, t5, t6, t7, t8, rfl, hmi⟩ := hmo.rd hsm
  obtain ⟨E, hE⟩ : ∃ E : ByteArray, E = ⟨m.ev.toArray⟩ := ⟨_, rfl⟩
  have hEv : E = ev := by rw [hE]; exact data_inj HEVD.out.symm
  rw [← hE] at hmi ⊢
  rw [hEv] at hmi ⊢
  obtain ⟨B3, D3, rfl⟩ := hmi.tr.form
  obtain ⟨B4, D4, rfl⟩ := hmi.ss.form
  obtain ⟨B5, D5, rfl⟩ := hmi.en.form
  obtain ⟨B6, D6, rfl⟩ := hmi.vs.form
  obtain ⟨B7, D7, rfl⟩ := hmi.sets.form
  obtain ⟨B8, D8, rfl⟩ := hmi.pasts.form
  obtain ⟨Y, hY⟩ : ∃ Y, Y = w5.heap.size := ⟨_, rfl⟩
  obtain ⟨w6, hw6⟩ : ∃ W, W = w5.alloc (.cells #[.int .i64 m.kd, .int .u64 (m.step : Nat), .string ev, .slice B3 m.tr.length D3, .slice B4 m.ss.length D4, .slice B5 m.en.length D5, .slice B6 m.vs.length D6, .slice B7 m.sets.length D7, .slice B8 m.pasts.length D8] 27) := ⟨_, rfl⟩
  have hb6 : Below w5.heap.size w5 w6 := by rw [hw6]; exact (Below.refl _ _).alloc (Nat.le_refl _) _
  have hb06 : Below w0.heap.size w0 w6 := HB4.out.trans ((hb5.trans (hb6.mono hb5.size)).mono HB4.out.size)
  have p0 : w6.cell? ⟨Y, 0, none⟩ = some (.int .i64 m.kd) := by rw [hw6, hY]; exact (cell_of_row _ _ 0 _ _ _ (heap_alloc_new w5 _)).trans rfl
  have p1 : w6.cell? ⟨Y, 1, none⟩ = some (.int .u64 (m.step : Nat)) := by rw [hw6, hY]; exact (cell_of_row _ _ 1 _ _ _ (heap_alloc_new w5 _)).trans rfl
  have p2 : w6.cell? ⟨Y, 2, none⟩ = some (.string ev) := by rw [hw6, hY]; exact (cell_of_row _ _ 2 _ _ _ (heap_alloc_new w5 _)).trans rfl
  have p3 : w6.cell? ⟨Y, 3, none⟩ = some (.slice B3 m.tr.length D3) := by rw [hw6, hY]; exact (cell_of_row _ _ 3 _ _ _ (heap_alloc_new w5 _)).trans rfl
  have p4 : w6.cell? ⟨Y, 4, none⟩ = some (.slice B4 m.ss.length D4) := by rw [hw6, hY]; exact (cell_of_row _ _ 4 _ _ _ (heap_alloc_new w5 _)).trans rfl
  have p5 : w6.cell? ⟨Y, 5, none⟩ = some (.slice B5 m.en.length D5) := by rw [hw6, hY]; exact (cell_of_row _ _ 5 _ _ _ (heap_alloc_new w5 _)).trans rfl
  have p6 : w6.cell? ⟨Y, 6, none⟩ = some (.slice B6 m.vs.length D6) := by rw [hw6, hY]; exact (cell_of_row _ _ 6 _ _ _ (heap_alloc_new w5 _)).trans rfl
  have p7 : w6.cell? ⟨Y, 7, none⟩ = some (.slice B7 m.sets.length D7) := by rw [hw6, hY]; exact (cell_of_row _ _ 7 _ _ _ (heap_alloc_new w5 _)).trans rfl
  have p8 : w6.cell? ⟨Y, 8, none⟩ = some (.slice B8 m.pasts.length D8) := by rw [hw6, hY]; exact (cell_of_row _ _ 8 _ _ _ (heap_alloc_new w5 _)).trans rfl
  have r0 := (hb06.cell (cell_lt Q0.out)).trans Q0.out
  have r1 := (hb06.cell (cell_lt Q1.out)).trans Q1.out
  have r2 := (hb06.cell (cell_lt Q2.out)).trans Q2.out
  have r3 := (hb06.cell (cell_lt Q3.out)).trans Q3.out
  have r4 := (hb06.cell (cell_lt Q4.out)).trans Q4.out
  have r5 := (hb06.cell (cell_lt Q5.out)).trans Q5.out
  have r6 := (hb06.cell (cell_lt Q6.out)).trans Q6.out
  have r7 := (hb06.cell (cell_lt Q7.out)).trans Q7.out
  have r8 := (hb06.cell (cell_lt Q8.out)).trans Q8.out
  have HSAME : Hid (Calls Try.prog 14 #[.agg #[.int .i64 m.kd, .int .u64 m.step, .string ev, .slice A0 m.tr.length c0, .slice A1 m.ss.length c1, .slice A2 m.en.length c2, .slice A3 m.vs.length c3, .slice A4 m.sets.length c4, .slice A5 Q.length c5], .agg #[.int .i64 m.kd, .int .u64 (m.step : Nat), .string ev, .slice B3 m.tr.length D3, .slice B4 m.ss.length D4, .slice B5 m.en.length D5, .slice B6 m.vs.length D6, .slice B7 m.sets.length D7, .slice B8 m.pasts.length D8]] w6 fun e w' => e = .returned (.bool true) ∧ Below w6.heap.size w6 w') := Lib.hid (refSame_any w6 m ev _ _ _ _ _ _ _ _ _ _ _ _ (HM0.out.below hb06).msgIn (hmi.below hb6))
  have HYY := Lib.hid hY; have HW6 := Lib.hid hw6
  have HB6 := Lib.hid (HB0.out.trans (hb06.mono HB0.out.size))
  subst he
  have heb : ((0 : Int) == 0) = true := rfl
  clear hbk hsm hmo hmi hY hw6 hb6 hb06 hb5 HB4 HDEC hE hEv
  unfold msgV
  go_upto_region 6 with fail
  rw [← HW6.out, ← HYY.out]
  go_wp2_with fail
  refine HSAME.out.mono ?_
  rintro e w8 ⟨rfl, hb8⟩
  have HB8 := Lib.hid (HB6.out.trans (hb8.mono HB6.out.size))
  clear hb8 HSAME HB6
  go_wp2
  go_ret
  exact ⟨rfl, HB8.out⟩
end Go.Proofs.Ytlbhkendbngmaaa.Wi
