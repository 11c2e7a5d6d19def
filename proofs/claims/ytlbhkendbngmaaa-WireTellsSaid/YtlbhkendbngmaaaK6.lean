/- Layer 16: the law of messages that are read. -/
import Derived.Test.YtlbhkendbngmaaaK5
import Derived.Test.YtlbhkendbngmaaaJ7
namespace Go.Proofs.Ytlbhkendbngmaaa.Wi
open Go.RowKit
set_option maxRecDepth 100000

theorem enc_len (m : MsgM) : (encodeM m).1.length ≤ 800 := by
  unfold encodeM
  split
  · simp
  · split
    · simp
    · simp only; omega
set_option maxHeartbeats 4000000 in
theorem reads_law (s : ByteArray) (w : World) (hs : s.size ≤ 4611686018427387904) :
    Calls Try.prog 4 #[.string s] w fun e w' => e = .returned (.bool true) ∧ Below w.heap.size w w' := by
  have h1 := decode_any s w hs
  have h2 := fun w => refDecode_any s w
  have hsm := small_decode s.data.toList
  have hback := fun h => encode_decode (s := s.data.toList) h
  obtain ⟨⟨m, er⟩, hd⟩ : ∃ z, decodeM s.data.toList = z := ⟨_, rfl⟩
  rw [hd] at h1 h2 hsm hback
  have H1 : Hid (Calls Try.prog 13 #[.string s] w fun e w' => (∃ v, e = .returned (.tuple #[v, .int .i64 er]) ∧ MsgO w.heap.size w' m v) ∧ Below w.heap.size w w') := Lib.hid h1
  have H2 : Hid (∀ w, Calls Try.prog 15 #[.string s] w fun e w' => (∃ v, e = .returned (.tuple #[v, .int .i64 er]) ∧ MsgO w.heap.size w' m v) ∧ Below w.heap.size w w') := Lib.hid h2
  have HSM : Hid (Small m) := Lib.hid hsm
  have HBK : Hid (er = 0 → encodeM m = (s.data.toList, 0)) := Lib.hid hback
  have HW := Lib.hid wakes_any
  obtain ⟨E, hE⟩ : ∃ E : ByteArray, E = ⟨m.ev.toArray⟩ := ⟨_, rfl⟩
  have HE := Lib.hid hE
  clear h1 h2 hsm hback hd hE
  go_enter Try.func4, Try.ntmps4
  go_wp2_with fail
  refine H1.out.mono ?_
  rintro e w1 ⟨⟨v, rfl, hmo⟩, hb1⟩
  obtain ⟨t3, t4, t5, t6, t7, t8, rfl, hmi⟩ := hmo.rd HSM.out
  rw [← HE.out] at hmi ⊢
  obtain ⟨A3, C3, rfl⟩ := hmi.tr.form
  obtain ⟨A4, C4, rfl⟩ := hmi.ss.form
  obtain ⟨A5, C5, rfl⟩ := hmi.en.form
  obtain ⟨A6, C6, rfl⟩ := hmi.vs.form
  obtain ⟨A7, C7, rfl⟩ := hmi.sets.form
  obtain ⟨A8, C8, rfl⟩ := hmi.pasts.form
  obtain ⟨w2, hwa⟩ : ∃ W, W = w1.alloc (.cells #[.int .i64 m.kd, .int .u64 (m.step : Nat), .string E, .slice A3 m.tr.length C3, .slice A4 m.ss.length C4, .slice A5 m.en.length C5, .slice A6 m.vs.length C6, .slice A7 m.sets.length C7, .slice A8 m.pasts.length C8] 27) := ⟨_, rfl⟩
  have hba : Below w1.heap.size w1 w2 := by rw [hwa]; exact (Below.refl _ _).alloc (Nat.le_refl _) _
  have q0 : w2.cell? ⟨w1.heap.size, 0, none⟩ = some (.int .i64 m.kd) := by rw [hwa]; exact (cell_of_row _ _ 0 _ _ _ (heap_alloc_new w1 _)).trans rfl
  have q1 : w2.cell? ⟨w1.heap.size, 1, none⟩ = some (.int .u64 (m.step : Nat)) := by rw [hwa]; exact (cell_of_row _ _ 1 _ _ _ (heap_alloc_new w1 _)).trans rfl
  have q2 : w2.cell? ⟨w1.heap.size, 2, none⟩ = some (.string E) := by rw [hwa]; exact (cell_of_row _ _ 2 _ _ _ (heap_alloc_new w1 _)).trans rfl
  have q3 : w2.cell? ⟨w1.heap.size, 3, none⟩ = some (.slice A3 m.tr.length C3) := by rw [hwa]; exact (cell_of_row _ _ 3 _ _ _ (heap_alloc_new w1 _)).trans rfl
  have q4 : w2.cell? ⟨w1.heap.size, 4, none⟩ = some (.slice A4 m.ss.length C4) := by rw [hwa]; exact (cell_of_row _ _ 4 _ _ _ (heap_alloc_new w1 _)).trans rfl
  have q5 : w2.cell? ⟨w1.heap.size, 5, none⟩ = some (.slice A5 m.en.length C5) := by rw [hwa]; exact (cell_of_row _ _ 5 _ _ _ (heap_alloc_new w1 _)).trans rfl
  have q6 : w2.cell? ⟨w1.heap.size, 6, none⟩ = some (.slice A6 m.vs.length C6) := by rw [hwa]; exact (cell_of_row _ _ 6 _ _ _ (heap_alloc_new w1 _)).trans rfl
  have q7 : w2.cell? ⟨w1.heap.size, 7, none⟩ = some (.slice A7 m.sets.length C7) := by rw [hwa]; exact (cell_of_row _ _ 7 _ _ _ (heap_alloc_new w1 _)).trans rfl
  have q8 : w2.cell? ⟨w1.heap.size, 8, none⟩ = some (.slice A8 m.pasts.length C8) := by rw [hwa]; exact (cell_of_row _ _ 8 _ _ _ (heap_alloc_new w1 _)).trans rfl
  have HB2 := Lib.hid (hb1.trans (hba.mono hb1.size))
  have HM2 := Lib.hid (hmi.below hba)
  have HWA := Lib.hid hwa
  obtain ⟨X, hX⟩ : ∃ X, X = w1.heap.size := ⟨_, rfl⟩
  rw [← hX] at q0 q1 q2 q3 q4 q5 q6 q7 q8
  have HX := Lib.hid hX
  clear hwa hba hb1 hmi hmo H1 hX
  unfold msgV
  go_upto_region 2 with fail
  rw [← HWA.out, ← HX.out]
  go_wp2_with fail
  refine (H2.out _).mono ?_
  rintro e w3 ⟨⟨v, rfl, hmo⟩, hb3⟩
  obtain ⟨t3, t4, t5, t6, t7, t8, rfl, hmi⟩ := hmo.rd HSM.out
  rw [← HE.out] at hmi ⊢
  obtain ⟨B3, D3, rfl⟩ := hmi.tr.form
  obtain ⟨B4, D4, rfl⟩ := hmi.ss.form
  obtain ⟨B5, D5, rfl⟩ := hmi.en.form
  obtain ⟨B6, D6, rfl⟩ := hmi.vs.form
  obtain ⟨B7, D7, rfl⟩ := hmi.sets.form
  obtain ⟨B8, D8, rfl⟩ := hmi.pasts.form
  obtain ⟨w4, hwa⟩ : ∃ W, W = w3.alloc (.cells #[.int .i64 m.kd, .int .u64 (m.step : Nat), .string E, .slice B3 m.tr.length D3, .slice B4 m.ss.length D4, .slice B5 m.en.length D5, .slice B6 m.vs.length D6, .slice B7 m.sets.length D7, .slice B8 m.pasts.length D8] 27) := ⟨_, rfl⟩
  have hba : Below w3.heap.size w3 w4 := by rw [hwa]; exact (Below.refl _ _).alloc (Nat.le_refl _) _
  have p0 : w4.cell? ⟨w3.heap.size, 0, none⟩ = some (.int .i64 m.kd) := by rw [hwa]; exact (cell_of_row _ _ 0 _ _ _ (heap_alloc_new w3 _)).trans rfl
  have p1 : w4.cell? ⟨w3.heap.size, 1, none⟩ = some (.int .u64 (m.step : Nat)) := by rw [hwa]; exact (cell_of_row _ _ 1 _ _ _ (heap_alloc_new w3 _)).trans rfl
  have p2 : w4.cell? ⟨w3.heap.size, 2, none⟩ = some (.string E) := by rw [hwa]; exact (cell_of_row _ _ 2 _ _ _ (heap_alloc_new w3 _)).trans rfl
  have p3 : w4.cell? ⟨w3.heap.size, 3, none⟩ = some (.slice B3 m.tr.length D3) := by rw [hwa]; exact (cell_of_row _ _ 3 _ _ _ (heap_alloc_new w3 _)).trans rfl
  have p4 : w4.cell? ⟨w3.heap.size, 4, none⟩ = some (.slice B4 m.ss.length D4) := by rw [hwa]; exact (cell_of_row _ _ 4 _ _ _ (heap_alloc_new w3 _)).trans rfl
  have p5 : w4.cell? ⟨w3.heap.size, 5, none⟩ = some (.slice B5 m.en.length D5) := by rw [hwa]; exact (cell_of_row _ _ 5 _ _ _ (heap_alloc_new w3 _)).trans rfl
  have p6 : w4.cell? ⟨w3.heap.size, 6, none⟩ = some (.slice B6 m.vs.length D6) := by rw [hwa]; exact (cell_of_row _ _ 6 _ _ _ (heap_alloc_new w3 _)).trans rfl
  have p7 : w4.cell? ⟨w3.heap.size, 7, none⟩ = some (.slice B7 m.sets.length D7) := by rw [hwa]; exact (cell_of_row _ _ 7 _ _ _ (heap_alloc_new w3 _)).trans rfl
  have p8 : w4.cell? ⟨w3.heap.size, 8, none⟩ = some (.slice B8 m.pasts.length D8) := by rw [hwa]; exact (cell_of_row _ _ 8 _ _ _ (heap_alloc_new w3 _)).trans rfl
  have hb24 : Below w2.heap.size w2 w4 := hb3.trans (hba.mono hb3.size)
  have HB24 := Lib.hid hb24
  have HM4 := Lib.hid (hmi.below hba)
  have HWB := Lib.hid hwa
  obtain ⟨Y, hY⟩ : ∃ Y, Y = w3.heap.size := ⟨_, rfl⟩
  rw [← hY] at p0 p1 p2 p3 p4 p5 p6 p7 p8
  have HY := Lib.hid hY
  clear hwa hba hb3 hmi hmo H2 hY hb24
  unfold msgV
  go_upto_region 3 with fail
  rw [← HWB.out, ← HY.out]
  go_wp2_with fail
  refine (HW.out _).mono ?_
  rintro e w5 ⟨rfl, hb5⟩
  have h25 := HB24.out.trans (hb5.mono HB24.out.size)
  have HB25 := Lib.hid h25
  have q0' := (h25.cell (cell_lt q0)).trans q0
  have p0' := (hb5.cell (cell_lt p0)).trans p0
  have q1' := (h25.cell (cell_lt q1)).trans q1
  have p1' := (hb5.cell (cell_lt p1)).trans p1
  have q2' := (h25.cell (cell_lt q2)).trans q2
  have p2' := (hb5.cell (cell_lt p2)).trans p2
  have q3' := (h25.cell (cell_lt q3)).trans q3
  have p3' := (hb5.cell (cell_lt p3)).trans p3
  have q4' := (h25.cell (cell_lt q4)).trans q4
  have p4' := (hb5.cell (cell_lt p4)).trans p4
  have q5' := (h25.cell (cell_lt q5)).trans q5
  have p5' := (hb5.cell (cell_lt p5)).trans p5
  have q6' := (h25.cell (cell_lt q6)).trans q6
  have p6' := (hb5.cell (cell_lt p6)).trans p6
  have q7' := (h25.cell (cell_lt q7)).trans q7
  have p7' := (hb5.cell (cell_lt p7)).trans p7
  have q8' := (h25.cell (cell_lt q8)).trans q8
  have p8' := (hb5.cell (cell_lt p8)).trans p8
  have HSAME : Hid (Calls Try.prog 14 #[.agg #[.int .i64 m.kd, .int .u64 (m.step : Nat), .string E, .slice A3 m.tr.length C3, .slice A4 m.ss.length C4, .slice A5 m.en.length C5, .slice A6 m.vs.length C6, .slice A7 m.sets.length C7, .slice A8 m.pasts.length C8], .agg #[.int .i64 m.kd, .int .u64 (m.step : Nat), .string E, .slice B3 m.tr.length D3, .slice B4 m.ss.length D4, .slice B5 m.en.length D5, .slice B6 m.vs.length D6, .slice B7 m.sets.length D7, .slice B8 m.pasts.length D8]] w5 fun e w' => e = .returned (.bool true) ∧ Below w5.heap.size w5 w') := Lib.hid (refSame_any w5 m E _ _ _ _ _ _ _ _ _ _ _ _ (HM2.out.below h25) (HM4.out.below hb5))
  clear h25 hb5 HW HM4 HB24 q0 p0 q1 p1 q2 p2 q3 p3 q4 p4 q5 p5 q6 p6 q7 p7 q8 p8
  go_wp2_with fail
  refine HSAME.out.mono ?_
  rintro e w6 ⟨rfl, hb6⟩
  have h26 := HB25.out.trans (hb6.mono HB25.out.size)
  have r0 := (hb6.cell (cell_lt q0')).trans q0'
  have r1 := (hb6.cell (cell_lt q1')).trans q1'
  have r2 := (hb6.cell (cell_lt q2')).trans q2'
  have r3 := (hb6.cell (cell_lt q3')).trans q3'
  have r4 := (hb6.cell (cell_lt q4')).trans q4'
  have r5 := (hb6.cell (cell_lt q5')).trans q5'
  have r6 := (hb6.cell (cell_lt q6')).trans q6'
  have r7 := (hb6.cell (cell_lt q7')).trans q7'
  have r8 := (hb6.cell (cell_lt q8')).trans q8'
  have HENC : Hid (Calls Try.prog 9 #[.agg #[.int .i64 m.kd, .int .u64 (m.step : Nat), .string E, .slice A3 m.tr.length C3, .slice A4 m.ss.length C4, .slice A5 m.en.length C5, .slice A6 m.vs.length C6, .slice A7 m.sets.length C7, .slice A8 m.pasts.length C8]] w6 fun e w' => e = .returned (.tuple #[.string ⟨(encodeM m).1.toArray⟩, .int .i64 (encodeM m).2]) ∧ Below w6.heap.size w6 w') := Lib.hid (encode_any w6 m E _ _ _ _ _ _ (HM2.out.below h26))
  have HB6 := Lib.hid (HB2.out.trans (h26.mono HB2.out.size))
  have hq3 : (er == er) = true := by simp
  have hq4 : (er != er) = false := by simp
  clear h26 hb6 HSAME HM2 HB25 HB2 q0' p0' q1' p1' q2' p2' q3' p3' q4' p4' q5' p5' q6' p6' q7' p7' q8' p8'
  go_wp2_with fail
  refine HENC.out.mono ?_
  rintro e w7 ⟨rfl, hb7⟩
  have HB7 := Lib.hid (HB6.out.trans (hb7.mono HB6.out.size))
  clear hb7 HENC HB6 r0 r1 r2 r3 r4 r5 r6 r7 r8
  by_cases he : er = 0
  · have hu := HBK.out he
    have hps : (⟨(encodeM m).1.toArray⟩ : ByteArray) = s := data_inj (by rw [hu])
    have hu2 : (encodeM m).2 = 0 := by rw [hu]
    rw [hps, hu2]
    subst he
    have hz3 : (s.toList == s.toList) = true := by simp
    clear hu hps hu2 HBK
    go_wp2
    go_ret
    exact ⟨rfl, HB7.out⟩
  · have heb : (er == 0) = false := beq_eq_false_iff_ne.2 he
    have heb2 : (er != 0) = true := by rw [bne, heb]; rfl
    generalize (encodeM m).2 = c
    generalize (⟨(encodeM m).1.toArray⟩ : ByteArray) = S
    clear HBK
    go_wp2
    go_ret
    exact ⟨rfl, HB7.out⟩
end Go.Proofs.Ytlbhkendbngmaaa.Wi
