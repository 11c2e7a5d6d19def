/- Layer 16: the document's Encode. -/
import Derived.Test.YtlbhkendbngmaaaK7
import Derived.Test.YtlbhkendbngmaaaJ4
import Derived.Stop.BytesEq
namespace Go.Proofs.Ytlbhkendbngmaaa.Wi
open Go.RowKit
set_option maxRecDepth 100000

theorem idx4 (w : World) (a b c d : Value) : (Instr.index 62 (.agg #[a, b, c, d]) (.int .i64 0)).run Try.prog w = .ok a w ∧ (Instr.index 62 (.agg #[a, b, c, d]) (.int .i64 1)).run Try.prog w = .ok b w ∧ (Instr.index 62 (.agg #[a, b, c, d]) (.int .i64 2)).run Try.prog w = .ok c w ∧ (Instr.index 62 (.agg #[a, b, c, d]) (.int .i64 3)).run Try.prog w = .ok d w := by
  have hs := Try.sizeOf23 w
  simp [Instr.index, asIntOf, run_underlying Try.underlying62, hs, part, isAgg, run_underlying Try.underlying23]
theorem u64_wide (x : Int) : IntKind.u64.wrap x = ((wideN x : Nat) : Int) := by
  unfold wideN
  simp [IntKind.wrap, IntKind.bits, IntKind.signed]
  omega
theorem wide_lt (x : Int) : wideN x < 18446744073709551616 := by unfold wideN; omega
theorem two_new (w : World) (B C : UInt8) {ps : List Value} : OneD [B, C] ps (.slice (some ⟨w.heap.size, 0, none⟩) 2 2) (w.alloc (.cells #[.int .u8 (B.toNat : Int), .int .u8 (C.toNat : Int)] 5)) := ⟨_, rfl, fun j hj => by
  rcases (show j = 0 ∨ j = 1 by simp at hj; omega) with rfl | rfl <;> simp⟩
theorem take_mem {α : Type} {L : List α} {j : Nat} (hj : j < L.length) {x : α} (h : x ∈ L.take (j + 1)) : x ∈ L.take j ∨ x = L[j] := by
  rw [List.take_succ_eq_append_getElem hj] at h
  rcases List.mem_append.1 h with h | h
  · exact Or.inl h
  · exact Or.inr (List.mem_singleton.1 h)
theorem list_len (l : List Int) : (listT l).length = 1 + l.length := by
  unfold listT
  rw [List.length_append, List.length_flatMap, show (fun x => (intT x).length) = (fun _ => 1) from rfl, List.map_const', List.sum_replicate_nat]
  show 1 + _ = _
  omega
theorem u8_same {n : Int} (h0 : 0 ≤ n) (h1 : n ≤ 255) : IntKind.u8.wrap n = n := by
  simp [IntKind.wrap, IntKind.bits, IntKind.signed]
  omega
theorem enc_no {m : MsgM} (h : ¬ OkMsg m) : encodeM m = ([], 1) := by unfold encodeM; rw [if_pos h]
theorem enc_long {m : MsgM} (h : OkMsg m) (hl : 800 < (msgT m).length) : encodeM m = ([], 4) := by unfold encodeM; rw [if_neg (fun k => k h), if_pos hl]
theorem enc_yes {m : MsgM} (h : OkMsg m) (hl : ¬ 800 < (msgT m).length) : encodeM m = (msgT m, 0) := by unfold encodeM; rw [if_neg (fun k => k h), if_neg hl]
set_option maxHeartbeats 8000000 in
theorem refEncode_any (w : World) (m : MsgM) (ev : ByteArray) (t s n v st ps : Value) (hm : MsgIn w m ev t s n v st ps) :
    Calls Try.prog 11 #[msgV m ev t s n v st ps] w fun e w' => e = .returned (.tuple #[bstr (encodeM m).1, .int .i64 (encodeM m).2]) ∧ Below w.heap.size w w' := by
  obtain ⟨A0, c0, rfl⟩ := hm.tr.form
  obtain ⟨A1, c1, rfl⟩ := hm.ss.form
  obtain ⟨A2, c2, rfl⟩ := hm.en.form
  obtain ⟨A3, c3, rfl⟩ := hm.vs.form
  obtain ⟨A4, c4, rfl⟩ := hm.sets.form
  obtain ⟨A5, c5, rfl⟩ := hm.pasts.form
  obtain ⟨P, hP⟩ : ∃ P, P = w.heap.size := ⟨_, rfl⟩
  obtain ⟨w0, hw⟩ : ∃ W, W = w.alloc (.cells #[.int .i64 m.kd, .int .u64 (m.step : Nat), .string ev, .slice A0 m.tr.length c0, .slice A1 m.ss.length c1, .slice A2 m.en.length c2, .slice A3 m.vs.length c3, .slice A4 m.sets.length c4, .slice A5 m.pasts.length c5] 27) := ⟨_, rfl⟩
  have hb0 : Below w.heap.size w w0 := by rw [hw]; exact (Below.refl _ _).alloc (Nat.le_refl _) _
  have q0 : w0.cell? ⟨P, 0, none⟩ = some (.int .i64 m.kd) := by rw [hw, hP]; exact (cell_of_row _ _ 0 _ _ _ (heap_alloc_new w _)).trans rfl
  have Q0 := Lib.hid q0
  have q1 : w0.cell? ⟨P, 1, none⟩ = some (.int .u64 (m.step : Nat)) := by rw [hw, hP]; exact (cell_of_row _ _ 1 _ _ _ (heap_alloc_new w _)).trans rfl
  have Q1 := Lib.hid q1
  have q2 : w0.cell? ⟨P, 2, none⟩ = some (.string ev) := by rw [hw, hP]; exact (cell_of_row _ _ 2 _ _ _ (heap_alloc_new w _)).trans rfl
  have Q2 := Lib.hid q2
  have q3 : w0.cell? ⟨P, 3, none⟩ = some (.slice A0 m.tr.length c0) := by rw [hw, hP]; exact (cell_of_row _ _ 3 _ _ _ (heap_alloc_new w _)).trans rfl
  have Q3 := Lib.hid q3
  have q4 : w0.cell? ⟨P, 4, none⟩ = some (.slice A1 m.ss.length c1) := by rw [hw, hP]; exact (cell_of_row _ _ 4 _ _ _ (heap_alloc_new w _)).trans rfl
  have Q4 := Lib.hid q4
  have q5 : w0.cell? ⟨P, 5, none⟩ = some (.slice A2 m.en.length c2) := by rw [hw, hP]; exact (cell_of_row _ _ 5 _ _ _ (heap_alloc_new w _)).trans rfl
  have Q5 := Lib.hid q5
  have q6 : w0.cell? ⟨P, 6, none⟩ = some (.slice A3 m.vs.length c3) := by rw [hw, hP]; exact (cell_of_row _ _ 6 _ _ _ (heap_alloc_new w _)).trans rfl
  have Q6 := Lib.hid q6
  have q7 : w0.cell? ⟨P, 7, none⟩ = some (.slice A4 m.sets.length c4) := by rw [hw, hP]; exact (cell_of_row _ _ 7 _ _ _ (heap_alloc_new w _)).trans rfl
  have Q7 := Lib.hid q7
  have q8 : w0.cell? ⟨P, 8, none⟩ = some (.slice A5 m.pasts.length c5) := by rw [hw, hP]; exact (cell_of_row _ _ 8 _ _ _ (heap_alloc_new w _)).trans rfl
  have Q8 := Lib.hid q8
  have HP := Lib.hid hP; have HW0 := Lib.hid hw; have HB0 := Lib.hid hb0
  have HMI := Lib.hid (hm.below hb0)
  have hevd : ev.size = m.ev.length := by rw [Lib.size_eq, hm.evd]
  have HEV := Lib.hid hevd
  clear hP hw hb0 hm hevd
  unfold msgV
  go_enter Try.func11, Try.ntmps11
  go_upto_region 1 with fail
  rw [← HW0.out, ← HP.out]
  by_cases ht0 : m.kd < 1
  · have hi0 : m.kd < 1 := by omega
    have hd0 : decide (m.kd < 1) = true := decide_eq_true hi0
    have HN := Lib.hid (enc_no (m := m) (fun h => by have := h.kd.1; omega))
    go_wp2
    go_ret2
    rw [HN.out]
    exact ⟨rfl, HB0.out⟩
  have hi0 : ¬ (m.kd < 1) := by omega
  have hd0 : decide (m.kd < 1) = false := decide_eq_false hi0
  by_cases ht1 : 9 < m.kd
  · have hi1 : (9 : Int) < m.kd := by omega
    have hd1 : decide ((9 : Int) < m.kd) = true := decide_eq_true hi1
    have HN := Lib.hid (enc_no (m := m) (fun h => by have := h.kd.2; omega))
    go_wp2
    go_ret2
    rw [HN.out]
    exact ⟨rfl, HB0.out⟩
  have hi1 : ¬ ((9 : Int) < m.kd) := by omega
  have hd1 : decide ((9 : Int) < m.kd) = false := decide_eq_false hi1
  by_cases ht2 : 20 < ev.size
  · have hi2 : (20 : Int) < ev.size := by omega
    have hd2 : decide ((20 : Int) < ev.size) = true := decide_eq_true hi2
    have HN := Lib.hid (enc_no (m := m) (fun h => by have := h.ev; rw [HEV.out] at ht2; omega))
    go_wp2
    go_ret2
    rw [HN.out]
    exact ⟨rfl, HB0.out⟩
  have hi2 : ¬ ((20 : Int) < ev.size) := by omega
  have hd2 : decide ((20 : Int) < ev.size) = false := decide_eq_false hi2
  by_cases ht3 : 8 < m.sets.length
  · have hi3 : (8 : Int) < m.sets.length := by omega
    have hd3 : decide ((8 : Int) < m.sets.length) = true := decide_eq_true hi3
    have HN := Lib.hid (enc_no (m := m) (fun h => by have := h.sets.1; omega))
    go_wp2
    go_ret2
    rw [HN.out]
    exact ⟨rfl, HB0.out⟩
  have hi3 : ¬ ((8 : Int) < m.sets.length) := by omega
  have hd3 : decide ((8 : Int) < m.sets.length) = false := decide_eq_false hi3
  by_cases ht4 : 40 < m.pasts.length
  · have hi4 : (40 : Int) < m.pasts.length := by omega
    have hd4 : decide ((40 : Int) < m.pasts.length) = true := decide_eq_true hi4
    have HN := Lib.hid (enc_no (m := m) (fun h => by have := h.pasts.1; omega))
    go_wp2
    go_ret2
    rw [HN.out]
    exact ⟨rfl, HB0.out⟩
  have hi4 : ¬ ((40 : Int) < m.pasts.length) := by omega
  have hd4 : decide ((40 : Int) < m.pasts.length) = false := decide_eq_false hi4
  go_upto_region 3 with fail
  obtain ⟨B0, hB0⟩ : ∃ B : UInt8, B = UInt8.ofNat m.kd.toNat := ⟨_, rfl⟩
  have hbk : (B0.toNat : Int) = m.kd := by rw [hB0, UInt8.toNat_ofNat']; omega
  obtain ⟨B1, hB1⟩ : ∃ B : UInt8, B = UInt8.ofNat ev.size := ⟨_, rfl⟩
  have hbe : (B1.toNat : Int) = (ev.size : Int) := by rw [hB1, UInt8.toNat_ofNat']; omega
  obtain ⟨E, hE⟩ : ∃ E : ByteArray, E = ⟨(leN 8 m.step).toArray⟩ := ⟨_, rfl⟩
  have hes : E.size = 8 := by rw [hE]; exact leN_len 8 m.step
  have HE := Lib.hid (fun w => refEight_any m.step HMI.out.step w)
  unfold bstr at HE
  rw [← hE] at HE
  have HES := Lib.hid hes
  obtain ⟨X, hX⟩ : ∃ X : ByteArray, X = (⟨[B0].toArray⟩ : ByteArray) ++ E ++ ⟨[B1].toArray⟩ ++ ev := ⟨_, rfl⟩
  have hXd : X.data.toList = intT m.kd ++ (leN 8 m.step ++ evT m.ev) := by
    rw [hX, ByteArray.data_append, Array.toList_append, ByteArray.data_append, Array.toList_append, ByteArray.data_append, Array.toList_append, hE, hB0, hB1, HMI.out.evd, HEV.out]
    simp [intT, evT, byteT]
  have HX := Lib.hid hX; have HXD := Lib.hid hXd
  have hevs : ev.size ≤ 20 := by omega
  have HEVS := Lib.hid hevs
  have HBK := Lib.hid hbk; have HBE := Lib.hid hbe
  have HOK1 : Hid ((1 ≤ m.kd ∧ m.kd ≤ 9) ∧ m.ev.length ≤ 20 ∧ m.sets.length ≤ 8 ∧ m.pasts.length ≤ 40) := Lib.hid ⟨⟨by omega, by omega⟩, by rw [← HEV.out]; omega, by omega, by omega⟩
  clear hB0 hB1 hE hes hX hXd hi2 hd2 ht2 hi3 hd3 ht3 hi4 hd4 ht4 hd0 hd1 hbk hbe hevs q0 q1 q2 q3 q4 q5 q6 q7 q8
  have HWK : Hid (IntKind.u8.wrap m.kd = m.kd) := Lib.hid (u8_same (by have := HOK1.out; omega) (by have := HOK1.out; omega))
  have HWE : Hid (IntKind.u8.wrap (ev.size : Int) = (ev.size : Int)) := Lib.hid (u8_same (by omega) (by have := HEVS.out; omega))
  have D0 : Hid (w0.drew.cell? ⟨P, 0, none⟩ = some (.int .i64 m.kd)) := Lib.hid Q0.out
  have D1 : Hid (w0.drew.cell? ⟨P, 1, none⟩ = some (.int .u64 (m.step : Nat))) := Lib.hid Q1.out
  have D2 : Hid (w0.drew.cell? ⟨P, 2, none⟩ = some (.string ev)) := Lib.hid Q2.out
  refine Oy.region_quiet 207 [Oy.eqD (.pointer (some ⟨P, 0, none⟩)), Oy.eqD (.int .i64 m.kd), Oy.eqD (.int .u8 m.kd), OneD [B0], Oy.eqD (.string ⟨([B0]).toArray⟩), Oy.eqD (.pointer (some ⟨P, 1, none⟩)), Oy.eqD (.int .u64 (m.step : Nat)), Oy.eqD (.string E), Oy.eqD (.string (⟨[B0].toArray⟩ ++ E)), Oy.eqD (.pointer (some ⟨P, 2, none⟩)), Oy.eqD (.string ev), Oy.eqD (.int .i64 (ev.size : Nat)), Oy.eqD (.int .u8 (ev.size : Nat)), OneD [B1], Oy.eqD (.string ⟨([B1]).toArray⟩), Oy.eqD (.string (⟨[B0].toArray⟩ ++ E ++ ⟨[B1].toArray⟩)), Oy.eqD (.pointer (some ⟨P, 2, none⟩)), Oy.eqD (.string ev), Oy.eqD (.string (⟨[B0].toArray⟩ ++ E ++ ⟨[B1].toArray⟩ ++ ev)), Oy.eqD (.string (⟨[B0].toArray⟩ ++ E ++ ⟨[B1].toArray⟩ ++ ev))] [[], [], [], [], [], [], [], [], [], [], [], [], [], [], [], [], [], [], [], []] (by kernel_rfl) rfl (by kernel_rfl) (by kernel_rfl) ⟨Oy.keeps_eq _, Oy.keeps_eq _, Oy.keeps_eq _, keeps_one _, Oy.keeps_eq _, Oy.keeps_eq _, Oy.keeps_eq _, Oy.keeps_eq _, Oy.keeps_eq _, Oy.keeps_eq _, Oy.keeps_eq _, Oy.keeps_eq _, Oy.keeps_eq _, keeps_one _, Oy.keeps_eq _, Oy.keeps_eq _, Oy.keeps_eq _, Oy.keeps_eq _, Oy.keeps_eq _, Oy.keeps_eq _, trivial⟩ ?_
  refine Oy.walk_q ?_ fun x39 => ?_
  · intro w1 hb hd K hK
    clear hd
    go_simp
    exact hK _ _ (Below.refl _ _) rfl
  refine Oy.walk_q ?_ fun x40 => ?_
  · intro w1 hb hd K hK
    obtain rfl : _ = x39 := Eq.symm (hd 0 (by kernel_rfl))
    have hc := (hb.cell (cell_lt D0.out)).trans D0.out
    clear hd
    go_simp
    exact hK _ _ (Below.refl _ _) rfl
  refine Oy.walk_q ?_ fun x41 => ?_
  · intro w1 hb hd K hK
    obtain rfl : _ = x40 := Eq.symm (hd 1 (by kernel_rfl))
    clear hd
    go_simp
    rw [HWK.out]
    exact hK _ _ (Below.refl _ _) rfl
  refine Oy.walk_q ?_ fun x42 => ?_
  · intro w1 hb hd K hK
    obtain rfl : _ = x41 := Eq.symm (hd 2 (by kernel_rfl))
    clear hd
    go_simp
    exact hK _ _ ((Below.refl _ _).alloc (Nat.le_refl _) _) (by have ho := one_new w1 B0 (ps := []); rw [HBK.out] at ho; exact ho)
  refine Oy.walk_q ?_ fun x43 => ?_
  · intro w1 hb hd K hK
    have h42 : (OneD [B0]) [] x42 w1 := hd 3 (by kernel_rfl)
    obtain ⟨g0, rfl, hc0⟩ := h42
    have hkc := one_back w1 g0 _ hc0
    rw [show ([B0]).length = 1 from rfl] at hkc ⊢
    clear hd hc0
    go_simp
    exact hK _ _ (Below.refl _ _) rfl
  refine Oy.walk_q ?_ fun x44 => ?_
  · intro w1 hb hd K hK
    clear hd
    go_simp
    exact hK _ _ (Below.refl _ _) rfl
  refine Oy.walk_q ?_ fun x45 => ?_
  · intro w1 hb hd K hK
    obtain rfl : _ = x44 := Eq.symm (hd 5 (by kernel_rfl))
    have hc := (hb.cell (cell_lt D1.out)).trans D1.out
    clear hd
    go_simp
    exact hK _ _ (Below.refl _ _) rfl
  refine Oy.walk_q ?_ fun x46 => ?_
  · intro w1 hb hd K hK
    obtain rfl : _ = x45 := Eq.symm (hd 6 (by kernel_rfl))
    clear hd
    go_simp
    refine (HE.out w1).mono ?_
    rintro e w5 ⟨rfl, hb5⟩
    go_simp
    exact hK _ _ hb5 rfl
  refine Oy.walk_q ?_ fun x47 => ?_
  · intro w1 hb hd K hK
    obtain rfl : _ = x43 := Eq.symm (hd 4 (by kernel_rfl))
    obtain rfl : _ = x46 := Eq.symm (hd 7 (by kernel_rfl))
    clear hd
    go_simp
    rw [if_neg]
    · exact hK _ _ (Below.refl _ _) rfl
    · have := HES.out; have := HEVS.out; have h4 : (⟨[B0].toArray⟩ : ByteArray).size = 1 := rfl; have h4b : (⟨[B1].toArray⟩ : ByteArray).size = 1 := rfl; have hz1 := ByteArray.size_append (a := (⟨[B0].toArray⟩ : ByteArray)) (b := E); have hz2 := ByteArray.size_append (a := (⟨[B0].toArray⟩ : ByteArray) ++ E) (b := ⟨[B1].toArray⟩); have hz3 := ByteArray.size_append (a := (⟨[B0].toArray⟩ : ByteArray) ++ E ++ ⟨[B1].toArray⟩) (b := ev); (first | omega | (simp only [ByteArray.size_append] at *; omega))
  refine Oy.walk_q ?_ fun x48 => ?_
  · intro w1 hb hd K hK
    clear hd
    go_simp
    exact hK _ _ (Below.refl _ _) rfl
  refine Oy.walk_q ?_ fun x49 => ?_
  · intro w1 hb hd K hK
    obtain rfl : _ = x48 := Eq.symm (hd 9 (by kernel_rfl))
    have hc := (hb.cell (cell_lt D2.out)).trans D2.out
    clear hd
    go_simp
    exact hK _ _ (Below.refl _ _) rfl
  refine Oy.walk_q ?_ fun x50 => ?_
  · intro w1 hb hd K hK
    obtain rfl : _ = x49 := Eq.symm (hd 10 (by kernel_rfl))
    clear hd
    go_simp
    exact hK _ _ (Below.refl _ _) rfl
  refine Oy.walk_q ?_ fun x51 => ?_
  · intro w1 hb hd K hK
    obtain rfl : _ = x50 := Eq.symm (hd 11 (by kernel_rfl))
    clear hd
    go_simp
    rw [HWE.out]
    exact hK _ _ (Below.refl _ _) rfl
  refine Oy.walk_q ?_ fun x52 => ?_
  · intro w1 hb hd K hK
    obtain rfl : _ = x51 := Eq.symm (hd 12 (by kernel_rfl))
    clear hd
    go_simp
    exact hK _ _ ((Below.refl _ _).alloc (Nat.le_refl _) _) (by have ho := one_new w1 B1 (ps := []); rw [HBE.out] at ho; exact ho)
  refine Oy.walk_q ?_ fun x53 => ?_
  · intro w1 hb hd K hK
    have h52 : (OneD [B1]) [] x52 w1 := hd 13 (by kernel_rfl)
    obtain ⟨g0, rfl, hc0⟩ := h52
    have hkc := one_back w1 g0 _ hc0
    rw [show ([B1]).length = 1 from rfl] at hkc ⊢
    clear hd hc0
    go_simp
    exact hK _ _ (Below.refl _ _) rfl
  refine Oy.walk_q ?_ fun x54 => ?_
  · intro w1 hb hd K hK
    obtain rfl : _ = x47 := Eq.symm (hd 8 (by kernel_rfl))
    obtain rfl : _ = x53 := Eq.symm (hd 14 (by kernel_rfl))
    clear hd
    go_simp
    rw [if_neg]
    · exact hK _ _ (Below.refl _ _) rfl
    · have := HES.out; have := HEVS.out; have h4 : (⟨[B0].toArray⟩ : ByteArray).size = 1 := rfl; have h4b : (⟨[B1].toArray⟩ : ByteArray).size = 1 := rfl; have hz1 := ByteArray.size_append (a := (⟨[B0].toArray⟩ : ByteArray)) (b := E); have hz2 := ByteArray.size_append (a := (⟨[B0].toArray⟩ : ByteArray) ++ E) (b := ⟨[B1].toArray⟩); have hz3 := ByteArray.size_append (a := (⟨[B0].toArray⟩ : ByteArray) ++ E ++ ⟨[B1].toArray⟩) (b := ev); (first | omega | (simp only [ByteArray.size_append] at *; omega))
  refine Oy.walk_q ?_ fun x55 => ?_
  · intro w1 hb hd K hK
    clear hd
    go_simp
    exact hK _ _ (Below.refl _ _) rfl
  refine Oy.walk_q ?_ fun x56 => ?_
  · intro w1 hb hd K hK
    obtain rfl : _ = x55 := Eq.symm (hd 16 (by kernel_rfl))
    have hc := (hb.cell (cell_lt D2.out)).trans D2.out
    clear hd
    go_simp
    exact hK _ _ (Below.refl _ _) rfl
  refine Oy.walk_q ?_ fun x57 => ?_
  · intro w1 hb hd K hK
    obtain rfl : _ = x54 := Eq.symm (hd 15 (by kernel_rfl))
    obtain rfl : _ = x56 := Eq.symm (hd 17 (by kernel_rfl))
    clear hd
    go_simp
    rw [if_neg]
    · exact hK _ _ (Below.refl _ _) rfl
    · have := HES.out; have := HEVS.out; have h4 : (⟨[B0].toArray⟩ : ByteArray).size = 1 := rfl; have h4b : (⟨[B1].toArray⟩ : ByteArray).size = 1 := rfl; have hz1 := ByteArray.size_append (a := (⟨[B0].toArray⟩ : ByteArray)) (b := E); have hz2 := ByteArray.size_append (a := (⟨[B0].toArray⟩ : ByteArray) ++ E) (b := ⟨[B1].toArray⟩); have hz3 := ByteArray.size_append (a := (⟨[B0].toArray⟩ : ByteArray) ++ E ++ ⟨[B1].toArray⟩) (b := ev); (first | omega | (simp only [ByteArray.size_append] at *; omega))
  refine Oy.walk_q ?_ fun x4 => ?_
  · intro w1 hb hd K hK
    obtain rfl : _ = x57 := Eq.symm (hd 18 (by kernel_rfl))
    clear hd
    go_simp
    exact hK _ _ (Below.refl _ _) rfl
  refine Oy.walk_nil rfl (fun w1 hb hd => ?_)
  obtain rfl : _ = x39 := Eq.symm (hd 0 (by kernel_rfl))
  obtain rfl : _ = x40 := Eq.symm (hd 1 (by kernel_rfl))
  obtain rfl : _ = x41 := Eq.symm (hd 2 (by kernel_rfl))
  have h42 : (OneD [B0]) [] x42 w1 := hd 3 (by kernel_rfl)
  obtain rfl : _ = x43 := Eq.symm (hd 4 (by kernel_rfl))
  obtain rfl : _ = x44 := Eq.symm (hd 5 (by kernel_rfl))
  obtain rfl : _ = x45 := Eq.symm (hd 6 (by kernel_rfl))
  obtain rfl : _ = x46 := Eq.symm (hd 7 (by kernel_rfl))
  obtain rfl : _ = x47 := Eq.symm (hd 8 (by kernel_rfl))
  obtain rfl : _ = x48 := Eq.symm (hd 9 (by kernel_rfl))
  obtain rfl : _ = x49 := Eq.symm (hd 10 (by kernel_rfl))
  obtain rfl : _ = x50 := Eq.symm (hd 11 (by kernel_rfl))
  obtain rfl : _ = x51 := Eq.symm (hd 12 (by kernel_rfl))
  have h52 : (OneD [B1]) [] x52 w1 := hd 13 (by kernel_rfl)
  obtain rfl : _ = x53 := Eq.symm (hd 14 (by kernel_rfl))
  obtain rfl : _ = x54 := Eq.symm (hd 15 (by kernel_rfl))
  obtain rfl : _ = x55 := Eq.symm (hd 16 (by kernel_rfl))
  obtain rfl : _ = x56 := Eq.symm (hd 17 (by kernel_rfl))
  obtain rfl : _ = x57 := Eq.symm (hd 18 (by kernel_rfl))
  obtain rfl : _ = x4 := Eq.symm (hd 19 (by kernel_rfl))
  clear hd
  have hb1 : Below w0.heap.size w0 w1 := (Below.refl _ _).drew.trans hb
  have HB1 := Lib.hid hb1
  clear hb hb1
  rw [← HX.out]
  go_simp
  have hX0 : X.size ≤ 100 := by
    rw [Lib.size_eq, HXD.out, List.length_append, List.length_append, leN_len]
    have h1 : (intT m.kd).length = 1 := rfl
    have h2 : (evT m.ev).length = 1 + m.ev.length := by unfold evT; rw [List.length_append]; rfl
    have := HOK1.out; omega
  go_wp2
  go_loopw [4, 5, 6, 7] (fun z4 z5 _ _ wr => ∃ i : Nat, i ≤ 4 ∧ z5 = .int .i64 i ∧ ∃ Y : ByteArray, z4 = .string Y ∧ Y.size ≤ 100 + 100 * i ∧ Hid (Y.data.toList = (intT m.kd ++ (leN 8 m.step ++ evT m.ev)) ++ ([m.tr, m.ss, m.en, m.vs].take i).flatMap listT ∧ ∀ l ∈ [m.tr, m.ss, m.en, m.vs].take i, okL l) ∧ Hid (Below w0.heap.size w0 wr)) (fun _ x _ _ _ => 4 - (intOf x).toNat)
  case atStart => exact ⟨0, by omega, rfl, X, rfl, by omega, Lib.hid ⟨by rw [List.take_zero, List.flatMap_nil, List.append_nil]; exact HXD.out, by simp⟩, HB1⟩
  case round =>
    clear hX0
    obtain ⟨i, hi, rfl, Y, rfl, hYs, HY, HB⟩ := hrel
    obtain ⟨W, hW⟩ : ∃ W, W = wr := ⟨_, rfl⟩
    subst hW
    by_cases hi4 : i < 4
    · have r3 := (HB.out.cell (cell_lt Q3.out)).trans Q3.out
      have r4 := (HB.out.cell (cell_lt Q4.out)).trans Q4.out
      have r5 := (HB.out.cell (cell_lt Q5.out)).trans Q5.out
      have r6 := (HB.out.cell (cell_lt Q6.out)).trans Q6.out
      rcases (show i = 0 ∨ i = 1 ∨ i = 2 ∨ i = 3 by omega) with rfl | rfl | rfl | rfl
      · have HPL := Lib.hid (refPlaces_any w0 W HB.out _ m.tr HMI.out.tr)
        by_cases hok : okL m.tr
        · rw [placesD_ok hok] at HPL
          obtain ⟨S, hS, hSl, hSz⟩ := bstr_eq (listT m.tr)
          have HPL2 : Hid (Calls Try.prog 22 #[.slice A0 m.tr.length c0] W fun e w' => e = .returned (.tuple #[.string S, .bool true]) ∧ Below W.heap.size W w') := Lib.hid (by rw [← hS]; exact HPL.out)
          have hSb : S.size ≤ 49 := by rw [hSz, list_len]; have := hok.1; omega
          have hsz : (Y.size : Int) + (S.size : Int) ≤ 9223372036854775807 := by omega
          have HSL := Lib.hid hSl; have HOK := Lib.hid hok
          have hix := fun a b c d => (idx4 W a b c d).1
          clear HPL hS hSl hSz hok hi hi4
          go_wp2_with fail
          refine HPL2.out.mono ?_
          rintro e w2 ⟨rfl, hb2⟩
          have HB2 := Lib.hid (HB.out.trans (hb2.mono HB.out.size))
          have HY2 : Hid ((Y ++ S).data.toList = (intT m.kd ++ (leN 8 m.step ++ evT m.ev)) ++ ([m.tr, m.ss, m.en, m.vs].take (0 + 1)).flatMap listT ∧ ∀ l ∈ [m.tr, m.ss, m.en, m.vs].take (0 + 1), okL l) := Lib.hid (by
            obtain ⟨h1, h2⟩ := HY.out
            refine ⟨by rw [ByteArray.data_append, Array.toList_append, h1, HSL.out]; simp, fun l hl => ?_⟩
            rcases take_mem (L := [m.tr, m.ss, m.en, m.vs]) (j := 0) (by simp) hl with h3 | h3
            · exact h2 l h3
            · exact (show l = m.tr from h3) ▸ HOK.out)
          have hYz : (Y ++ S).size ≤ 100 + 100 * (0 + 1) := by rw [ByteArray.size_append]; omega
          clear hb2 r3 r4 r5 r6 HPL2
          go_wp2
          go_roundw
          case rel => exact ⟨0 + 1, by omega, by go_num, Y ++ S, rfl, hYz, HY2, HB2⟩
          case measure => simp [intOf]
        · rw [placesD_no hok] at HPL
          have HPL2 : Hid (Calls Try.prog 22 #[.slice A0 m.tr.length c0] W fun e w' => e = .returned (.tuple #[.string ⟨#[]⟩, .bool false]) ∧ Below W.heap.size W w') := Lib.hid HPL.out
          have HNO := Lib.hid (fun h : OkMsg m => hok h.tr)
          have hix := fun a b c d => (idx4 W a b c d).1
          clear HPL hok hi hi4
          go_wp2_with fail
          refine HPL2.out.mono ?_
          rintro e w2 ⟨rfl, hb2⟩
          have HB2 := Lib.hid (HB0.out.trans ((HB.out.trans (hb2.mono HB.out.size)).mono HB0.out.size))
          clear hb2
          have HN := Lib.hid (enc_no (m := m) HNO.out)
          go_wp2
          go_ret2
          rw [HN.out]
          exact ⟨rfl, HB2.out⟩
      · have HPL := Lib.hid (refPlaces_any w0 W HB.out _ m.ss HMI.out.ss)
        by_cases hok : okL m.ss
        · rw [placesD_ok hok] at HPL
          obtain ⟨S, hS, hSl, hSz⟩ := bstr_eq (listT m.ss)
          have HPL2 : Hid (Calls Try.prog 22 #[.slice A1 m.ss.length c1] W fun e w' => e = .returned (.tuple #[.string S, .bool true]) ∧ Below W.heap.size W w') := Lib.hid (by rw [← hS]; exact HPL.out)
          have hSb : S.size ≤ 49 := by rw [hSz, list_len]; have := hok.1; omega
          have hsz : (Y.size : Int) + (S.size : Int) ≤ 9223372036854775807 := by omega
          have HSL := Lib.hid hSl; have HOK := Lib.hid hok
          have hix := fun a b c d => (idx4 W a b c d).2.1
          clear HPL hS hSl hSz hok hi hi4
          go_wp2_with fail
          refine HPL2.out.mono ?_
          rintro e w2 ⟨rfl, hb2⟩
          have HB2 := Lib.hid (HB.out.trans (hb2.mono HB.out.size))
          have HY2 : Hid ((Y ++ S).data.toList = (intT m.kd ++ (leN 8 m.step ++ evT m.ev)) ++ ([m.tr, m.ss, m.en, m.vs].take (1 + 1)).flatMap listT ∧ ∀ l ∈ [m.tr, m.ss, m.en, m.vs].take (1 + 1), okL l) := Lib.hid (by
            obtain ⟨h1, h2⟩ := HY.out
            refine ⟨by rw [ByteArray.data_append, Array.toList_append, h1, HSL.out]; simp, fun l hl => ?_⟩
            rcases take_mem (L := [m.tr, m.ss, m.en, m.vs]) (j := 1) (by simp) hl with h3 | h3
            · exact h2 l h3
            · exact (show l = m.ss from h3) ▸ HOK.out)
          have hYz : (Y ++ S).size ≤ 100 + 100 * (1 + 1) := by rw [ByteArray.size_append]; omega
          clear hb2 r3 r4 r5 r6 HPL2
          go_wp2
          go_roundw
          case rel => exact ⟨1 + 1, by omega, by go_num, Y ++ S, rfl, hYz, HY2, HB2⟩
          case measure => simp [intOf]
        · rw [placesD_no hok] at HPL
          have HPL2 : Hid (Calls Try.prog 22 #[.slice A1 m.ss.length c1] W fun e w' => e = .returned (.tuple #[.string ⟨#[]⟩, .bool false]) ∧ Below W.heap.size W w') := Lib.hid HPL.out
          have HNO := Lib.hid (fun h : OkMsg m => hok h.ss)
          have hix := fun a b c d => (idx4 W a b c d).2.1
          clear HPL hok hi hi4
          go_wp2_with fail
          refine HPL2.out.mono ?_
          rintro e w2 ⟨rfl, hb2⟩
          have HB2 := Lib.hid (HB0.out.trans ((HB.out.trans (hb2.mono HB.out.size)).mono HB0.out.size))
          clear hb2
          have HN := Lib.hid (enc_no (m := m) HNO.out)
          go_wp2
          go_ret2
          rw [HN.out]
          exact ⟨rfl, HB2.out⟩
      · have HPL := Lib.hid (refPlaces_any w0 W HB.out _ m.en HMI.out.en)
        by_cases hok : okL m.en
        · rw [placesD_ok hok] at HPL
          obtain ⟨S, hS, hSl, hSz⟩ := bstr_eq (listT m.en)
          have HPL2 : Hid (Calls Try.prog 22 #[.slice A2 m.en.length c2] W fun e w' => e = .returned (.tuple #[.string S, .bool true]) ∧ Below W.heap.size W w') := Lib.hid (by rw [← hS]; exact HPL.out)
          have hSb : S.size ≤ 49 := by rw [hSz, list_len]; have := hok.1; omega
          have hsz : (Y.size : Int) + (S.size : Int) ≤ 9223372036854775807 := by omega
          have HSL := Lib.hid hSl; have HOK := Lib.hid hok
          have hix := fun a b c d => (idx4 W a b c d).2.2.1
          clear HPL hS hSl hSz hok hi hi4
          go_wp2_with fail
          refine HPL2.out.mono ?_
          rintro e w2 ⟨rfl, hb2⟩
          have HB2 := Lib.hid (HB.out.trans (hb2.mono HB.out.size))
          have HY2 : Hid ((Y ++ S).data.toList = (intT m.kd ++ (leN 8 m.step ++ evT m.ev)) ++ ([m.tr, m.ss, m.en, m.vs].take (2 + 1)).flatMap listT ∧ ∀ l ∈ [m.tr, m.ss, m.en, m.vs].take (2 + 1), okL l) := Lib.hid (by
            obtain ⟨h1, h2⟩ := HY.out
            refine ⟨by rw [ByteArray.data_append, Array.toList_append, h1, HSL.out]; simp, fun l hl => ?_⟩
            rcases take_mem (L := [m.tr, m.ss, m.en, m.vs]) (j := 2) (by simp) hl with h3 | h3
            · exact h2 l h3
            · exact (show l = m.en from h3) ▸ HOK.out)
          have hYz : (Y ++ S).size ≤ 100 + 100 * (2 + 1) := by rw [ByteArray.size_append]; omega
          clear hb2 r3 r4 r5 r6 HPL2
          go_wp2
          go_roundw
          case rel => exact ⟨2 + 1, by omega, by go_num, Y ++ S, rfl, hYz, HY2, HB2⟩
          case measure => simp [intOf]
        · rw [placesD_no hok] at HPL
          have HPL2 : Hid (Calls Try.prog 22 #[.slice A2 m.en.length c2] W fun e w' => e = .returned (.tuple #[.string ⟨#[]⟩, .bool false]) ∧ Below W.heap.size W w') := Lib.hid HPL.out
          have HNO := Lib.hid (fun h : OkMsg m => hok h.en)
          have hix := fun a b c d => (idx4 W a b c d).2.2.1
          clear HPL hok hi hi4
          go_wp2_with fail
          refine HPL2.out.mono ?_
          rintro e w2 ⟨rfl, hb2⟩
          have HB2 := Lib.hid (HB0.out.trans ((HB.out.trans (hb2.mono HB.out.size)).mono HB0.out.size))
          clear hb2
          have HN := Lib.hid (enc_no (m := m) HNO.out)
          go_wp2
          go_ret2
          rw [HN.out]
          exact ⟨rfl, HB2.out⟩
      · have HPL := Lib.hid (refPlaces_any w0 W HB.out _ m.vs HMI.out.vs)
        by_cases hok : okL m.vs
        · rw [placesD_ok hok] at HPL
          obtain ⟨S, hS, hSl, hSz⟩ := bstr_eq (listT m.vs)
          have HPL2 : Hid (Calls Try.prog 22 #[.slice A3 m.vs.length c3] W fun e w' => e = .returned (.tuple #[.string S, .bool true]) ∧ Below W.heap.size W w') := Lib.hid (by rw [← hS]; exact HPL.out)
          have hSb : S.size ≤ 49 := by rw [hSz, list_len]; have := hok.1; omega
          have hsz : (Y.size : Int) + (S.size : Int) ≤ 9223372036854775807 := by omega
          have HSL := Lib.hid hSl; have HOK := Lib.hid hok
          have hix := fun a b c d => (idx4 W a b c d).2.2.2
          clear HPL hS hSl hSz hok hi hi4
          go_wp2_with fail
          refine HPL2.out.mono ?_
          rintro e w2 ⟨rfl, hb2⟩
          have HB2 := Lib.hid (HB.out.trans (hb2.mono HB.out.size))
          have HY2 : Hid ((Y ++ S).data.toList = (intT m.kd ++ (leN 8 m.step ++ evT m.ev)) ++ ([m.tr, m.ss, m.en, m.vs].take (3 + 1)).flatMap listT ∧ ∀ l ∈ [m.tr, m.ss, m.en, m.vs].take (3 + 1), okL l) := Lib.hid (by
            obtain ⟨h1, h2⟩ := HY.out
            refine ⟨by rw [ByteArray.data_append, Array.toList_append, h1, HSL.out]; simp, fun l hl => ?_⟩
            rcases take_mem (L := [m.tr, m.ss, m.en, m.vs]) (j := 3) (by simp) hl with h3 | h3
            · exact h2 l h3
            · exact (show l = m.vs from h3) ▸ HOK.out)
          have hYz : (Y ++ S).size ≤ 100 + 100 * (3 + 1) := by rw [ByteArray.size_append]; omega
          clear hb2 r3 r4 r5 r6 HPL2
          go_wp2
          go_roundw
          case rel => exact ⟨3 + 1, by omega, by go_num, Y ++ S, rfl, hYz, HY2, HB2⟩
          case measure => simp [intOf]
        · rw [placesD_no hok] at HPL
          have HPL2 : Hid (Calls Try.prog 22 #[.slice A3 m.vs.length c3] W fun e w' => e = .returned (.tuple #[.string ⟨#[]⟩, .bool false]) ∧ Below W.heap.size W w') := Lib.hid HPL.out
          have HNO := Lib.hid (fun h : OkMsg m => hok h.vs)
          have hix := fun a b c d => (idx4 W a b c d).2.2.2
          clear HPL hok hi hi4
          go_wp2_with fail
          refine HPL2.out.mono ?_
          rintro e w2 ⟨rfl, hb2⟩
          have HB2 := Lib.hid (HB0.out.trans ((HB.out.trans (hb2.mono HB.out.size)).mono HB0.out.size))
          clear hb2
          have HN := Lib.hid (enc_no (m := m) HNO.out)
          go_wp2
          go_ret2
          rw [HN.out]
          exact ⟨rfl, HB2.out⟩
    · obtain rfl : 4 = i := by omega
      have h44 : ¬ ((4 : Nat) : Int) < 4 := by omega
      obtain ⟨hy1, hy2⟩ := HY.out
      have HOK2 : Hid (okL m.tr ∧ okL m.ss ∧ okL m.en ∧ okL m.vs) := Lib.hid ⟨hy2 _ (by simp), hy2 _ (by simp), hy2 _ (by simp), hy2 _ (by simp)⟩
      have hyd : Y.data.toList = (intT m.kd ++ (leN 8 m.step ++ evT m.ev)) ++ (listT m.tr ++ (listT m.ss ++ (listT m.en ++ listT m.vs))) := by rw [hy1]; simp
      obtain ⟨B2, hB2⟩ : ∃ B : UInt8, B = UInt8.ofNat m.sets.length := ⟨_, rfl⟩
      have hs8 : m.sets.length ≤ 8 := HOK1.out.2.2.1
      have hb2 : (B2.toNat : Int) = (m.sets.length : Int) := by rw [hB2, UInt8.toNat_ofNat']; omega
      have hkc := one_conv W B2
      rw [hb2] at hkc
      have hsz : (Y.size : Int) + ((⟨#[B2]⟩ : ByteArray).size : Int) ≤ 9223372036854775807 := by
        show (Y.size : Int) + ((1 : Nat) : Int) ≤ _; omega
      obtain ⟨PP, hPP⟩ : ∃ PP, PP = (intT m.kd ++ (leN 8 m.step ++ evT m.ev)) ++ (listT m.tr ++ (listT m.ss ++ (listT m.en ++ listT m.vs))) ++ byteT m.sets.length := ⟨_, rfl⟩
      have HY3 : Hid ((Y ++ (⟨#[B2]⟩ : ByteArray)).data.toList = PP) := Lib.hid (by rw [bstr_add Y B2 hyd, hPP, hB2]; rfl)
      have hz3 : (Y ++ (⟨#[B2]⟩ : ByteArray)).size ≤ 1000 := by
        rw [ByteArray.size_append]; show Y.size + 1 ≤ _; omega
      have r7 := (HB.out.cell (cell_lt Q7.out)).trans Q7.out
      have HPP := Lib.hid hPP
      have HBN := Lib.hid (HB.out.trans (((Below.refl W.heap.size W).alloc (Nat.le_refl _) (.cells #[.int .u8 (m.sets.length : Int)] 5)).mono HB.out.size))
      have HRS : Hid (∀ i (h : i < m.sets.length), ∃ b of, A4 = some ⟨b, of, none⟩ ∧ w0.cell? ⟨b, of + i * 4, none⟩ = some (.int .i64 m.sets[i].var) ∧ w0.cell? ⟨b, of + i * 4 + 1, none⟩ = some (.int .i64 m.sets[i].kd) ∧ w0.cell? ⟨b, of + i * 4 + 2, none⟩ = some (.int .i64 m.sets[i].a) ∧ w0.cell? ⟨b, of + i * 4 + 3, none⟩ = some (.int .i64 m.sets[i].b) ∧ okW m.sets[i].a ∧ okW m.sets[i].b) := Lib.hid (by
        obtain ⟨A', c', e', hr⟩ := HMI.out.sets
        obtain ⟨e1, _, _⟩ := Value.slice.inj e'
        subst e1
        exact hr)
      clear hy1 hy2 hyd hB2 hb2 hPP HY hYs hi hi4
      go_wp2
      clear hkc hsz h44 r7
      go_loopw [4, 8, 9] (fun z4 z8 _ wr => ∃ i : Nat, i ≤ m.sets.length ∧ z8 = .int .i64 i ∧ ∃ Y : ByteArray, z4 = .string Y ∧ Y.size ≤ 1000 + 100 * i ∧ Hid (Y.data.toList = PP ++ (m.sets.take i).flatMap setT ∧ ∀ x ∈ m.sets.take i, okSet x) ∧ Hid (Below w0.heap.size w0 wr)) (fun _ x _ _ => m.sets.length - (intOf x).toNat)
      case atStart => exact ⟨0, by omega, rfl, _, rfl, by omega, Lib.hid ⟨by rw [List.take_zero, List.flatMap_nil, List.append_nil]; exact HY3.out, by simp⟩, HBN⟩
      case round =>
        clear hz3
        obtain ⟨i, hi, rfl, Y, rfl, hYs, HY, HB⟩ := hrel
        obtain ⟨W, hW⟩ : ∃ W, W = wr := ⟨_, rfl⟩
        subst hW
        have r7 := (HB.out.cell (cell_lt Q7.out)).trans Q7.out
        by_cases hil : i < m.sets.length
        · obtain ⟨b, of, hA, y0, y1, y2, y3, wa, wb⟩ := HRS.out i hil
          have ht : m.sets.take (i + 1) = m.sets.take i ++ [m.sets[i]] := List.take_succ_eq_append_getElem hil
          have hmem : m.sets[i] ∈ m.sets := List.getElem_mem hil
          have hili : (i : Int) < (m.sets.length : Int) := by omega
          obtain ⟨z, hz⟩ : ∃ z, m.sets[i] = z := ⟨_, rfl⟩
          rw [hz] at y0 y1 y2 y3 wa wb ht hmem
          obtain ⟨z1, z2, z3, z4⟩ := z
          simp only at y0 y1 y2 y3 wa wb
          have x0 := (HB.out.cell (cell_lt y0)).trans y0
          have x1 := (HB.out.cell (cell_lt y1)).trans y1
          have x2 := (HB.out.cell (cell_lt y2)).trans y2
          have x3 := (HB.out.cell (cell_lt y3)).trans y3
          obtain ⟨X, hX⟩ : ∃ X, X = W.heap.size := ⟨_, rfl⟩
          obtain ⟨wA, hwA⟩ : ∃ V, V = W.alloc (.cells #[.int .i64 z1, .int .i64 z2, .int .i64 z3, .int .i64 z4] 66) := ⟨_, rfl⟩
          have hbA : Below W.heap.size W wA := by rw [hwA]; exact (Below.refl _ _).alloc (Nat.le_refl _) _
          have d0 : wA.cell? ⟨X, 0, none⟩ = some (.int .i64 z1) := by rw [hwA, hX]; exact (cell_of_row _ _ 0 _ _ _ (heap_alloc_new W _)).trans rfl
          have d1 : wA.cell? ⟨X, 1, none⟩ = some (.int .i64 z2) := by rw [hwA, hX]; exact (cell_of_row _ _ 1 _ _ _ (heap_alloc_new W _)).trans rfl
          have d2 : wA.cell? ⟨X, 2, none⟩ = some (.int .i64 z3) := by rw [hwA, hX]; exact (cell_of_row _ _ 2 _ _ _ (heap_alloc_new W _)).trans rfl
          have d3 : wA.cell? ⟨X, 3, none⟩ = some (.int .i64 z4) := by rw [hwA, hX]; exact (cell_of_row _ _ 3 _ _ _ (heap_alloc_new W _)).trans rfl
          have HBA := Lib.hid (HB.out.trans (hbA.mono HB.out.size))
          have HXX := Lib.hid hX; have HWA := Lib.hid hwA; have HT := Lib.hid ht; have HME := Lib.hid hmem; have HWW := Lib.hid (⟨wa, wb⟩ : okW z3 ∧ okW z4)
          have HBAE := Lib.hid (HB0.out.trans (HBA.out.mono HB0.out.size))
          subst hA
          clear y0 y1 y2 y3 wa wb ht hmem hz hX hwA hbA
          go_upto_region 16 with fail
          rw [← HWA.out, ← HXX.out]
          clear x0 x1 x2 x3 r7
          by_cases ht0 : z1 < 0
          · have hd0 : decide (z1 < 0) = true := decide_eq_true ht0
            have HN := Lib.hid (enc_no (m := m) (fun h => by have := (h.sets.2 _ HME.out).1.1; simp only at this; omega))
            go_wp2
            go_ret2
            rw [HN.out]
            exact ⟨rfl, HBAE.out⟩
          have hd0 : decide (z1 < 0) = false := decide_eq_false ht0
          by_cases ht1 : 63 < z1
          · have hd1 : decide (63 < z1) = true := decide_eq_true ht1
            have HN := Lib.hid (enc_no (m := m) (fun h => by have := (h.sets.2 _ HME.out).1.2; simp only at this; omega))
            go_wp2
            go_ret2
            rw [HN.out]
            exact ⟨rfl, HBAE.out⟩
          have hd1 : decide (63 < z1) = false := decide_eq_false ht1
          by_cases ht2 : z2 < 1
          · have hd2 : decide (z2 < 1) = true := decide_eq_true ht2
            have HN := Lib.hid (enc_no (m := m) (fun h => by have := (h.sets.2 _ HME.out).2.1.1; simp only at this; omega))
            go_wp2
            go_ret2
            rw [HN.out]
            exact ⟨rfl, HBAE.out⟩
          have hd2 : decide (z2 < 1) = false := decide_eq_false ht2
          by_cases ht3 : 3 < z2
          · have hd3 : decide (3 < z2) = true := decide_eq_true ht3
            have HN := Lib.hid (enc_no (m := m) (fun h => by have := (h.sets.2 _ HME.out).2.1.2; simp only at this; omega))
            go_wp2
            go_ret2
            rw [HN.out]
            exact ⟨rfl, HBAE.out⟩
          have hd3 : decide (3 < z2) = false := decide_eq_false ht3
          go_upto_region 18 with fail
          obtain ⟨C0, hC0⟩ : ∃ B : UInt8, B = UInt8.ofNat z1.toNat := ⟨_, rfl⟩
          obtain ⟨C1, hC1⟩ : ∃ B : UInt8, B = UInt8.ofNat z2.toNat := ⟨_, rfl⟩
          have HC0 := Lib.hid (show (C0.toNat : Int) = z1 by rw [hC0, UInt8.toNat_ofNat']; omega)
          have HC1 := Lib.hid (show (C1.toNat : Int) = z2 by rw [hC1, UInt8.toNat_ofNat']; omega)
          have HU1 : Hid (IntKind.u8.wrap z1 = z1) := Lib.hid (u8_same (by omega) (by omega))
          have HU2 : Hid (IntKind.u8.wrap z2 = z2) := Lib.hid (u8_same (by omega) (by omega))
          have HU3 := Lib.hid (u64_wide z3)
          have HU4 := Lib.hid (u64_wide z4)
          obtain ⟨E3, hE3⟩ : ∃ E : ByteArray, E = ⟨(leN 8 (wideN z3)).toArray⟩ := ⟨_, rfl⟩
          obtain ⟨E4, hE4⟩ : ∃ E : ByteArray, E = ⟨(leN 8 (wideN z4)).toArray⟩ := ⟨_, rfl⟩
          have HS3 : Hid (E3.size = 8) := Lib.hid (by rw [hE3]; exact leN_len 8 _)
          have HS4 : Hid (E4.size = 8) := Lib.hid (by rw [hE4]; exact leN_len 8 _)
          have HE3 := Lib.hid (fun w => refEight_any (wideN z3) (wide_lt z3) w)
          have HE4 := Lib.hid (fun w => refEight_any (wideN z4) (wide_lt z4) w)
          unfold bstr at HE3 HE4
          rw [← hE3] at HE3
          rw [← hE4] at HE4
          obtain ⟨Y2, hY2⟩ : ∃ Z : ByteArray, Z = Y ++ ((⟨[C0, C1].toArray⟩ : ByteArray) ++ E3 ++ E4) := ⟨_, rfl⟩
          have hYd : Y2.data.toList = PP ++ (m.sets.take (i + 1)).flatMap setT := by
            rw [hY2, ByteArray.data_append, Array.toList_append, HY.out.1, ByteArray.data_append, Array.toList_append, ByteArray.data_append, Array.toList_append, hE3, hE4, HT.out, List.flatMap_append, hC0, hC1]
            simp [setT, intT, byteT, wideT]
          have hYo : ∀ x ∈ m.sets.take (i + 1), okSet x := fun x hx => by
            rw [HT.out] at hx
            rcases List.mem_append.1 hx with hx | hx
            · exact HY.out.2 x hx
            · rw [List.mem_singleton.1 hx]
              exact ⟨⟨by show (0 : Int) ≤ z1; omega, by show z1 ≤ ((63 : Nat) : Int); omega⟩, ⟨by show 1 ≤ z2; omega, by show z2 ≤ 3; omega⟩, HWW.out.1, HWW.out.2⟩
          have hYz : Y2.size ≤ 1000 + 100 * (i + 1) := by
            have h1 := HS3.out; have h2 := HS4.out
            rw [hY2, ByteArray.size_append, ByteArray.size_append, ByteArray.size_append]
            show Y.size + (2 + _ + _) ≤ _
            omega
          have HYS := Lib.hid hYs; have HI2 := Lib.hid hil; have HY2 := Lib.hid hY2
          have HREL : Hid (Y2.data.toList = PP ++ (m.sets.take (i + 1)).flatMap setT ∧ ∀ x ∈ m.sets.take (i + 1), okSet x) := Lib.hid ⟨hYd, hYo⟩
          have G0 : Hid (wA.drew.cell? ⟨X, 0, none⟩ = some (.int .i64 z1)) := Lib.hid d0
          have G1 : Hid (wA.drew.cell? ⟨X, 1, none⟩ = some (.int .i64 z2)) := Lib.hid d1
          have G2 : Hid (wA.drew.cell? ⟨X, 2, none⟩ = some (.int .i64 z3)) := Lib.hid d2
          have G3 : Hid (wA.drew.cell? ⟨X, 3, none⟩ = some (.int .i64 z4)) := Lib.hid d3
          clear hC0 hC1 hE3 hE4 hY2 hYd hYo d0 d1 d2 d3 ht0 ht1 ht2 ht3 hd0 hd1 hd2 hd3 hYs
          refine Oy.region_quiet 207 [Oy.eqD (.string Y), Oy.eqD (.pointer (some ⟨X, 0, none⟩)), Oy.eqD (.int .i64 z1), Oy.eqD (.int .u8 z1), Oy.eqD (.pointer (some ⟨X, 1, none⟩)), Oy.eqD (.pointer (some ⟨X, 1, none⟩)), Oy.eqD (.int .i64 z2), Oy.eqD (.int .u8 z2), OneD [C0, C1], Oy.eqD (.string ⟨([C0, C1]).toArray⟩), Oy.eqD (.pointer (some ⟨X, 1, none⟩)), Oy.eqD (.pointer (some ⟨X, 2, none⟩)), Oy.eqD (.int .i64 z3), Oy.eqD (.int .u64 (wideN z3 : Nat)), Oy.eqD (.string E3), Oy.eqD (.string (⟨[C0, C1].toArray⟩ ++ E3)), Oy.eqD (.pointer (some ⟨X, 1, none⟩)), Oy.eqD (.pointer (some ⟨X, 3, none⟩)), Oy.eqD (.int .i64 z4), Oy.eqD (.int .u64 (wideN z4 : Nat)), Oy.eqD (.string E4), Oy.eqD (.string (⟨[C0, C1].toArray⟩ ++ E3 ++ E4)), Oy.eqD (.string (Y ++ (⟨[C0, C1].toArray⟩ ++ E3 ++ E4))), Oy.eqD (.string (Y ++ (⟨[C0, C1].toArray⟩ ++ E3 ++ E4)))] [[], [], [], [], [], [], [], [], [], [], [], [], [], [], [], [], [], [], [], [], [], [], [], []] (by kernel_rfl) rfl (by kernel_rfl) (by kernel_rfl) ⟨Oy.keeps_eq _, Oy.keeps_eq _, Oy.keeps_eq _, Oy.keeps_eq _, Oy.keeps_eq _, Oy.keeps_eq _, Oy.keeps_eq _, Oy.keeps_eq _, keeps_one _, Oy.keeps_eq _, Oy.keeps_eq _, Oy.keeps_eq _, Oy.keeps_eq _, Oy.keeps_eq _, Oy.keeps_eq _, Oy.keeps_eq _, Oy.keeps_eq _, Oy.keeps_eq _, Oy.keeps_eq _, Oy.keeps_eq _, Oy.keeps_eq _, Oy.keeps_eq _, Oy.keeps_eq _, Oy.keeps_eq _, trivial⟩ ?_
          refine Oy.walk_q ?_ fun x122 => ?_
          · intro w1 hb hd K hK
            clear hd
            go_simp
            exact hK _ _ (Below.refl _ _) rfl
          refine Oy.walk_q ?_ fun x123 => ?_
          · intro w1 hb hd K hK
            clear hd
            go_simp
            exact hK _ _ (Below.refl _ _) rfl
          refine Oy.walk_q ?_ fun x124 => ?_
          · intro w1 hb hd K hK
            obtain rfl : _ = x123 := Eq.symm (hd 1 (by kernel_rfl))
            have hc := (hb.cell (cell_lt G0.out)).trans G0.out
            clear hd
            go_simp
            exact hK _ _ (Below.refl _ _) rfl
          refine Oy.walk_q ?_ fun x125 => ?_
          · intro w1 hb hd K hK
            obtain rfl : _ = x124 := Eq.symm (hd 2 (by kernel_rfl))
            clear hd
            go_simp
            rw [HU1.out]
            exact hK _ _ (Below.refl _ _) rfl
          refine Oy.walk_q ?_ fun x126 => ?_
          · intro w1 hb hd K hK
            clear hd
            go_simp
            exact hK _ _ (Below.refl _ _) rfl
          refine Oy.walk_q ?_ fun x127 => ?_
          · intro w1 hb hd K hK
            obtain rfl : _ = x126 := Eq.symm (hd 4 (by kernel_rfl))
            clear hd
            go_simp
            exact hK _ _ (Below.refl _ _) rfl
          refine Oy.walk_q ?_ fun x128 => ?_
          · intro w1 hb hd K hK
            obtain rfl : _ = x127 := Eq.symm (hd 5 (by kernel_rfl))
            have hc := (hb.cell (cell_lt G1.out)).trans G1.out
            clear hd
            go_simp
            exact hK _ _ (Below.refl _ _) rfl
          refine Oy.walk_q ?_ fun x129 => ?_
          · intro w1 hb hd K hK
            obtain rfl : _ = x128 := Eq.symm (hd 6 (by kernel_rfl))
            clear hd
            go_simp
            rw [HU2.out]
            exact hK _ _ (Below.refl _ _) rfl
          refine Oy.walk_q ?_ fun x130 => ?_
          · intro w1 hb hd K hK
            obtain rfl : _ = x125 := Eq.symm (hd 3 (by kernel_rfl))
            obtain rfl : _ = x129 := Eq.symm (hd 7 (by kernel_rfl))
            clear hd
            go_simp
            exact hK _ _ ((Below.refl _ _).alloc (Nat.le_refl _) _) (by have ho := two_new w1 C0 C1 (ps := []); rw [HC0.out, HC1.out] at ho; exact ho)
          refine Oy.walk_q ?_ fun x131 => ?_
          · intro w1 hb hd K hK
            have h130 : (OneD [C0, C1]) [] x130 w1 := hd 8 (by kernel_rfl)
            obtain ⟨g0, rfl, hc0⟩ := h130
            have hkc := one_back w1 g0 _ hc0
            rw [show ([C0, C1]).length = 2 from rfl] at hkc ⊢
            clear hd hc0
            go_simp
            exact hK _ _ (Below.refl _ _) rfl
          refine Oy.walk_q ?_ fun x132 => ?_
          · intro w1 hb hd K hK
            clear hd
            go_simp
            exact hK _ _ (Below.refl _ _) rfl
          refine Oy.walk_q ?_ fun x133 => ?_
          · intro w1 hb hd K hK
            obtain rfl : _ = x132 := Eq.symm (hd 10 (by kernel_rfl))
            clear hd
            go_simp
            exact hK _ _ (Below.refl _ _) rfl
          refine Oy.walk_q ?_ fun x134 => ?_
          · intro w1 hb hd K hK
            obtain rfl : _ = x133 := Eq.symm (hd 11 (by kernel_rfl))
            have hc := (hb.cell (cell_lt G2.out)).trans G2.out
            clear hd
            go_simp
            exact hK _ _ (Below.refl _ _) rfl
          refine Oy.walk_q ?_ fun x135 => ?_
          · intro w1 hb hd K hK
            obtain rfl : _ = x134 := Eq.symm (hd 12 (by kernel_rfl))
            clear hd
            go_simp
            rw [HU3.out]
            exact hK _ _ (Below.refl _ _) rfl
          refine Oy.walk_q ?_ fun x136 => ?_
          · intro w1 hb hd K hK
            obtain rfl : _ = x135 := Eq.symm (hd 13 (by kernel_rfl))
            clear hd
            go_simp
            refine (HE3.out w1).mono ?_
            rintro e w5 ⟨rfl, hb5⟩
            go_simp
            exact hK _ _ hb5 rfl
          refine Oy.walk_q ?_ fun x137 => ?_
          · intro w1 hb hd K hK
            obtain rfl : _ = x131 := Eq.symm (hd 9 (by kernel_rfl))
            obtain rfl : _ = x136 := Eq.symm (hd 14 (by kernel_rfl))
            clear hd
            go_simp
            rw [if_neg]
            · exact hK _ _ (Below.refl _ _) rfl
            · have := HS3.out; have := HS4.out; have := HYS.out; have hi9 := HI2.out; have h8 := HOK1.out.2.2.1; have h4 : (⟨[C0, C1].toArray⟩ : ByteArray).size = 2 := rfl; have hz1 := ByteArray.size_append (a := (⟨[C0, C1].toArray⟩ : ByteArray)) (b := E3); have hz2 := ByteArray.size_append (a := (⟨[C0, C1].toArray⟩ : ByteArray) ++ E3) (b := E4); (first | omega | (simp only [ByteArray.size_append] at *; omega))
          refine Oy.walk_q ?_ fun x138 => ?_
          · intro w1 hb hd K hK
            clear hd
            go_simp
            exact hK _ _ (Below.refl _ _) rfl
          refine Oy.walk_q ?_ fun x139 => ?_
          · intro w1 hb hd K hK
            obtain rfl : _ = x138 := Eq.symm (hd 16 (by kernel_rfl))
            clear hd
            go_simp
            exact hK _ _ (Below.refl _ _) rfl
          refine Oy.walk_q ?_ fun x140 => ?_
          · intro w1 hb hd K hK
            obtain rfl : _ = x139 := Eq.symm (hd 17 (by kernel_rfl))
            have hc := (hb.cell (cell_lt G3.out)).trans G3.out
            clear hd
            go_simp
            exact hK _ _ (Below.refl _ _) rfl
          refine Oy.walk_q ?_ fun x141 => ?_
          · intro w1 hb hd K hK
            obtain rfl : _ = x140 := Eq.symm (hd 18 (by kernel_rfl))
            clear hd
            go_simp
            rw [HU4.out]
            exact hK _ _ (Below.refl _ _) rfl
          refine Oy.walk_q ?_ fun x142 => ?_
          · intro w1 hb hd K hK
            obtain rfl : _ = x141 := Eq.symm (hd 19 (by kernel_rfl))
            clear hd
            go_simp
            refine (HE4.out w1).mono ?_
            rintro e w5 ⟨rfl, hb5⟩
            go_simp
            exact hK _ _ hb5 rfl
          refine Oy.walk_q ?_ fun x143 => ?_
          · intro w1 hb hd K hK
            obtain rfl : _ = x137 := Eq.symm (hd 15 (by kernel_rfl))
            obtain rfl : _ = x142 := Eq.symm (hd 20 (by kernel_rfl))
            clear hd
            go_simp
            rw [if_neg]
            · exact hK _ _ (Below.refl _ _) rfl
            · have := HS3.out; have := HS4.out; have := HYS.out; have hi9 := HI2.out; have h8 := HOK1.out.2.2.1; have h4 : (⟨[C0, C1].toArray⟩ : ByteArray).size = 2 := rfl; have hz1 := ByteArray.size_append (a := (⟨[C0, C1].toArray⟩ : ByteArray)) (b := E3); have hz2 := ByteArray.size_append (a := (⟨[C0, C1].toArray⟩ : ByteArray) ++ E3) (b := E4); (first | omega | (simp only [ByteArray.size_append] at *; omega))
          refine Oy.walk_q ?_ fun x144 => ?_
          · intro w1 hb hd K hK
            obtain rfl : _ = x122 := Eq.symm (hd 0 (by kernel_rfl))
            obtain rfl : _ = x143 := Eq.symm (hd 21 (by kernel_rfl))
            clear hd
            go_simp
            rw [if_neg]
            · exact hK _ _ (Below.refl _ _) rfl
            · have := HS3.out; have := HS4.out; have := HYS.out; have hi9 := HI2.out; have h8 := HOK1.out.2.2.1; have h4 : (⟨[C0, C1].toArray⟩ : ByteArray).size = 2 := rfl; have hz1 := ByteArray.size_append (a := (⟨[C0, C1].toArray⟩ : ByteArray)) (b := E3); have hz2 := ByteArray.size_append (a := (⟨[C0, C1].toArray⟩ : ByteArray) ++ E3) (b := E4); (first | omega | (simp only [ByteArray.size_append] at *; omega))
          refine Oy.walk_q ?_ fun x4 => ?_
          · intro w1 hb hd K hK
            obtain rfl : _ = x144 := Eq.symm (hd 22 (by kernel_rfl))
            clear hd
            go_simp
            exact hK _ _ (Below.refl _ _) rfl
          refine Oy.walk_nil rfl (fun w1 hb hd => ?_)
          obtain rfl : _ = x122 := Eq.symm (hd 0 (by kernel_rfl))
          obtain rfl : _ = x123 := Eq.symm (hd 1 (by kernel_rfl))
          obtain rfl : _ = x124 := Eq.symm (hd 2 (by kernel_rfl))
          obtain rfl : _ = x125 := Eq.symm (hd 3 (by kernel_rfl))
          obtain rfl : _ = x126 := Eq.symm (hd 4 (by kernel_rfl))
          obtain rfl : _ = x127 := Eq.symm (hd 5 (by kernel_rfl))
          obtain rfl : _ = x128 := Eq.symm (hd 6 (by kernel_rfl))
          obtain rfl : _ = x129 := Eq.symm (hd 7 (by kernel_rfl))
          have h130 : (OneD [C0, C1]) [] x130 w1 := hd 8 (by kernel_rfl)
          obtain rfl : _ = x131 := Eq.symm (hd 9 (by kernel_rfl))
          obtain rfl : _ = x132 := Eq.symm (hd 10 (by kernel_rfl))
          obtain rfl : _ = x133 := Eq.symm (hd 11 (by kernel_rfl))
          obtain rfl : _ = x134 := Eq.symm (hd 12 (by kernel_rfl))
          obtain rfl : _ = x135 := Eq.symm (hd 13 (by kernel_rfl))
          obtain rfl : _ = x136 := Eq.symm (hd 14 (by kernel_rfl))
          obtain rfl : _ = x137 := Eq.symm (hd 15 (by kernel_rfl))
          obtain rfl : _ = x138 := Eq.symm (hd 16 (by kernel_rfl))
          obtain rfl : _ = x139 := Eq.symm (hd 17 (by kernel_rfl))
          obtain rfl : _ = x140 := Eq.symm (hd 18 (by kernel_rfl))
          obtain rfl : _ = x141 := Eq.symm (hd 19 (by kernel_rfl))
          obtain rfl : _ = x142 := Eq.symm (hd 20 (by kernel_rfl))
          obtain rfl : _ = x143 := Eq.symm (hd 21 (by kernel_rfl))
          obtain rfl : _ = x144 := Eq.symm (hd 22 (by kernel_rfl))
          obtain rfl : _ = x4 := Eq.symm (hd 23 (by kernel_rfl))
          clear hd
          have hb1 : Below wA.heap.size wA w1 := (Below.refl _ _).drew.trans hb
          have HB9 := Lib.hid (HBA.out.trans (hb1.mono HBA.out.size))
          clear hb hb1
          rw [← HY2.out]
          go_simp
          go_wp2
          go_roundw
          case rel => exact ⟨i + 1, by omega, by go_num, Y2, rfl, hYz, HREL, HB9⟩
          case measure => simp [intOf]; omega
        · obtain rfl : m.sets.length = i := by omega
          have h44 : ¬ (m.sets.length : Int) < (m.sets.length : Int) := by omega
          rw [List.take_length] at HY
          obtain ⟨hy1, hy2⟩ := HY.out
          have HOK3 : Hid (∀ x ∈ m.sets, okSet x) := Lib.hid hy2
          obtain ⟨B3, hB3⟩ : ∃ B : UInt8, B = UInt8.ofNat m.pasts.length := ⟨_, rfl⟩
          have hp40 : m.pasts.length ≤ 40 := HOK1.out.2.2.2
          have hb3 : (B3.toNat : Int) = (m.pasts.length : Int) := by rw [hB3, UInt8.toNat_ofNat']; omega
          have hkc := one_conv W B3
          rw [hb3] at hkc
          have hY8 : Y.size ≤ 2000 := by have := HOK1.out.2.2.1; omega
          have hsz : (Y.size : Int) + ((⟨#[B3]⟩ : ByteArray).size : Int) ≤ 9223372036854775807 := by
            show (Y.size : Int) + ((1 : Nat) : Int) ≤ _; omega
          obtain ⟨PQ, hPQ⟩ : ∃ PQ, PQ = PP ++ m.sets.flatMap setT ++ byteT m.pasts.length := ⟨_, rfl⟩
          have HY3 : Hid ((Y ++ (⟨#[B3]⟩ : ByteArray)).data.toList = PQ) := Lib.hid (by rw [bstr_add Y B3 hy1, hPQ, hB3]; rfl)
          have hz3 : (Y ++ (⟨#[B3]⟩ : ByteArray)).size ≤ 3000 := by
            rw [ByteArray.size_append]; show Y.size + 1 ≤ _; omega
          have r8 := (HB.out.cell (cell_lt Q8.out)).trans Q8.out
          have HPQ := Lib.hid hPQ
          have HBN := Lib.hid (HB.out.trans (((Below.refl W.heap.size W).alloc (Nat.le_refl _) (.cells #[.int .u8 (m.pasts.length : Int)] 5)).mono HB.out.size))
          have HRP : Hid (∀ i (h : i < m.pasts.length), ∃ b of u, A5 = some ⟨b, of, none⟩ ∧ w0.cell? ⟨b, of + i * 2, none⟩ = some (.int .i64 m.pasts[i].st) ∧ w0.cell? ⟨b, of + i * 2 + 1, none⟩ = some u ∧ RdL w0 u m.pasts[i].set ∧ m.pasts[i].set.length ≤ 4611686018427387904) := Lib.hid (by
            obtain ⟨A', c', e', hr⟩ := HMI.out.pasts
            obtain ⟨e1, _, _⟩ := Value.slice.inj e'
            subst e1
            exact hr)
          clear hy1 hy2 hB3 hb3 hPQ HY hYs hi hil hY8
          go_wp2
          clear hkc hsz h44 r7 r8
          go_loopw [4, 10, 11, 12] (fun z4 z8 _ _ wr => ∃ i : Nat, i ≤ m.pasts.length ∧ z8 = .int .i64 i ∧ ∃ Y : ByteArray, z4 = .string Y ∧ Y.size ≤ 3000 + 100 * i ∧ Hid (Y.data.toList = PQ ++ (m.pasts.take i).flatMap pastT ∧ ∀ x ∈ m.pasts.take i, okPast x) ∧ Hid (Below w0.heap.size w0 wr)) (fun _ x _ _ _ => m.pasts.length - (intOf x).toNat)
          case atStart => exact ⟨0, by omega, rfl, _, rfl, by omega, Lib.hid ⟨by rw [List.take_zero, List.flatMap_nil, List.append_nil]; exact HY3.out, by simp⟩, HBN⟩
          case round =>
            clear hz3
            obtain ⟨i, hi, rfl, Y, rfl, hYs, HY, HB⟩ := hrel
            obtain ⟨W, hW⟩ : ∃ W, W = wr := ⟨_, rfl⟩
            subst hW
            have r8 := (HB.out.cell (cell_lt Q8.out)).trans Q8.out
            by_cases hil : i < m.pasts.length
            · obtain ⟨b, of, u, hA, y0, y1, hu, hul⟩ := HRP.out i hil
              have ht : m.pasts.take (i + 1) = m.pasts.take i ++ [m.pasts[i]] := List.take_succ_eq_append_getElem hil
              have hmem : m.pasts[i] ∈ m.pasts := List.getElem_mem hil
              have hili : (i : Int) < (m.pasts.length : Int) := by omega
              obtain ⟨z, hz⟩ : ∃ z, m.pasts[i] = z := ⟨_, rfl⟩
              rw [hz] at y0 hu ht hmem hul
              obtain ⟨zs, zl⟩ := z
              simp only at y0 hu hul
              have x0 := (HB.out.cell (cell_lt y0)).trans y0
              have x1 := (HB.out.cell (cell_lt y1)).trans y1
              have HPL := Lib.hid (refPlaces_any w0 W HB.out u zl hu)
              have HT := Lib.hid ht; have HME := Lib.hid hmem
              subst hA
              by_cases hok : okL zl
              rotate_left
              · rw [placesD_no hok] at HPL
                have HPL2 : Hid (Calls Try.prog 22 #[u] W fun e w' => e = .returned (.tuple #[.string ⟨#[]⟩, .bool false]) ∧ Below W.heap.size W w') := Lib.hid HPL.out
                have HNO := Lib.hid (fun h : OkMsg m => hok (h.pasts.2 _ HME.out).2)
                clear HPL hok hi y0 y1 hu hz ht hmem
                go_wp2_with fail
                refine HPL2.out.mono ?_
                rintro e w2 ⟨rfl, hb2⟩
                have HB2 := Lib.hid (HB0.out.trans ((HB.out.trans (hb2.mono HB.out.size)).mono HB0.out.size))
                clear hb2
                have HN := Lib.hid (enc_no (m := m) HNO.out)
                go_wp2
                go_ret2
                rw [HN.out]
                exact ⟨rfl, HB2.out⟩
              rw [placesD_ok hok] at HPL
              obtain ⟨S, hS, hSl, hSz⟩ := bstr_eq (listT zl)
              have HPL2 : Hid (Calls Try.prog 22 #[u] W fun e w' => e = .returned (.tuple #[.string S, .bool true]) ∧ Below W.heap.size W w') := Lib.hid (by rw [← hS]; exact HPL.out)
              have hSb : S.size ≤ 49 := by rw [hSz, list_len]; have := hok.1; omega
              have HSL := Lib.hid hSl; have HOK := Lib.hid hok
              clear HPL hS hSl hSz hok hi hz ht hmem hu
              go_wp2_with fail
              refine HPL2.out.mono ?_
              rintro e w2 ⟨rfl, hb2⟩
              have hbw := HB.out.trans (hb2.mono HB.out.size)
              have s0 := (hbw.cell (cell_lt y0)).trans y0
              have s8 := (hbw.cell (cell_lt Q8.out)).trans Q8.out
              have HB2 := Lib.hid hbw
              have HBE := Lib.hid (HB0.out.trans (hbw.mono HB0.out.size))
              clear hb2 hbw x0 x1 y0 y1 r8 HPL2
              by_cases ht0 : zs < 0
              · have hd0 : decide (zs < 0) = true := decide_eq_true ht0
                have HN := Lib.hid (enc_no (m := m) (fun h => by have := (h.pasts.2 _ HME.out).1.1; simp only at this; omega))
                go_wp2
                go_ret2
                rw [HN.out]
                exact ⟨rfl, HBE.out⟩
              have hd0 : decide (zs < 0) = false := decide_eq_false ht0
              by_cases ht1 : 63 < zs
              · have hd1 : decide (63 < zs) = true := decide_eq_true ht1
                have HN := Lib.hid (enc_no (m := m) (fun h => by have := (h.pasts.2 _ HME.out).1.2; simp only at this; omega))
                go_wp2
                go_ret2
                rw [HN.out]
                exact ⟨rfl, HBE.out⟩
              have hd1 : decide (63 < zs) = false := decide_eq_false ht1
              obtain ⟨B, hB⟩ : ∃ B : UInt8, B = UInt8.ofNat zs.toNat := ⟨_, rfl⟩
              have hmod2 : (B.toNat : Int) = zs := by rw [hB, UInt8.toNat_ofNat']; omega
              have hkc := one_conv w2 B
              rw [hmod2] at hkc
              have hwr : IntKind.u8.wrap zs = zs := u8_same (by omega) (by omega)
              have hsz1 : ((⟨#[B]⟩ : ByteArray).size : Int) + (S.size : Int) ≤ 9223372036854775807 := by
                show ((1 : Nat) : Int) + _ ≤ _; omega
              have hsz2 : (Y.size : Int) + (((⟨#[B]⟩ : ByteArray) ++ S).size : Int) ≤ 9223372036854775807 := by
                rw [ByteArray.size_append]; show (Y.size : Int) + ((1 + S.size : Nat) : Int) ≤ _; omega
              have hsz3 : (Y.size : Int) + (((⟨#[B]⟩ : ByteArray).size : Int) + (S.size : Int)) ≤ 9223372036854775807 := by
                show (Y.size : Int) + (((1 : Nat) : Int) + _) ≤ _; omega
              have hYz : (Y ++ ((⟨#[B]⟩ : ByteArray) ++ S)).size ≤ 3000 + 100 * (i + 1) := by
                rw [ByteArray.size_append, ByteArray.size_append]; show Y.size + (1 + _) ≤ _; omega
              have HREL : Hid ((Y ++ ((⟨#[B]⟩ : ByteArray) ++ S)).data.toList = PQ ++ (m.pasts.take (i + 1)).flatMap pastT ∧ ∀ x ∈ m.pasts.take (i + 1), okPast x) := Lib.hid (by
                refine ⟨?_, fun x hx => ?_⟩
                · rw [ByteArray.data_append, Array.toList_append, HY.out.1, ByteArray.data_append, Array.toList_append, HSL.out, HT.out, List.flatMap_append, hB]
                  simp [pastT, intT, byteT]
                · rw [HT.out] at hx
                  rcases List.mem_append.1 hx with hx | hx
                  · exact HY.out.2 x hx
                  · rw [List.mem_singleton.1 hx]
                    exact ⟨⟨by show (0 : Int) ≤ zs; omega, by show zs ≤ ((63 : Nat) : Int); omega⟩, HOK.out⟩)
              have HB9 := Lib.hid (HB2.out.trans (((Below.refl w2.heap.size w2).alloc (Nat.le_refl _) (.cells #[.int .u8 zs] 5)).mono HB2.out.size))
              clear hB hmod2 hYs
              go_wp2
              go_roundw
              case rel => exact ⟨i + 1, by omega, by go_num, _, rfl, hYz, HREL, HB9⟩
              case measure => simp [intOf]; omega
            · obtain rfl : m.pasts.length = i := by omega
              have h44 : ¬ (m.pasts.length : Int) < (m.pasts.length : Int) := by omega
              rw [List.take_length] at HY
              obtain ⟨hy1, hy2⟩ := HY.out
              have hOK : OkMsg m := ⟨HOK1.out.1, HMI.out.step, HOK1.out.2.1, HOK2.out.1, HOK2.out.2.1, HOK2.out.2.2.1, HOK2.out.2.2.2, ⟨HOK1.out.2.2.1, HOK3.out⟩, ⟨HOK1.out.2.2.2, hy2⟩⟩
              have hyd : Y.data.toList = msgT m := by rw [hy1, HPQ.out, HPP.out]; simp [msgT, someT]
              have hyl : Y.size = (msgT m).length := by rw [Lib.size_eq, hyd]
              have HS := Lib.hid (str_bstr hyd)
              have HBE := Lib.hid (HB0.out.trans (HB.out.mono HB0.out.size))
              by_cases h8 : 800 < Y.size
              · have h9 : (800 : Int) < Y.size := by omega
                have HN := Lib.hid (enc_long hOK (by rw [← hyl]; exact h8))
                clear hy1 hy2 hOK hyd hyl HY hYs hi
                go_wp2
                go_ret2
                rw [HN.out]
                exact ⟨rfl, HBE.out⟩
              · have h9 : ¬ (800 : Int) < Y.size := by omega
                have HN := Lib.hid (enc_yes hOK (by rw [← hyl]; exact h8))
                clear hy1 hy2 hOK hyd hyl HY hYs hi
                go_wp2
                go_ret2
                rw [HN.out, HS.out]
                exact ⟨rfl, HBE.out⟩
end Go.Proofs.Ytlbhkendbngmaaa.Wi
