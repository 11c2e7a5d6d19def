/- Layer 16: the document's reader: a message. -/
import Derived.Test.YtlbhkendbngmaaaK4
import Derived.Deep.CutBlock
namespace Go.Proofs.Ytlbhkendbngmaaa.Wi
open Go.RowKit
set_option maxRecDepth 100000

set_option maxHeartbeats 8000000 in
theorem refDecode_any (s : ByteArray) (w : World) :
    Calls Try.prog 15 #[.string s] w fun e w' => (∃ v, e = .returned (.tuple #[v, .int .i64 (decodeM s.data.toList).2]) ∧ MsgO w.heap.size w' (decodeM s.data.toList).1 v) ∧ Below w.heap.size w w' := by
  have hl : s.data.toList.length = s.size := (Lib.size_eq s).symm
  have HL := Lib.hid hl
  clear hl
  obtain ⟨K, hK⟩ : ∃ K, K = w.heap.size := ⟨_, rfl⟩
  have HK := Lib.hid hK
  by_cases h8 : 800 < s.size
  · have h9 : (800 : Int) < s.size := by omega
    have hd : decodeM s.data.toList = (noMsg, 4) := by unfold decodeM; rw [if_pos (by rw [HL.out]; exact h8)]
    have HD := Lib.hid hd
    obtain ⟨w1, hw1⟩ : ∃ W, W = w.alloc (.cells #[.int .i64 0, .int .u64 0, .string ⟨#[]⟩, .slice none 0 0, .slice none 0 0, .slice none 0 0, .slice none 0 0, .slice none 0 0, .slice none 0 0] 27) := ⟨_, rfl⟩
    have hb : Below w.heap.size w w1 := by rw [hw1]; exact (Below.refl _ _).alloc (Nat.le_refl _) _
    have hr : w1.heap[K]? = some (.cells #[.int .i64 0, .int .u64 0, .string ⟨#[]⟩, .slice none 0 0, .slice none 0 0, .slice none 0 0, .slice none 0 0, .slice none 0 0, .slice none 0 0] 27 (0, 0)) := by rw [hw1, hK]; exact heap_alloc_new w _
    have HR := Lib.hid hr; have HW1 := Lib.hid hw1; have HB := Lib.hid hb
    clear hr hw1 hb hK hd
    go_enter Try.func15, Try.ntmps15
    go_upto_region 2 with fail
    rw [← HW1.out, ← HK.out]
    have e0 : w1.cell? ⟨K, 0, none⟩ = some (.int .i64 0) := (cell_of_row w1 K 0 _ _ _ HR.out).trans rfl
    have k0 : w1.frozen? ⟨K, 0, none⟩ = false := frozen_of_row w1 K 0 _ _ HR.out
    have e1 : w1.cell? ⟨K, 1, none⟩ = some (.int .u64 0) := (cell_of_row w1 K 1 _ _ _ HR.out).trans rfl
    have k1 : w1.frozen? ⟨K, 1, none⟩ = false := frozen_of_row w1 K 1 _ _ HR.out
    have e2 : w1.cell? ⟨K, 2, none⟩ = some (.string ⟨#[]⟩) := (cell_of_row w1 K 2 _ _ _ HR.out).trans rfl
    have k2 : w1.frozen? ⟨K, 2, none⟩ = false := frozen_of_row w1 K 2 _ _ HR.out
    have e3 : w1.cell? ⟨K, 3, none⟩ = some (.slice none 0 0) := (cell_of_row w1 K 3 _ _ _ HR.out).trans rfl
    have k3 : w1.frozen? ⟨K, 3, none⟩ = false := frozen_of_row w1 K 3 _ _ HR.out
    have e4 : w1.cell? ⟨K, 4, none⟩ = some (.slice none 0 0) := (cell_of_row w1 K 4 _ _ _ HR.out).trans rfl
    have k4 : w1.frozen? ⟨K, 4, none⟩ = false := frozen_of_row w1 K 4 _ _ HR.out
    have e5 : w1.cell? ⟨K, 5, none⟩ = some (.slice none 0 0) := (cell_of_row w1 K 5 _ _ _ HR.out).trans rfl
    have k5 : w1.frozen? ⟨K, 5, none⟩ = false := frozen_of_row w1 K 5 _ _ HR.out
    have e6 : w1.cell? ⟨K, 6, none⟩ = some (.slice none 0 0) := (cell_of_row w1 K 6 _ _ _ HR.out).trans rfl
    have k6 : w1.frozen? ⟨K, 6, none⟩ = false := frozen_of_row w1 K 6 _ _ HR.out
    have e7 : w1.cell? ⟨K, 7, none⟩ = some (.slice none 0 0) := (cell_of_row w1 K 7 _ _ _ HR.out).trans rfl
    have k7 : w1.frozen? ⟨K, 7, none⟩ = false := frozen_of_row w1 K 7 _ _ HR.out
    have e8 : w1.cell? ⟨K, 8, none⟩ = some (.slice none 0 0) := (cell_of_row w1 K 8 _ _ _ HR.out).trans rfl
    have k8 : w1.frozen? ⟨K, 8, none⟩ = false := frozen_of_row w1 K 8 _ _ HR.out
    have hf := put9_row HR.out (.int .i64 0) (.int .u64 0) (.string ⟨#[]⟩) (.slice none 0 0) (.slice none 0 0) (.slice none 0 0) (.slice none 0 0) (.slice none 0 0) (.slice none 0 0)
    have hgf := put9_grown w1 K (.int .i64 0) (.int .u64 0) (.string ⟨#[]⟩) (.slice none 0 0) (.slice none 0 0) (.slice none 0 0) (.slice none 0 0) (.slice none 0 0) (.slice none 0 0)
    obtain ⟨WF, hWF⟩ : ∃ W, W = put9 w1 K (.int .i64 0) (.int .u64 0) (.string ⟨#[]⟩) (.slice none 0 0) (.slice none 0 0) (.slice none 0 0) (.slice none 0 0) (.slice none 0 0) (.slice none 0 0) := ⟨_, rfl⟩
    rw [← hWF] at hf hgf
    unfold put9 at hWF
    have HF := Lib.hid hf; have HGF := Lib.hid hgf; have HWF := Lib.hid hWF
    clear hf hgf hWF
    go_wp2
    rw [← HWF.out]
    have q0 : WF.cell? ⟨K, 0, none⟩ = some (.int .i64 0) := (cell_of_row WF K 0 _ _ _ HF.out).trans rfl
    have q1 : WF.cell? ⟨K, 1, none⟩ = some (.int .u64 0) := (cell_of_row WF K 1 _ _ _ HF.out).trans rfl
    have q2 : WF.cell? ⟨K, 2, none⟩ = some (.string ⟨#[]⟩) := (cell_of_row WF K 2 _ _ _ HF.out).trans rfl
    have q3 : WF.cell? ⟨K, 3, none⟩ = some (.slice none 0 0) := (cell_of_row WF K 3 _ _ _ HF.out).trans rfl
    have q4 : WF.cell? ⟨K, 4, none⟩ = some (.slice none 0 0) := (cell_of_row WF K 4 _ _ _ HF.out).trans rfl
    have q5 : WF.cell? ⟨K, 5, none⟩ = some (.slice none 0 0) := (cell_of_row WF K 5 _ _ _ HF.out).trans rfl
    have q6 : WF.cell? ⟨K, 6, none⟩ = some (.slice none 0 0) := (cell_of_row WF K 6 _ _ _ HF.out).trans rfl
    have q7 : WF.cell? ⟨K, 7, none⟩ = some (.slice none 0 0) := (cell_of_row WF K 7 _ _ _ HF.out).trans rfl
    have q8 : WF.cell? ⟨K, 8, none⟩ = some (.slice none 0 0) := (cell_of_row WF K 8 _ _ _ HF.out).trans rfl
    refine bodyPost_ret (v := .tuple #[.agg z9, .int .i64 4]) (by unfold results; rw [Try.results15]; simp [z9, go_sem, q0, q1, q2, q3, q4, q5, q6, q7, q8]) rfl ?_
    rw [HD.out]
    exact ⟨⟨.agg z9, rfl, no_msg _ _⟩, low_grown HB.out HGF.out (Nat.le_of_eq HK.out.symm) (by have := (HB.out).size; omega)⟩
  have h9 : ¬ (800 : Int) < s.size := by omega
  have h80 : ¬ 800 < s.data.toList.length := by rw [HL.out]; exact h8
  have H80 := Lib.hid h80
  obtain ⟨w1, hw1⟩ : ∃ W, W = (w.alloc (.cells #[.int .i64 0, .int .u64 0, .string ⟨#[]⟩, .slice none 0 0, .slice none 0 0, .slice none 0 0, .slice none 0 0, .slice none 0 0, .slice none 0 0] 27)).alloc (.cells #[.string s, .bool false] 76) := ⟨_, rfl⟩
  have hbs : bstr s.data.toList = .string s := rfl
  have hz0 : (w.alloc (.cells #[.int .i64 0, .int .u64 0, .string ⟨#[]⟩, .slice none 0 0, .slice none 0 0, .slice none 0 0, .slice none 0 0, .slice none 0 0, .slice none 0 0] 27)).heap.size = K + 1 := by rw [hK]; simp
  have hb0 : Below w.heap.size w (w.alloc (.cells #[.int .i64 0, .int .u64 0, .string ⟨#[]⟩, .slice none 0 0, .slice none 0 0, .slice none 0 0, .slice none 0 0, .slice none 0 0, .slice none 0 0] 27)) := (Below.refl _ _).alloc (Nat.le_refl _) _
  have hb1 : Below (K + 1) (w.alloc (.cells #[.int .i64 0, .int .u64 0, .string ⟨#[]⟩, .slice none 0 0, .slice none 0 0, .slice none 0 0, .slice none 0 0, .slice none 0 0, .slice none 0 0] 27)) w1 := by rw [hw1, ← hz0]; exact (Below.refl _ _).alloc (Nat.le_refl _) _
  have hb : Below w.heap.size w w1 := hb0.trans (hb1.mono (by omega))
  have hr : w1.heap[K]? = some (.cells #[.int .i64 0, .int .u64 0, .string ⟨#[]⟩, .slice none 0 0, .slice none 0 0, .slice none 0 0, .slice none 0 0, .slice none 0 0, .slice none 0 0] 27 (0, 0)) := (hb1.block K (by omega)).trans (by rw [hK]; exact heap_alloc_new w _)
  have hg : R2 (K + 1) s.data.toList false w1 := by unfold R2; rw [hw1, ← hz0, hbs]; exact heap_alloc_new _ _
  have hz1 : w1.heap.size = K + 2 := by rw [hw1]; simp [hK]
  obtain ⟨g, hgK⟩ : ∃ g, g = K + 1 := ⟨_, rfl⟩
  rw [← hgK] at hg
  have HGK := Lib.hid hgK
  have HC1 := Lib.hid (small_2 hg 9)
  have HR1 := Lib.hid hr; have HW1 := Lib.hid hw1; have HB := Lib.hid hb; have HZ1 := Lib.hid hz1
  clear hr hw1 hb hz0 hb0 hb1 hg hbs hK hz1 h80 hgK
  unfold wp_ at HC1
  go_enter Try.func15, Try.ntmps15
  go_upto_region 4 with fail
  rw [← HW1.out, ← HK.out, ← HGK.out]
  go_wp2_with fail
  refine HC1.out.mono ?_
  rintro e u1 ⟨x1, v, s1, b1, rfl, ⟨rfl, hx10, hx19⟩, hr, hl, hg, hst⟩
  obtain ⟨M, hM⟩ : ∃ M, M = u1.heap.size := ⟨_, rfl⟩
  have hrx : Rx w1 _ g _ 27 #[.int .i64 x1, .int .u64 0, .string ⟨#[]⟩, .slice none 0 0, .slice none 0 0, .slice none 0 0, .slice none 0 0, .slice none 0 0, .slice none 0 0] s1 b1 := Rx.start hg hr _ _
  obtain ⟨w2, hw2⟩ : ∃ W, W = u1.alloc (.cells #[.int .i64 x1, .int .u64 0, .string ⟨#[]⟩, .slice none 0 0, .slice none 0 0, .slice none 0 0, .slice none 0 0, .slice none 0 0, .slice none 0 0] 27) := ⟨_, rfl⟩
  rw [← hw2, ← hM] at hrx
  have HM := Lib.hid hM; have HW2 := Lib.hid hw2; have HS1 := Lib.hid hrx; have HT1 := Lib.hid hst; have HX1 := Lib.hid hx10
  have HC2 := Lib.hid (take_2 hrx.rb 8)
  clear hM hw2 hrx hr hl hg hst HC1 hx10 hx19
  unfold wp_ at HC2
  go_upto_region 5 with fail
  rw [← HW2.out, ← HM.out]
  go_wp2_with fail
  refine HC2.out.mono ?_
  rintro e u2 ⟨x2, v, s2, b2, rfl, ⟨rfl, hx2⟩, hr, hl, hg, hst⟩
  obtain ⟨S2, hS, hSl, hSz⟩ := bstr_eq x2
  rw [hS]
  have HN2 := Lib.hid (refNumber_any S2 u2 (by omega))
  rw [hSl] at HN2
  have hs1 := HS1.out.call hg hr
  have f0 := hs1.frozen 1
  have c0 : u2.cell? ⟨M, 1, none⟩ = some (.int .u64 0) := hs1.cell rfl
  have hs2 : Rx w1 (u2.setCell ⟨M, 1, none⟩ (.int .u64 (wordL x2 : Nat))) g M 27 #[.int .i64 x1, .int .u64 (wordL x2 : Nat), .string ⟨#[]⟩, .slice none 0 0, .slice none 0 0, .slice none 0 0, .slice none 0 0, .slice none 0 0, .slice none 0 0] s2 b2 := hs1.set 1 (.int .u64 (wordL x2 : Nat))
  obtain ⟨w3, hw⟩ : ∃ W, W = u2.setCell ⟨M, 1, none⟩ (.int .u64 (wordL x2 : Nat)) := ⟨_, rfl⟩
  rw [← hw] at hs2
  have HW3 := Lib.hid hw; have HS2 := Lib.hid hs2; have HT2 := Lib.hid (step_num hst); have HX2 := Lib.hid (word_lt64 hx2)
  have HC3 := Lib.hid (small_2 hs2.rb 20)
  clear hs1 hs2 hw hr hl hg hst HC2 hS hSl hSz hx2 HS1
  unfold wp_ at HC3
  go_wp2_with fail
  refine HN2.out.mono ?_
  rintro e u ⟨rfl, rfl⟩
  go_upto_region 6 with fail
  rw [← HW3.out]
  clear c0 f0
  go_wp2_with fail
  refine HC3.out.mono ?_
  rintro e u3 ⟨x0, v, s0, b0, rfl, ⟨rfl, hx0, hx20⟩, hr, hl, hg, hst⟩
  obtain ⟨n0, rfl⟩ := Int.eq_ofNat_of_zero_le hx0
  have HS3 := Lib.hid (HS2.out.call hg hr); have HT0 := Lib.hid hst
  have HC4 := Lib.hid (take_2 hr n0)
  clear hr hl hg hst hx0 hx20 HC3 HS2
  unfold wp_ at HC4
  go_wp2_with fail
  refine HC4.out.mono ?_
  rintro e u4 ⟨x3, v, s3, b3, rfl, ⟨rfl, _⟩, hr, hl, hg, hst⟩
  obtain ⟨S3, hS, hSl, hSz⟩ := bstr_eq x3
  rw [hS]
  have hs1 := HS3.out.call hg hr
  have f0 := hs1.frozen 2
  have c0 : u4.cell? ⟨M, 2, none⟩ = some (.string ⟨#[]⟩) := hs1.cell rfl
  have hs2 : Rx w1 (u4.setCell ⟨M, 2, none⟩ (.string S3)) g M 27 #[.int .i64 x1, .int .u64 (wordL x2 : Nat), .string S3, .slice none 0 0, .slice none 0 0, .slice none 0 0, .slice none 0 0, .slice none 0 0, .slice none 0 0] s3 b3 := hs1.set 2 (.string S3)
  obtain ⟨w4, hw⟩ : ∃ W, W = u4.setCell ⟨M, 2, none⟩ (.string S3) := ⟨_, rfl⟩
  rw [← hw] at hs2
  have HW4 := Lib.hid hw; have HS4 := Lib.hid hs2; have HT3 := Lib.hid (step_ev HT0.out hst); have HSS := Lib.hid hS
  have HC5 := Lib.hid (places_2 hs2.rb)
  clear hs1 hs2 hw hr hl hg hst HC4 hS hSl hSz HT0 HS3
  unfold wp_ at HC5
  go_upto_region 7 with fail
  rw [← HW4.out]
  clear c0 f0
  go_wp2_with fail
  refine HC5.out.mono ?_
  rintro e u5 ⟨x4, v, s4, b4, rfl, hv, hr, hl, hg, hst⟩
  obtain ⟨A4, c4, rfl⟩ := own_form hv
  have hs1 := HS4.out.call hg hr
  have f0 := hs1.frozen 3
  have c0 : u5.cell? ⟨M, 3, none⟩ = some (.slice none 0 0) := hs1.cell rfl
  have hs2 : Rx w1 (u5.setCell ⟨M, 3, none⟩ (.slice A4 x4.length c4)) g M 27 #[.int .i64 x1, .int .u64 (wordL x2 : Nat), .string S3, .slice A4 x4.length c4, .slice none 0 0, .slice none 0 0, .slice none 0 0, .slice none 0 0, .slice none 0 0] s4 b4 := hs1.set 3 (.slice A4 x4.length c4)
  obtain ⟨w5, hw⟩ : ∃ W, W = u5.setCell ⟨M, 3, none⟩ (.slice A4 x4.length c4) := ⟨_, rfl⟩
  rw [← hw] at hs2
  have hgw : u5.grownBy w5 (some M) := by rw [hw]; exact grown_set _ _ _ _
  have hgM : g < M + 1 := by have := hs2.gx; omega
  have hv4 := own_grown (own_le hv (show M + 1 ≤ w4.heap.size by have := HS4.out.lt; omega)) (Nat.lt_succ_self M) hgw
  have HV4 := Lib.hid hv4
  have HW5 := Lib.hid hw; have HS5 := Lib.hid hs2; have HT4 := Lib.hid hst
  have HC6 := Lib.hid (places_2 hs2.rb)
  clear hs1 hs2 hw hr hl hg hst hv hgw hgM HC5 HS4 hv4
  unfold wp_ at HC6
  go_upto_region 8 with fail
  rw [← HW5.out]
  clear c0 f0
  go_wp2_with fail
  refine HC6.out.mono ?_
  rintro e u6 ⟨x5, v, s5, b5, rfl, hv, hr, hl, hg, hst⟩
  obtain ⟨A5, c5, rfl⟩ := own_form hv
  have hs1 := HS5.out.call hg hr
  have f0 := hs1.frozen 4
  have c0 : u6.cell? ⟨M, 4, none⟩ = some (.slice none 0 0) := hs1.cell rfl
  have hs2 : Rx w1 (u6.setCell ⟨M, 4, none⟩ (.slice A5 x5.length c5)) g M 27 #[.int .i64 x1, .int .u64 (wordL x2 : Nat), .string S3, .slice A4 x4.length c4, .slice A5 x5.length c5, .slice none 0 0, .slice none 0 0, .slice none 0 0, .slice none 0 0] s5 b5 := hs1.set 4 (.slice A5 x5.length c5)
  obtain ⟨w6, hw⟩ : ∃ W, W = u6.setCell ⟨M, 4, none⟩ (.slice A5 x5.length c5) := ⟨_, rfl⟩
  rw [← hw] at hs2
  have hgw : u6.grownBy w6 (some M) := by rw [hw]; exact grown_set _ _ _ _
  have hgM : g < M + 1 := by have := hs2.gx; omega
  have hv4 := own_grown (own_grown HV4.out hgM hg) (Nat.lt_succ_self M) hgw
  have hv5 := own_grown (own_le hv (show M + 1 ≤ w5.heap.size by have := HS5.out.lt; omega)) (Nat.lt_succ_self M) hgw
  replace HV4 := Lib.hid hv4
  have HV5 := Lib.hid hv5
  have HW6 := Lib.hid hw; have HS6 := Lib.hid hs2; have HT5 := Lib.hid hst
  have HC7 := Lib.hid (places_2 hs2.rb)
  clear hs1 hs2 hw hr hl hg hst hv hgw hgM HC6 HS5 hv4 hv5
  unfold wp_ at HC7
  go_upto_region 9 with fail
  rw [← HW6.out]
  clear c0 f0
  go_wp2_with fail
  refine HC7.out.mono ?_
  rintro e u7 ⟨x6, v, s6, b6, rfl, hv, hr, hl, hg, hst⟩
  obtain ⟨A6, c6, rfl⟩ := own_form hv
  have hs1 := HS6.out.call hg hr
  have f0 := hs1.frozen 5
  have c0 : u7.cell? ⟨M, 5, none⟩ = some (.slice none 0 0) := hs1.cell rfl
  have hs2 : Rx w1 (u7.setCell ⟨M, 5, none⟩ (.slice A6 x6.length c6)) g M 27 #[.int .i64 x1, .int .u64 (wordL x2 : Nat), .string S3, .slice A4 x4.length c4, .slice A5 x5.length c5, .slice A6 x6.length c6, .slice none 0 0, .slice none 0 0, .slice none 0 0] s6 b6 := hs1.set 5 (.slice A6 x6.length c6)
  obtain ⟨w7, hw⟩ : ∃ W, W = u7.setCell ⟨M, 5, none⟩ (.slice A6 x6.length c6) := ⟨_, rfl⟩
  rw [← hw] at hs2
  have hgw : u7.grownBy w7 (some M) := by rw [hw]; exact grown_set _ _ _ _
  have hgM : g < M + 1 := by have := hs2.gx; omega
  have hv4 := own_grown (own_grown HV4.out hgM hg) (Nat.lt_succ_self M) hgw
  have hv5 := own_grown (own_grown HV5.out hgM hg) (Nat.lt_succ_self M) hgw
  have hv6 := own_grown (own_le hv (show M + 1 ≤ w6.heap.size by have := HS6.out.lt; omega)) (Nat.lt_succ_self M) hgw
  replace HV4 := Lib.hid hv4
  replace HV5 := Lib.hid hv5
  have HV6 := Lib.hid hv6
  have HW7 := Lib.hid hw; have HS7 := Lib.hid hs2; have HT6 := Lib.hid hst
  have HC8 := Lib.hid (places_2 hs2.rb)
  clear hs1 hs2 hw hr hl hg hst hv hgw hgM HC7 HS6 hv4 hv5 hv6
  unfold wp_ at HC8
  go_upto_region 10 with fail
  rw [← HW7.out]
  clear c0 f0
  go_wp2_with fail
  refine HC8.out.mono ?_
  rintro e u8 ⟨x7, v, s7, b7, rfl, hv, hr, hl, hg, hst⟩
  obtain ⟨A7, c7, rfl⟩ := own_form hv
  have hs1 := HS7.out.call hg hr
  have f0 := hs1.frozen 6
  have c0 : u8.cell? ⟨M, 6, none⟩ = some (.slice none 0 0) := hs1.cell rfl
  have hs2 : Rx w1 (u8.setCell ⟨M, 6, none⟩ (.slice A7 x7.length c7)) g M 27 #[.int .i64 x1, .int .u64 (wordL x2 : Nat), .string S3, .slice A4 x4.length c4, .slice A5 x5.length c5, .slice A6 x6.length c6, .slice A7 x7.length c7, .slice none 0 0, .slice none 0 0] s7 b7 := hs1.set 6 (.slice A7 x7.length c7)
  obtain ⟨w8, hw⟩ : ∃ W, W = u8.setCell ⟨M, 6, none⟩ (.slice A7 x7.length c7) := ⟨_, rfl⟩
  rw [← hw] at hs2
  have hgw : u8.grownBy w8 (some M) := by rw [hw]; exact grown_set _ _ _ _
  have hgM : g < M + 1 := by have := hs2.gx; omega
  have hv4 := own_grown (own_grown HV4.out hgM hg) (Nat.lt_succ_self M) hgw
  have hv5 := own_grown (own_grown HV5.out hgM hg) (Nat.lt_succ_self M) hgw
  have hv6 := own_grown (own_grown HV6.out hgM hg) (Nat.lt_succ_self M) hgw
  have hv7 := own_grown (own_le hv (show M + 1 ≤ w7.heap.size by have := HS7.out.lt; omega)) (Nat.lt_succ_self M) hgw
  replace HV4 := Lib.hid hv4
  replace HV5 := Lib.hid hv5
  replace HV6 := Lib.hid hv6
  have HV7 := Lib.hid hv7
  have HW8 := Lib.hid hw; have HS8 := Lib.hid hs2; have HT7 := Lib.hid hst
  have HC9 := Lib.hid (small_2 hs2.rb 8)
  clear hs1 hs2 hw hr hl hg hst hv hgw hgM HC8 HS7 hv4 hv5 hv6 hv7
  unfold wp_ at HC9
  go_upto_region 11 with fail
  rw [← HW8.out]
  clear c0 f0
  go_wp2_with fail
  refine HC9.out.mono ?_
  rintro e u9 ⟨x, v, s8, b8, rfl, ⟨rfl, hx0, hx8⟩, hr, hl, hg, hst⟩
  obtain ⟨n, rfl⟩ := Int.eq_ofNat_of_zero_le hx0
  have hn : n ≤ 8 := by omega
  have hgM : g < M := HS8.out.gx
  have H0 : Hid (∃ L sk bk A8 c8, L.length = 0 ∧ Rx w1 u9 g M 27 #[.int .i64 x1, .int .u64 (wordL x2 : Nat), .string S3, .slice A4 x4.length c4, .slice A5 x5.length c5, .slice A6 x6.length c6, .slice A7 x7.length c7, .slice A8 L.length c8, .slice none 0 0] sk bk ∧ RI (M + 1) u9 x4 x5 x6 x7 (.slice A4 x4.length c4) (.slice A5 x5.length c5) (.slice A6 x6.length c6) (.slice A7 x7.length c7) ∧ u9.ownsRow (M + 1) 66 4 (.slice A8 L.length c8) L.length (setsV L) ∧ LoopI (someP 8 setP s7) setP b7 L (n - 0) sk bk) :=
    Lib.hid ⟨[], s8, b8, none, 0, rfl, HS8.out.call hg hr, RI.grown ⟨HV4.out, HV5.out, HV6.out, HV7.out⟩ (by omega) hg, World.ownsRow_nil _ _ _ _, LoopI.start hst⟩
  clear hr hg hl hst HC9 hx0 hx8 HS8 HV4 HV5 HV6 HV7
  go_upto_block 0 with fail
  go_cut [7, 8] from 44 to 93 (fun _ _ wx => Hid (∃ L sk bk A8 c8, L.length ≤ 8 ∧ Rx w1 wx g M 27 #[.int .i64 x1, .int .u64 (wordL x2 : Nat), .string S3, .slice A4 x4.length c4, .slice A5 x5.length c5, .slice A6 x6.length c6, .slice A7 x7.length c7, .slice A8 L.length c8, .slice none 0 0] sk bk ∧ RI (M + 1) wx x4 x5 x6 x7 (.slice A4 x4.length c4) (.slice A5 x5.length c5) (.slice A6 x6.length c6) (.slice A7 x7.length c7) ∧ wx.ownsRow (M + 1) 66 4 (.slice A8 L.length c8) L.length (setsV L) ∧ Step (someP 8 setP) s7 b7 L sk bk))
  case first =>
    obtain ⟨i0, hi0, hz0, hz1, hz2⟩ := info_parts Try.infoSet
    have HI := Lib.hid hi0; have HZ0 := Lib.hid hz0; have HZI := Lib.hid hz1; have HZ2 := Lib.hid hz2
    clear hi0 hz0 hz1 hz2
    go_wp2_with fail
    go_loopw [7, 8] (fun z7 _ wr => ∃ k : Nat, k ≤ n ∧ z7 = .int .i64 k ∧ Hid (∃ L sk bk A8 c8, L.length = k ∧ Rx w1 wr g M 27 #[.int .i64 x1, .int .u64 (wordL x2 : Nat), .string S3, .slice A4 x4.length c4, .slice A5 x5.length c5, .slice A6 x6.length c6, .slice A7 x7.length c7, .slice A8 L.length c8, .slice none 0 0] sk bk ∧ RI (M + 1) wr x4 x5 x6 x7 (.slice A4 x4.length c4) (.slice A5 x5.length c5) (.slice A6 x6.length c6) (.slice A7 x7.length c7) ∧ wr.ownsRow (M + 1) 66 4 (.slice A8 L.length c8) L.length (setsV L) ∧ LoopI (someP 8 setP s7) setP b7 L (n - k) sk bk)) (fun x _ _ => n - (intOf x).toNat)
    case atStart => exact ⟨0, by omega, rfl, H0⟩
    case round =>
      clear H0
      obtain ⟨k, hk, rfl, HH⟩ := hrel
      obtain ⟨W, hW⟩ : ∃ W, W = wr := ⟨_, rfl⟩
      subst hW
      obtain ⟨L, sk, bk, A8, c8, hL, hx, hri, ho, hj⟩ := HH.out
      have c1 := hx.rb.cell1
      by_cases hkn : k < n
      · have hki : (k : Int) < n := by omega
        cases bk
        · have HC := Lib.hid (small_2 hx.rb 63)
          have HX := Lib.hid hx; have HRI := Lib.hid hri; have HO := Lib.hid ho; have HJ := Lib.hid hj; have HLL := Lib.hid hL
          unfold wp_ at HC
          clear hx hri ho hj hL HH
          go_wp2_with fail
          refine HC.out.mono ?_
          rintro e p1 ⟨y1, v, t1, d1, rfl, ⟨rfl, hy0, hy1⟩, hr, hl, hg, hst⟩
          have ha : Rx W _ g _ 66 #[.int .i64 y1, .int .i64 0, .int .i64 0, .int .i64 0] t1 d1 := Rx.start hg hr _ _
          obtain ⟨X, hX⟩ : ∃ X, X = p1.heap.size := ⟨_, rfl⟩
          obtain ⟨q1, hq1⟩ : ∃ V, V = p1.alloc (.cells #[.int .i64 y1, .int .i64 0, .int .i64 0, .int .i64 0] 66) := ⟨_, rfl⟩
          rw [← hq1, ← hX] at ha
          have HXX := Lib.hid hX; have HQ1 := Lib.hid hq1; have HA1 := Lib.hid ha; have HS1' := Lib.hid hst
          have HC2 := Lib.hid (small_2 ha.rb 3)
          clear hX hq1 ha hr hl hg hst HC hy0 hy1 c1
          unfold wp_ at HC2
          go_upto_region 16 with fail
          rw [← HQ1.out, ← HXX.out]
          go_wp2_with fail
          refine HC2.out.mono ?_
          rintro e p2 ⟨y2, v, t2, d2, rfl, ⟨rfl, hy0, hy1⟩, hr, hl, hg, hst⟩
          have hs1 := HA1.out.call hg hr
          have f0 := hs1.frozen 1
          have c0 : p2.cell? ⟨X, 1, none⟩ = some (.int .i64 0) := hs1.cell rfl
          have hs2 : Rx W (p2.setCell ⟨X, 1, none⟩ (.int .i64 y2)) g X 66 #[.int .i64 y1, .int .i64 y2, .int .i64 0, .int .i64 0] t2 d2 := hs1.set 1 (.int .i64 y2)
          obtain ⟨q2, hw⟩ : ∃ W, W = p2.setCell ⟨X, 1, none⟩ (.int .i64 y2) := ⟨_, rfl⟩
          rw [← hw] at hs2
          have HQ2 := Lib.hid hw; have HA2 := Lib.hid hs2; have HS2' := Lib.hid hst; have HY := Lib.hid hy0
          clear hs1 hs2 hw hr hl hg hst HC2 HA1 hy0 hy1
          go_upto_region 17 with fail
          rw [← HQ2.out]
          clear c0 f0
          have g0 := HA2.out.rb.cell1
          have g1 := HA2.out.rb.frozen 1
          have g2 : q2.cell? ⟨X, 1, none⟩ = some (.int .i64 y2) := HA2.out.cell rfl
          cases d2
          · -- no fault yet
            have hs2 := HA2.out.flag (y2 == 0)
            obtain ⟨q3, hw⟩ : ∃ W, W = q2.setCell ⟨g, 1, none⟩ (.bool (y2 == 0)) := ⟨_, rfl⟩
            rw [← hw] at hs2
            have HQ3 := Lib.hid hw; have HA3 := Lib.hid hs2
            have HC3 := Lib.hid (take_2 hs2.rb 8)
            clear hs2 hw
            unfold wp_ at HC3
            go_upto_region 18 with fail
            rw [← HQ3.out]
            clear g0 g1 g2
            go_wp2_with fail
            refine HC3.out.mono ?_
            rintro e p4 ⟨l4, v, t4, d4, rfl, ⟨rfl, hl8⟩, hr, hl, hg, hst⟩
            obtain ⟨S4, hS, hSl, hSz⟩ := bstr_eq l4
            rw [hS]
            have HN := Lib.hid (refNumber_any S4 p4 (by omega))
            rw [hSl] at HN
            have hy : IntKind.i64.wrap (wordL l4 : Int) = wideI (wordL l4) := wide_wrap (word_lt64 hl8)
            obtain ⟨y4, hyy⟩ : ∃ y, y = wideI (wordL l4) := ⟨_, rfl⟩
            rw [← hyy] at hy
            have HY4 := Lib.hid hyy
            have hs1 := HA3.out.call hg hr
            have f0 := hs1.frozen 2
            have c0 : p4.cell? ⟨X, 2, none⟩ = some (.int .i64 0) := hs1.cell rfl
            have hs2 : Rx W (p4.setCell ⟨X, 2, none⟩ (.int .i64 y4)) g X 66 #[.int .i64 y1, .int .i64 y2, .int .i64 y4, .int .i64 0] t4 d4 := hs1.set 2 (.int .i64 y4)
            obtain ⟨q4, hw⟩ : ∃ W, W = p4.setCell ⟨X, 2, none⟩ (.int .i64 y4) := ⟨_, rfl⟩
            rw [← hw] at hs2
            have HQ4 := Lib.hid hw; have HA4 := Lib.hid hs2; have HS4' := Lib.hid hst
            have HC4 := Lib.hid (take_2 hs2.rb 8)
            clear hs1 hs2 hw hr hl hg hst HC3 HA3 hS hSl hSz hl8 hyy
            unfold wp_ at HC4
            go_wp2_with fail
            refine HN.out.mono ?_
            rintro e pp ⟨rfl, rfl⟩
            go_upto_region 19 with fail
            rw [← HQ4.out]
            clear c0 f0 hy
            go_wp2_with fail
            refine HC4.out.mono ?_
            rintro e p5 ⟨l5, v, t5, d5, rfl, ⟨rfl, hl8⟩, hr, hl, hg, hst⟩
            obtain ⟨S5, hS, hSl, hSz⟩ := bstr_eq l5
            rw [hS]
            have HN := Lib.hid (refNumber_any S5 p5 (by omega))
            rw [hSl] at HN
            have hy : IntKind.i64.wrap (wordL l5 : Int) = wideI (wordL l5) := wide_wrap (word_lt64 hl8)
            obtain ⟨y5, hyy⟩ : ∃ y, y = wideI (wordL l5) := ⟨_, rfl⟩
            rw [← hyy] at hy
            have HY5 := Lib.hid hyy
            have hs1 := HA4.out.call hg hr
            have f0 := hs1.frozen 3
            have c0 : p5.cell? ⟨X, 3, none⟩ = some (.int .i64 0) := hs1.cell rfl
            have hs2 : Rx W (p5.setCell ⟨X, 3, none⟩ (.int .i64 y5)) g X 66 #[.int .i64 y1, .int .i64 y2, .int .i64 y4, .int .i64 y5] t5 d5 := hs1.set 3 (.int .i64 y5)
            obtain ⟨q5, hw⟩ : ∃ W, W = p5.setCell ⟨X, 3, none⟩ (.int .i64 y5) := ⟨_, rfl⟩
            rw [← hw] at hs2
            have HQ5 := Lib.hid hw; have HA5 := Lib.hid hs2; have HS5' := Lib.hid hst
            skip
            clear hs1 hs2 hw hr hl hg hst HC4 HA4 hS hSl hSz hl8 hyy
            skip
            go_wp2_with fail
            refine HN.out.mono ?_
            rintro e pp ⟨rfl, rfl⟩
            go_upto_region 20 with fail
            rw [← HQ5.out]
            clear c0 f0 hy
            have hx5 := HX.out.call HA5.out.grown HA5.out.rb
            have HRI5 := Lib.hid (HRI.out.grown (by omega) HA5.out.grown)
            have HO5 := Lib.hid (own_grown HO.out (show g < M + 1 by omega) HA5.out.grown)
            have m7 : q5.cell? ⟨M, 7, none⟩ = some (.slice A8 L.length c8) := hx5.cell rfl
            have z0 : q5.cell? ⟨X, 0, none⟩ = some (.int .i64 y1) := HA5.out.cell rfl
            have z1 : q5.cell? ⟨X, 1, none⟩ = some (.int .i64 y2) := HA5.out.cell rfl
            have z2 : q5.cell? ⟨X, 2, none⟩ = some (.int .i64 y4) := HA5.out.cell rfl
            have z3 : q5.cell? ⟨X, 3, none⟩ = some (.int .i64 y5) := HA5.out.cell rfl
            have hstp : Step setP sk false (⟨y1, y2, y4, y5⟩ : SetM) t5 d5 := by
              have := step_set HS1'.out HS2'.out HY.out (b3 := (y2 == 0)) (by simp) HS4'.out HS5'.out
              rw [← HY4.out, ← HY5.out] at this
              exact this
            have HJ2 := Lib.hid (HJ.out.next hkn hstp)
            have hL9 : L.length ≤ 47 := by have := HLL.out; omega
            have hMz : M + 1 ≤ q5.heap.size := hx5.lt
            have HX5 := Lib.hid hx5
            clear hx5 hstp
            go_wp2_with (at_builtin; refine wpList_append_own _ rfl _ _ 24 rfl (M + 1) 66 i0 _ 4 32 Try.underlying24 HI.out HZ0.out HZI.out HZ2.out rfl (by decide) _ L.length (setsV L) rfl (HO5.out.alloc _) ⟨q5.heap.size, 0, none⟩ 1 1 [.int .i64 y1, .int .i64 y2, .int .i64 y4, .int .i64 y5] rfl rfl (row_cells q5 [.int .i64 y1, .int .i64 y2, .int .i64 y4, .int .i64 y5] _) (by intro u hu; simp at hu; rcases hu with rfl | rfl | rfl | rfl <;> rfl) (by unfold maxLen; omega) (by omega) (by simp; omega) ?_)
            intro v' w9 hown hgr _
            clear m7 z0 z1 z2 z3
            have hlt : ∀ k, (Value.slice A8 L.length c8).ownBlock = some k → M + 1 ≤ k := fun k hk => (HO5.out.lt k hk).1
            have hx9 := HX5.out.app hgr hlt
            have hri9 := HRI5.out.app HO5.out (by decide) hgr
            have f9 := hx9.frozen 7
            have c9 : w9.cell? ⟨M, 7, none⟩ = some (.slice A8 L.length c8) := hx9.cell rfl
            obtain ⟨A', c', rfl⟩ := own_form hown
            obtain ⟨wn, hwn⟩ : ∃ V, V = w9.setCell ⟨M, 7, none⟩ (.slice A' (L.length + 1) c') := ⟨_, rfl⟩
            have hgs := grown_set w9 M 7 (.slice A' (L.length + 1) c')
            have hx10 := hx9.set 7 (.slice A' (L.length + 1) c')
            rw [← hwn] at hgs hx10
            have hnew : Hid (∃ L sk bk A8 c8, L.length = (k + 1) ∧ Rx w1 wn g M 27 #[.int .i64 x1, .int .u64 (wordL x2 : Nat), .string S3, .slice A4 x4.length c4, .slice A5 x5.length c5, .slice A6 x6.length c6, .slice A7 x7.length c7, .slice A8 L.length c8, .slice none 0 0] sk bk ∧ RI (M + 1) wn x4 x5 x6 x7 (.slice A4 x4.length c4) (.slice A5 x5.length c5) (.slice A6 x6.length c6) (.slice A7 x7.length c7) ∧ wn.ownsRow (M + 1) 66 4 (.slice A8 L.length c8) L.length (setsV L) ∧ LoopI (someP 8 setP s7) setP b7 L (n - (k + 1)) sk bk) := Lib.hid (by
              have hLz : (L ++ [(⟨y1, y2, y4, y5⟩ : SetM)]).length = L.length + 1 := by rw [List.length_append]; rfl
              refine ⟨L ++ [⟨y1, y2, y4, y5⟩], t5, d5, A', c', by rw [hLz, HLL.out], ?_, hri9.grown (Nat.lt_succ_self M) hgs, ?_, HJ2.out⟩
              · rw [hLz]; exact hx10
              · rw [hLz, setsV_append, setsV_one]
                exact own_grown hown (Nat.lt_succ_self M) hgs)
            have HWN := Lib.hid hwn
            clear hown hgr hx9 hri9 hwn hgs hx10
            go_wp2
            rw [← HWN.out]
            go_roundw
            case rel => exact ⟨k + 1, by omega, by go_num, hnew⟩
            case measure => simp [intOf]; omega
          · -- there was a fault
            have hs2 := HA2.out.flag true
            obtain ⟨q3, hw⟩ : ∃ W, W = q2.setCell ⟨g, 1, none⟩ (.bool true) := ⟨_, rfl⟩
            rw [← hw] at hs2
            have HQ3 := Lib.hid hw; have HA3 := Lib.hid hs2
            have HC3 := Lib.hid (take_2 hs2.rb 8)
            clear hs2 hw
            unfold wp_ at HC3
            go_upto_region 18 with fail
            rw [← HQ3.out]
            clear g0 g1 g2
            go_wp2_with fail
            refine HC3.out.mono ?_
            rintro e p4 ⟨l4, v, t4, d4, rfl, ⟨rfl, hl8⟩, hr, hl, hg, hst⟩
            obtain ⟨S4, hS, hSl, hSz⟩ := bstr_eq l4
            rw [hS]
            have HN := Lib.hid (refNumber_any S4 p4 (by omega))
            rw [hSl] at HN
            have hy : IntKind.i64.wrap (wordL l4 : Int) = wideI (wordL l4) := wide_wrap (word_lt64 hl8)
            obtain ⟨y4, hyy⟩ : ∃ y, y = wideI (wordL l4) := ⟨_, rfl⟩
            rw [← hyy] at hy
            have HY4 := Lib.hid hyy
            have hs1 := HA3.out.call hg hr
            have f0 := hs1.frozen 2
            have c0 : p4.cell? ⟨X, 2, none⟩ = some (.int .i64 0) := hs1.cell rfl
            have hs2 : Rx W (p4.setCell ⟨X, 2, none⟩ (.int .i64 y4)) g X 66 #[.int .i64 y1, .int .i64 y2, .int .i64 y4, .int .i64 0] t4 d4 := hs1.set 2 (.int .i64 y4)
            obtain ⟨q4, hw⟩ : ∃ W, W = p4.setCell ⟨X, 2, none⟩ (.int .i64 y4) := ⟨_, rfl⟩
            rw [← hw] at hs2
            have HQ4 := Lib.hid hw; have HA4 := Lib.hid hs2; have HS4' := Lib.hid hst
            have HC4 := Lib.hid (take_2 hs2.rb 8)
            clear hs1 hs2 hw hr hl hg hst HC3 HA3 hS hSl hSz hl8 hyy
            unfold wp_ at HC4
            go_wp2_with fail
            refine HN.out.mono ?_
            rintro e pp ⟨rfl, rfl⟩
            go_upto_region 19 with fail
            rw [← HQ4.out]
            clear c0 f0 hy
            go_wp2_with fail
            refine HC4.out.mono ?_
            rintro e p5 ⟨l5, v, t5, d5, rfl, ⟨rfl, hl8⟩, hr, hl, hg, hst⟩
            obtain ⟨S5, hS, hSl, hSz⟩ := bstr_eq l5
            rw [hS]
            have HN := Lib.hid (refNumber_any S5 p5 (by omega))
            rw [hSl] at HN
            have hy : IntKind.i64.wrap (wordL l5 : Int) = wideI (wordL l5) := wide_wrap (word_lt64 hl8)
            obtain ⟨y5, hyy⟩ : ∃ y, y = wideI (wordL l5) := ⟨_, rfl⟩
            rw [← hyy] at hy
            have HY5 := Lib.hid hyy
            have hs1 := HA4.out.call hg hr
            have f0 := hs1.frozen 3
            have c0 : p5.cell? ⟨X, 3, none⟩ = some (.int .i64 0) := hs1.cell rfl
            have hs2 : Rx W (p5.setCell ⟨X, 3, none⟩ (.int .i64 y5)) g X 66 #[.int .i64 y1, .int .i64 y2, .int .i64 y4, .int .i64 y5] t5 d5 := hs1.set 3 (.int .i64 y5)
            obtain ⟨q5, hw⟩ : ∃ W, W = p5.setCell ⟨X, 3, none⟩ (.int .i64 y5) := ⟨_, rfl⟩
            rw [← hw] at hs2
            have HQ5 := Lib.hid hw; have HA5 := Lib.hid hs2; have HS5' := Lib.hid hst
            skip
            clear hs1 hs2 hw hr hl hg hst HC4 HA4 hS hSl hSz hl8 hyy
            skip
            go_wp2_with fail
            refine HN.out.mono ?_
            rintro e pp ⟨rfl, rfl⟩
            go_upto_region 20 with fail
            rw [← HQ5.out]
            clear c0 f0 hy
            have hx5 := HX.out.call HA5.out.grown HA5.out.rb
            have HRI5 := Lib.hid (HRI.out.grown (by omega) HA5.out.grown)
            have HO5 := Lib.hid (own_grown HO.out (show g < M + 1 by omega) HA5.out.grown)
            have m7 : q5.cell? ⟨M, 7, none⟩ = some (.slice A8 L.length c8) := hx5.cell rfl
            have z0 : q5.cell? ⟨X, 0, none⟩ = some (.int .i64 y1) := HA5.out.cell rfl
            have z1 : q5.cell? ⟨X, 1, none⟩ = some (.int .i64 y2) := HA5.out.cell rfl
            have z2 : q5.cell? ⟨X, 2, none⟩ = some (.int .i64 y4) := HA5.out.cell rfl
            have z3 : q5.cell? ⟨X, 3, none⟩ = some (.int .i64 y5) := HA5.out.cell rfl
            have hstp : Step setP sk false (⟨y1, y2, y4, y5⟩ : SetM) t5 d5 := by
              have := step_set HS1'.out HS2'.out HY.out (b3 := true) (by simp) HS4'.out HS5'.out
              rw [← HY4.out, ← HY5.out] at this
              exact this
            have HJ2 := Lib.hid (HJ.out.next hkn hstp)
            have hL9 : L.length ≤ 47 := by have := HLL.out; omega
            have hMz : M + 1 ≤ q5.heap.size := hx5.lt
            have HX5 := Lib.hid hx5
            clear hx5 hstp
            go_wp2_with (at_builtin; refine wpList_append_own _ rfl _ _ 24 rfl (M + 1) 66 i0 _ 4 32 Try.underlying24 HI.out HZ0.out HZI.out HZ2.out rfl (by decide) _ L.length (setsV L) rfl (HO5.out.alloc _) ⟨q5.heap.size, 0, none⟩ 1 1 [.int .i64 y1, .int .i64 y2, .int .i64 y4, .int .i64 y5] rfl rfl (row_cells q5 [.int .i64 y1, .int .i64 y2, .int .i64 y4, .int .i64 y5] _) (by intro u hu; simp at hu; rcases hu with rfl | rfl | rfl | rfl <;> rfl) (by unfold maxLen; omega) (by omega) (by simp; omega) ?_)
            intro v' w9 hown hgr _
            clear m7 z0 z1 z2 z3
            have hlt : ∀ k, (Value.slice A8 L.length c8).ownBlock = some k → M + 1 ≤ k := fun k hk => (HO5.out.lt k hk).1
            have hx9 := HX5.out.app hgr hlt
            have hri9 := HRI5.out.app HO5.out (by decide) hgr
            have f9 := hx9.frozen 7
            have c9 : w9.cell? ⟨M, 7, none⟩ = some (.slice A8 L.length c8) := hx9.cell rfl
            obtain ⟨A', c', rfl⟩ := own_form hown
            obtain ⟨wn, hwn⟩ : ∃ V, V = w9.setCell ⟨M, 7, none⟩ (.slice A' (L.length + 1) c') := ⟨_, rfl⟩
            have hgs := grown_set w9 M 7 (.slice A' (L.length + 1) c')
            have hx10 := hx9.set 7 (.slice A' (L.length + 1) c')
            rw [← hwn] at hgs hx10
            have hnew : Hid (∃ L sk bk A8 c8, L.length = (k + 1) ∧ Rx w1 wn g M 27 #[.int .i64 x1, .int .u64 (wordL x2 : Nat), .string S3, .slice A4 x4.length c4, .slice A5 x5.length c5, .slice A6 x6.length c6, .slice A7 x7.length c7, .slice A8 L.length c8, .slice none 0 0] sk bk ∧ RI (M + 1) wn x4 x5 x6 x7 (.slice A4 x4.length c4) (.slice A5 x5.length c5) (.slice A6 x6.length c6) (.slice A7 x7.length c7) ∧ wn.ownsRow (M + 1) 66 4 (.slice A8 L.length c8) L.length (setsV L) ∧ LoopI (someP 8 setP s7) setP b7 L (n - (k + 1)) sk bk) := Lib.hid (by
              have hLz : (L ++ [(⟨y1, y2, y4, y5⟩ : SetM)]).length = L.length + 1 := by rw [List.length_append]; rfl
              refine ⟨L ++ [⟨y1, y2, y4, y5⟩], t5, d5, A', c', by rw [hLz, HLL.out], ?_, hri9.grown (Nat.lt_succ_self M) hgs, ?_, HJ2.out⟩
              · rw [hLz]; exact hx10
              · rw [hLz, setsV_append, setsV_one]
                exact own_grown hown (Nat.lt_succ_self M) hgs)
            have HWN := Lib.hid hwn
            clear hown hgr hx9 hri9 hwn hgs hx10
            go_wp2
            rw [← HWN.out]
            go_roundw
            case rel => exact ⟨k + 1, by omega, by go_num, hnew⟩
            case measure => simp [intOf]; omega
        · -- a fault ends the loop
          have HE : Hid (∃ L sk bk A8 c8, L.length ≤ 8 ∧ Rx w1 W g M 27 #[.int .i64 x1, .int .u64 (wordL x2 : Nat), .string S3, .slice A4 x4.length c4, .slice A5 x5.length c5, .slice A6 x6.length c6, .slice A7 x7.length c7, .slice A8 L.length c8, .slice none 0 0] sk bk ∧ RI (M + 1) W x4 x5 x6 x7 (.slice A4 x4.length c4) (.slice A5 x5.length c5) (.slice A6 x6.length c6) (.slice A7 x7.length c7) ∧ W.ownsRow (M + 1) 66 4 (.slice A8 L.length c8) L.length (setsV L) ∧ Step (someP 8 setP) s7 b7 L sk bk) := Lib.hid ⟨L, sk, _, _, _, by omega, hx, hri, ho, hj.done (Or.inr rfl)⟩
          clear hx hri ho hj hL HH
          go_wp2_with fail
          go_meet
          case rel => exact HE
      · obtain rfl : k = n := by omega
        have HE : Hid (∃ L sk bk A8 c8, L.length ≤ 8 ∧ Rx w1 W g M 27 #[.int .i64 x1, .int .u64 (wordL x2 : Nat), .string S3, .slice A4 x4.length c4, .slice A5 x5.length c5, .slice A6 x6.length c6, .slice A7 x7.length c7, .slice A8 L.length c8, .slice none 0 0] sk bk ∧ RI (M + 1) W x4 x5 x6 x7 (.slice A4 x4.length c4) (.slice A5 x5.length c5) (.slice A6 x6.length c6) (.slice A7 x7.length c7) ∧ W.ownsRow (M + 1) 66 4 (.slice A8 L.length c8) L.length (setsV L) ∧ Step (someP 8 setP) s7 b7 L sk bk) := Lib.hid ⟨L, sk, _, _, _, by omega, hx, hri, ho, hj.done (Or.inl rfl)⟩
        clear hx hri ho hj hL HH
        go_wp2_with fail
        go_meet
        case rel => exact HE
  case rest =>
    obtain ⟨x8, s8', b8', A8, c8, hL8, hx, hri, ho, hst8⟩ := hcut.out
    clear hcut H0
    have HX := Lib.hid hx; have HRI := Lib.hid hri; have HO8 := Lib.hid ho; have HT8 := Lib.hid hst8; have HL8 := Lib.hid hL8
    have HC := Lib.hid (small_2 hx.rb 40)
    clear hx hri ho hst8 hL8 hn
    unfold wp_ at HC
    go_wp2_with fail
    refine HC.out.mono ?_
    rintro e u10 ⟨x, v, s9, b9, rfl, ⟨rfl, hx0, hx40⟩, hr, hl, hg, hst⟩
    obtain ⟨n, rfl⟩ := Int.eq_ofNat_of_zero_le hx0
    have hn : n ≤ 40 := by omega
    have HT8' := HT8
    have H0 : Hid (∃ L sk bk A9 c9, L.length = 0 ∧ Rx w1 u10 g M 27 #[.int .i64 x1, .int .u64 (wordL x2 : Nat), .string S3, .slice A4 x4.length c4, .slice A5 x5.length c5, .slice A6 x6.length c6, .slice A7 x7.length c7, .slice A8 x8.length c8, .slice A9 L.length c9] sk bk ∧ RI (M + 1) u10 x4 x5 x6 x7 (.slice A4 x4.length c4) (.slice A5 x5.length c5) (.slice A6 x6.length c6) (.slice A7 x7.length c7) ∧ u10.ownsRow (M + 1) 66 4 (.slice A8 x8.length c8) x8.length (setsV x8) ∧ PR (M + 1) u10 L (.slice A9 L.length c9) ∧ LoopI (someP 40 pastP s8') pastP b8' L (n - 0) sk bk) :=
      Lib.hid ⟨[], s9, b9, none, 0, rfl, HX.out.call hg hr, HRI.out.grown (by omega) hg, own_grown HO8.out (by omega) hg, PR.nil _ _, LoopI.start hst⟩
    clear hr hg hl hst HC hx0 hx40 HX HRI HO8 HT8'
    go_upto_block 2 with fail
    go_cut [9, 10] from 96 to 119 (fun _ _ wx => Hid (∃ L sk bk A9 c9, L.length ≤ 40 ∧ Rx w1 wx g M 27 #[.int .i64 x1, .int .u64 (wordL x2 : Nat), .string S3, .slice A4 x4.length c4, .slice A5 x5.length c5, .slice A6 x6.length c6, .slice A7 x7.length c7, .slice A8 x8.length c8, .slice A9 L.length c9] sk bk ∧ RI (M + 1) wx x4 x5 x6 x7 (.slice A4 x4.length c4) (.slice A5 x5.length c5) (.slice A6 x6.length c6) (.slice A7 x7.length c7) ∧ wx.ownsRow (M + 1) 66 4 (.slice A8 x8.length c8) x8.length (setsV x8) ∧ PR (M + 1) wx L (.slice A9 L.length c9) ∧ Step (someP 40 pastP) s8' b8' L sk bk))
    case first =>
      obtain ⟨i0, hi0, hz0, hz1, hz2⟩ := info_parts Try.infoPast
      have HI := Lib.hid hi0; have HZ0 := Lib.hid hz0; have HZI := Lib.hid hz1; have HZ2 := Lib.hid hz2
      clear hi0 hz0 hz1 hz2
      go_wp2_with fail
      go_loopw [9, 10] (fun z9' _ wr => ∃ k : Nat, k ≤ n ∧ z9' = .int .i64 k ∧ Hid (∃ L sk bk A9 c9, L.length = k ∧ Rx w1 wr g M 27 #[.int .i64 x1, .int .u64 (wordL x2 : Nat), .string S3, .slice A4 x4.length c4, .slice A5 x5.length c5, .slice A6 x6.length c6, .slice A7 x7.length c7, .slice A8 x8.length c8, .slice A9 L.length c9] sk bk ∧ RI (M + 1) wr x4 x5 x6 x7 (.slice A4 x4.length c4) (.slice A5 x5.length c5) (.slice A6 x6.length c6) (.slice A7 x7.length c7) ∧ wr.ownsRow (M + 1) 66 4 (.slice A8 x8.length c8) x8.length (setsV x8) ∧ PR (M + 1) wr L (.slice A9 L.length c9) ∧ LoopI (someP 40 pastP s8') pastP b8' L (n - k) sk bk)) (fun x _ _ => n - (intOf x).toNat)
      case atStart => exact ⟨0, by omega, rfl, H0⟩
      case round =>
        clear H0
        obtain ⟨k, hk, rfl, HH⟩ := hrel
        obtain ⟨W, hW⟩ : ∃ W, W = wr := ⟨_, rfl⟩
        subst hW
        obtain ⟨L, sk, bk, A9, c9, hL, hx, hri, ho, hpr, hj⟩ := HH.out
        have c1 := hx.rb.cell1
        by_cases hkn : k < n
        · have hki : (k : Int) < n := by omega
          cases bk
          · have HC := Lib.hid (small_2 hx.rb 63)
            have HX := Lib.hid hx; have HRI := Lib.hid hri; have HO := Lib.hid ho; have HJ := Lib.hid hj; have HLL := Lib.hid hL; have HPR := Lib.hid hpr
            unfold wp_ at HC
            clear hx hri ho hj hL HH hpr
            go_wp2_with fail
            refine HC.out.mono ?_
            rintro e p1 ⟨y1, v, t1, d1, rfl, ⟨rfl, hy0, hy1⟩, hr, hl, hg, hst⟩
            have ha : Rx W _ g _ 68 #[.int .i64 y1, .slice none 0 0] t1 d1 := Rx.start hg hr _ _
            obtain ⟨X, hX⟩ : ∃ X, X = p1.heap.size := ⟨_, rfl⟩
            obtain ⟨q1, hq1⟩ : ∃ V, V = p1.alloc (.cells #[.int .i64 y1, .slice none 0 0] 68) := ⟨_, rfl⟩
            rw [← hq1, ← hX] at ha
            have HXX := Lib.hid hX; have HQ1 := Lib.hid hq1; have HA1 := Lib.hid ha; have HS1' := Lib.hid hst
            have HC2 := Lib.hid (places_2 ha.rb)
            clear hX hq1 ha hr hl hg hst HC hy0 hy1 c1
            unfold wp_ at HC2
            go_upto_region 26 with fail
            rw [← HQ1.out, ← HXX.out]
            go_wp2_with fail
            refine HC2.out.mono ?_
            rintro e p2 ⟨y2, v, t2, d2, rfl, hv, hr, hl, hg, hst⟩
            obtain ⟨A2, C2, rfl⟩ := own_form hv
            have hs1 := HA1.out.call hg hr
            have f0 := hs1.frozen 1
            have c0 : p2.cell? ⟨X, 1, none⟩ = some (.slice none 0 0) := hs1.cell rfl
            have hs2 : Rx W (p2.setCell ⟨X, 1, none⟩ (.slice A2 y2.length C2)) g X 68 #[.int .i64 y1, .slice A2 y2.length C2] t2 d2 := hs1.set 1 (.slice A2 y2.length C2)
            obtain ⟨q2, hw⟩ : ∃ W, W = p2.setCell ⟨X, 1, none⟩ (.slice A2 y2.length C2) := ⟨_, rfl⟩
            rw [← hw] at hs2
            have hgw : p2.grownBy q2 (some X) := by rw [hw]; exact grown_set _ _ _ _
            have hMX : M < X := by have := HX.out.lt; have := hs2.wx; omega
            have hv2 := own_grown (own_le hv (show X + 1 ≤ q1.heap.size from HA1.out.lt)) (Nat.lt_succ_self X) hgw
            have hv3 := own_le hv2 (show M + 1 ≤ X + 1 by omega)
            have HV := Lib.hid hv3
            have HQ2 := Lib.hid hw; have HA2 := Lib.hid hs2; have HS2' := Lib.hid hst
            clear hs1 hs2 hw hr hl hg hst HC2 HA1 hv hv2 hv3 hgw
            go_upto_region 27 with fail
            rw [← HQ2.out]
            clear c0 f0
            have hx5 := HX.out.call HA2.out.grown HA2.out.rb
            have HRI5 := Lib.hid (HRI.out.grown (show g < M + 1 by omega) HA2.out.grown)
            have HO5 := Lib.hid (own_grown HO.out (show g < M + 1 by omega) HA2.out.grown)
            have hpr5 := HPR.out.grown (show g < M + 1 by omega) HA2.out.grown
            obtain ⟨Q, hQ1, hQ2, hQ3⟩ := hpr5
            have HQA := Lib.hid hQ1; have HQB := Lib.hid hQ2; have HQC := Lib.hid hQ3
            have m8 : q2.cell? ⟨M, 8, none⟩ = some (.slice A9 L.length c9) := hx5.cell rfl
            have z0 : q2.cell? ⟨X, 0, none⟩ = some (.int .i64 y1) := HA2.out.cell rfl
            have z1 : q2.cell? ⟨X, 1, none⟩ = some (.slice A2 y2.length C2) := HA2.out.cell rfl
            have hstp : Step pastP sk false (⟨y1, y2⟩ : PastM) t2 d2 := step_past HS1'.out HS2'.out
            have HJ2 := Lib.hid (HJ.out.next hkn hstp)
            have hL9 : L.length ≤ 47 := by have := HLL.out; omega
            have hMz : M + 1 ≤ q2.heap.size := hx5.lt
            have HX5 := Lib.hid hx5
            clear hx5 hstp hQ1 hQ2 hQ3
            go_wp2_with (at_builtin; refine wpList_append_own _ rfl _ _ 25 rfl (M + 1) 68 i0 _ 2 32 Try.underlying25 HI.out HZ0.out HZI.out HZ2.out rfl (by decide) _ L.length (Q.flatMap pairV) rfl (HQB.out.alloc _) ⟨q2.heap.size, 0, none⟩ 1 1 [.int .i64 y1, .slice A2 y2.length C2] rfl rfl (row_cells q2 [.int .i64 y1, .slice A2 y2.length C2] _) (by intro u hu; simp at hu; rcases hu with rfl | rfl <;> rfl) (by unfold maxLen; omega) (by omega) (by simp; omega) ?_)
            intro v' w9 hown hgr _
            clear m8 z0 z1
            have hlt : ∀ k, (Value.slice A9 L.length c9).ownBlock = some k → M + 1 ≤ k := fun k hk => (HQB.out.lt k hk).1
            have hx9 := HX5.out.app hgr hlt
            have hri9 := HRI5.out.app HQB.out (by decide) hgr
            have ho9 := (HO5.out.alloc _).kept hgr (own_apart HQB.out HO5.out (by decide))
            have f9 := hx9.frozen 8
            have c9' : w9.cell? ⟨M, 8, none⟩ = some (.slice A9 L.length c9) := hx9.cell rfl
            obtain ⟨A', c', rfl⟩ := own_form hown
            obtain ⟨wn, hwn⟩ : ∃ V, V = w9.setCell ⟨M, 8, none⟩ (.slice A' (L.length + 1) c') := ⟨_, rfl⟩
            have hgs := grown_set w9 M 8 (.slice A' (L.length + 1) c')
            have hx10 := hx9.set 8 (.slice A' (L.length + 1) c')
            rw [← hwn] at hgs hx10
            have hnew : Hid (∃ L sk bk A9 c9, L.length = (k + 1) ∧ Rx w1 wn g M 27 #[.int .i64 x1, .int .u64 (wordL x2 : Nat), .string S3, .slice A4 x4.length c4, .slice A5 x5.length c5, .slice A6 x6.length c6, .slice A7 x7.length c7, .slice A8 x8.length c8, .slice A9 L.length c9] sk bk ∧ RI (M + 1) wn x4 x5 x6 x7 (.slice A4 x4.length c4) (.slice A5 x5.length c5) (.slice A6 x6.length c6) (.slice A7 x7.length c7) ∧ wn.ownsRow (M + 1) 66 4 (.slice A8 x8.length c8) x8.length (setsV x8) ∧ PR (M + 1) wn L (.slice A9 L.length c9) ∧ LoopI (someP 40 pastP s8') pastP b8' L (n - (k + 1)) sk bk) := Lib.hid (by
              have hLz : (L ++ [(⟨y1, y2⟩ : PastM)]).length = L.length + 1 := by rw [List.length_append]; rfl
              have hap := fun q hq => own_apart HQB.out (HQC.out q hq) (by decide)
              have hap2 := own_apart HQB.out HV.out (by decide)
              refine ⟨L ++ [⟨y1, y2⟩], t2, d2, A', c', by rw [hLz, HLL.out], ?_, hri9.grown (Nat.lt_succ_self M) hgs, own_grown ho9 (Nat.lt_succ_self M) hgs, ?_, HJ2.out⟩
              · rw [hLz]; exact hx10
              · refine ⟨Q ++ [(⟨y1, y2⟩, .slice A2 y2.length C2)], by rw [List.map_append, HQA.out]; rfl, ?_, fun q hq => ?_⟩
                · rw [List.flatMap_append, hLz]
                  exact own_grown hown (Nat.lt_succ_self M) hgs
                · rcases List.mem_append.1 hq with hq | hq
                  · exact own_grown (((HQC.out q hq).alloc _).kept hgr (hap q hq)) (Nat.lt_succ_self M) hgs
                  · rw [List.mem_singleton.1 hq]
                    exact own_grown ((HV.out.alloc _).kept hgr hap2) (Nat.lt_succ_self M) hgs)
            have HWN := Lib.hid hwn
            clear hown hgr hx9 hri9 ho9 hwn hgs hx10
            go_wp2
            rw [← HWN.out]
            go_roundw
            case rel => exact ⟨k + 1, by omega, by go_num, hnew⟩
            case measure => simp [intOf]; omega
          · -- a fault ends the loop
            have HE : Hid (∃ L sk bk A9 c9, L.length ≤ 40 ∧ Rx w1 W g M 27 #[.int .i64 x1, .int .u64 (wordL x2 : Nat), .string S3, .slice A4 x4.length c4, .slice A5 x5.length c5, .slice A6 x6.length c6, .slice A7 x7.length c7, .slice A8 x8.length c8, .slice A9 L.length c9] sk bk ∧ RI (M + 1) W x4 x5 x6 x7 (.slice A4 x4.length c4) (.slice A5 x5.length c5) (.slice A6 x6.length c6) (.slice A7 x7.length c7) ∧ W.ownsRow (M + 1) 66 4 (.slice A8 x8.length c8) x8.length (setsV x8) ∧ PR (M + 1) W L (.slice A9 L.length c9) ∧ Step (someP 40 pastP) s8' b8' L sk bk) := Lib.hid ⟨L, sk, _, _, _, by omega, hx, hri, ho, hpr, hj.done (Or.inr rfl)⟩
            clear hx hri ho hj hL HH hpr
            go_wp2_with fail
            go_meet
            case rel => exact HE
        · obtain rfl : k = n := by omega
          have HE : Hid (∃ L sk bk A9 c9, L.length ≤ 40 ∧ Rx w1 W g M 27 #[.int .i64 x1, .int .u64 (wordL x2 : Nat), .string S3, .slice A4 x4.length c4, .slice A5 x5.length c5, .slice A6 x6.length c6, .slice A7 x7.length c7, .slice A8 x8.length c8, .slice A9 L.length c9] sk bk ∧ RI (M + 1) W x4 x5 x6 x7 (.slice A4 x4.length c4) (.slice A5 x5.length c5) (.slice A6 x6.length c6) (.slice A7 x7.length c7) ∧ W.ownsRow (M + 1) 66 4 (.slice A8 x8.length c8) x8.length (setsV x8) ∧ PR (M + 1) W L (.slice A9 L.length c9) ∧ Step (someP 40 pastP) s8' b8' L sk bk) := Lib.hid ⟨L, sk, _, _, _, by omega, hx, hri, ho, hpr, hj.done (Or.inl rfl)⟩
          clear hx hri ho hj hL HH hpr
          go_wp2_with fail
          go_meet
          case rel => exact HE
    case rest =>
      obtain ⟨x9, s9', b9', A9, c9, hL9, hx, hri, ho, hpr, hst9⟩ := hcut.out
      have hmsg := step_msg HT1.out HX1.out HT2.out HT3.out HT4.out HT5.out HT6.out HT7.out HT8.out hst9
      have HMSG := Lib.hid hmsg
      have HX := Lib.hid hx; have HRI := Lib.hid hri; have HO := Lib.hid ho; have HPR := Lib.hid hpr
      have hwk : w1.heap.size ≤ wc.heap.size := hx.grown.size
      have hr : wc.heap[K]? = some (.cells #[.int .i64 0, .int .u64 0, .string ⟨#[]⟩, .slice none 0 0, .slice none 0 0, .slice none 0 0, .slice none 0 0, .slice none 0 0, .slice none 0 0] 27 (0, 0)) := (hx.grown.block K (by have := HZ1.out; omega) (fun e => by have := Option.some.inj e; have := HGK.out; omega)).trans HR1.out
      have HR := Lib.hid hr
      have hlow : Below w.heap.size w wc := low_grown HB.out hx.grown (by have := HGK.out; have := HK.out; omega) (by have := HZ1.out; have := HK.out; omega)
      have HLOW := Lib.hid hlow
      have c0 := hx.rb.cell0
      have c1 := hx.rb.cell1
      have m0 : wc.cell? ⟨M, 0, none⟩ = some (.int .i64 x1) := hx.cell rfl
      have hKM : K < M := by have := HGK.out; have := hx.gx; omega
      have hXz := hx.lt
      clear hcut hmsg hx hri ho hpr hst9 H0 hr hlow hn hL9 hwk
      obtain ⟨S9, hS9, hS9l, hS9z⟩ := bstr_eq s9'
      rw [hS9] at c0
      have HS9L := Lib.hid hS9l
      clear hS9 hS9l
      cases b9'
      rotate_left
      · have HD := Lib.hid (step_no H80.out HMSG.out rfl)
        clear HMSG
        have e0 : wc.cell? ⟨K, 0, none⟩ = some (.int .i64 0) := (cell_of_row wc K 0 _ _ _ HR.out).trans rfl
        have k0 : wc.frozen? ⟨K, 0, none⟩ = false := frozen_of_row wc K 0 _ _ HR.out
        have e1 : wc.cell? ⟨K, 1, none⟩ = some (.int .u64 0) := (cell_of_row wc K 1 _ _ _ HR.out).trans rfl
        have k1 : wc.frozen? ⟨K, 1, none⟩ = false := frozen_of_row wc K 1 _ _ HR.out
        have e2 : wc.cell? ⟨K, 2, none⟩ = some (.string ⟨#[]⟩) := (cell_of_row wc K 2 _ _ _ HR.out).trans rfl
        have k2 : wc.frozen? ⟨K, 2, none⟩ = false := frozen_of_row wc K 2 _ _ HR.out
        have e3 : wc.cell? ⟨K, 3, none⟩ = some (.slice none 0 0) := (cell_of_row wc K 3 _ _ _ HR.out).trans rfl
        have k3 : wc.frozen? ⟨K, 3, none⟩ = false := frozen_of_row wc K 3 _ _ HR.out
        have e4 : wc.cell? ⟨K, 4, none⟩ = some (.slice none 0 0) := (cell_of_row wc K 4 _ _ _ HR.out).trans rfl
        have k4 : wc.frozen? ⟨K, 4, none⟩ = false := frozen_of_row wc K 4 _ _ HR.out
        have e5 : wc.cell? ⟨K, 5, none⟩ = some (.slice none 0 0) := (cell_of_row wc K 5 _ _ _ HR.out).trans rfl
        have k5 : wc.frozen? ⟨K, 5, none⟩ = false := frozen_of_row wc K 5 _ _ HR.out
        have e6 : wc.cell? ⟨K, 6, none⟩ = some (.slice none 0 0) := (cell_of_row wc K 6 _ _ _ HR.out).trans rfl
        have k6 : wc.frozen? ⟨K, 6, none⟩ = false := frozen_of_row wc K 6 _ _ HR.out
        have e7 : wc.cell? ⟨K, 7, none⟩ = some (.slice none 0 0) := (cell_of_row wc K 7 _ _ _ HR.out).trans rfl
        have k7 : wc.frozen? ⟨K, 7, none⟩ = false := frozen_of_row wc K 7 _ _ HR.out
        have e8 : wc.cell? ⟨K, 8, none⟩ = some (.slice none 0 0) := (cell_of_row wc K 8 _ _ _ HR.out).trans rfl
        have k8 : wc.frozen? ⟨K, 8, none⟩ = false := frozen_of_row wc K 8 _ _ HR.out
        have hf := put9_row HR.out (.int .i64 0) (.int .u64 0) (.string ⟨#[]⟩) (.slice none 0 0) (.slice none 0 0) (.slice none 0 0) (.slice none 0 0) (.slice none 0 0) (.slice none 0 0)
        have hgf := put9_grown wc K (.int .i64 0) (.int .u64 0) (.string ⟨#[]⟩) (.slice none 0 0) (.slice none 0 0) (.slice none 0 0) (.slice none 0 0) (.slice none 0 0) (.slice none 0 0)
        obtain ⟨WF, hWF⟩ : ∃ W, W = put9 wc K (.int .i64 0) (.int .u64 0) (.string ⟨#[]⟩) (.slice none 0 0) (.slice none 0 0) (.slice none 0 0) (.slice none 0 0) (.slice none 0 0) (.slice none 0 0) := ⟨_, rfl⟩
        rw [← hWF] at hf hgf
        unfold put9 at hWF
        have HF := Lib.hid hf; have HGF := Lib.hid hgf; have HWF := Lib.hid hWF
        clear hf hgf hWF
        go_wp2
        rw [← HWF.out]
        have q0 : WF.cell? ⟨K, 0, none⟩ = some (.int .i64 0) := (cell_of_row WF K 0 _ _ _ HF.out).trans rfl
        have q1 : WF.cell? ⟨K, 1, none⟩ = some (.int .u64 0) := (cell_of_row WF K 1 _ _ _ HF.out).trans rfl
        have q2 : WF.cell? ⟨K, 2, none⟩ = some (.string ⟨#[]⟩) := (cell_of_row WF K 2 _ _ _ HF.out).trans rfl
        have q3 : WF.cell? ⟨K, 3, none⟩ = some (.slice none 0 0) := (cell_of_row WF K 3 _ _ _ HF.out).trans rfl
        have q4 : WF.cell? ⟨K, 4, none⟩ = some (.slice none 0 0) := (cell_of_row WF K 4 _ _ _ HF.out).trans rfl
        have q5 : WF.cell? ⟨K, 5, none⟩ = some (.slice none 0 0) := (cell_of_row WF K 5 _ _ _ HF.out).trans rfl
        have q6 : WF.cell? ⟨K, 6, none⟩ = some (.slice none 0 0) := (cell_of_row WF K 6 _ _ _ HF.out).trans rfl
        have q7 : WF.cell? ⟨K, 7, none⟩ = some (.slice none 0 0) := (cell_of_row WF K 7 _ _ _ HF.out).trans rfl
        have q8 : WF.cell? ⟨K, 8, none⟩ = some (.slice none 0 0) := (cell_of_row WF K 8 _ _ _ HF.out).trans rfl
        refine bodyPost_ret (v := .tuple #[.agg z9, .int .i64 1]) (by unfold results; rw [Try.results15]; simp [z9, go_sem, q0, q1, q2, q3, q4, q5, q6, q7, q8]) rfl ?_
        rw [HD.out]
        exact ⟨⟨.agg z9, rfl, no_msg _ _⟩, low_grown HLOW.out HGF.out (Nat.le_of_eq HK.out.symm) (by have := (HLOW.out).size; omega)⟩
      by_cases hs9 : s9' = []
      rotate_left
      · have HD := Lib.hid (step_more H80.out HMSG.out hs9)
        have h0 : (0 : Int) < s9'.length := by have : s9'.length ≠ 0 := fun e => hs9 (List.length_eq_zero_iff.1 e)
                                               omega
        have h1 : (0 : Int) < S9.size := by omega
        have h2 : 0 < S9.size := by omega
        have h3 : decide ((0 : Int) < S9.size) = true := decide_eq_true h1
        have h4 : decide (0 < S9.size) = true := decide_eq_true h2
        clear HMSG hs9 h0 hS9z
        have e0 : wc.cell? ⟨K, 0, none⟩ = some (.int .i64 0) := (cell_of_row wc K 0 _ _ _ HR.out).trans rfl
        have k0 : wc.frozen? ⟨K, 0, none⟩ = false := frozen_of_row wc K 0 _ _ HR.out
        have e1 : wc.cell? ⟨K, 1, none⟩ = some (.int .u64 0) := (cell_of_row wc K 1 _ _ _ HR.out).trans rfl
        have k1 : wc.frozen? ⟨K, 1, none⟩ = false := frozen_of_row wc K 1 _ _ HR.out
        have e2 : wc.cell? ⟨K, 2, none⟩ = some (.string ⟨#[]⟩) := (cell_of_row wc K 2 _ _ _ HR.out).trans rfl
        have k2 : wc.frozen? ⟨K, 2, none⟩ = false := frozen_of_row wc K 2 _ _ HR.out
        have e3 : wc.cell? ⟨K, 3, none⟩ = some (.slice none 0 0) := (cell_of_row wc K 3 _ _ _ HR.out).trans rfl
        have k3 : wc.frozen? ⟨K, 3, none⟩ = false := frozen_of_row wc K 3 _ _ HR.out
        have e4 : wc.cell? ⟨K, 4, none⟩ = some (.slice none 0 0) := (cell_of_row wc K 4 _ _ _ HR.out).trans rfl
        have k4 : wc.frozen? ⟨K, 4, none⟩ = false := frozen_of_row wc K 4 _ _ HR.out
        have e5 : wc.cell? ⟨K, 5, none⟩ = some (.slice none 0 0) := (cell_of_row wc K 5 _ _ _ HR.out).trans rfl
        have k5 : wc.frozen? ⟨K, 5, none⟩ = false := frozen_of_row wc K 5 _ _ HR.out
        have e6 : wc.cell? ⟨K, 6, none⟩ = some (.slice none 0 0) := (cell_of_row wc K 6 _ _ _ HR.out).trans rfl
        have k6 : wc.frozen? ⟨K, 6, none⟩ = false := frozen_of_row wc K 6 _ _ HR.out
        have e7 : wc.cell? ⟨K, 7, none⟩ = some (.slice none 0 0) := (cell_of_row wc K 7 _ _ _ HR.out).trans rfl
        have k7 : wc.frozen? ⟨K, 7, none⟩ = false := frozen_of_row wc K 7 _ _ HR.out
        have e8 : wc.cell? ⟨K, 8, none⟩ = some (.slice none 0 0) := (cell_of_row wc K 8 _ _ _ HR.out).trans rfl
        have k8 : wc.frozen? ⟨K, 8, none⟩ = false := frozen_of_row wc K 8 _ _ HR.out
        have hf := put9_row HR.out (.int .i64 0) (.int .u64 0) (.string ⟨#[]⟩) (.slice none 0 0) (.slice none 0 0) (.slice none 0 0) (.slice none 0 0) (.slice none 0 0) (.slice none 0 0)
        have hgf := put9_grown wc K (.int .i64 0) (.int .u64 0) (.string ⟨#[]⟩) (.slice none 0 0) (.slice none 0 0) (.slice none 0 0) (.slice none 0 0) (.slice none 0 0) (.slice none 0 0)
        obtain ⟨WF, hWF⟩ : ∃ W, W = put9 wc K (.int .i64 0) (.int .u64 0) (.string ⟨#[]⟩) (.slice none 0 0) (.slice none 0 0) (.slice none 0 0) (.slice none 0 0) (.slice none 0 0) (.slice none 0 0) := ⟨_, rfl⟩
        rw [← hWF] at hf hgf
        unfold put9 at hWF
        have HF := Lib.hid hf; have HGF := Lib.hid hgf; have HWF := Lib.hid hWF
        clear hf hgf hWF
        go_wp2
        rw [← HWF.out]
        have q0 : WF.cell? ⟨K, 0, none⟩ = some (.int .i64 0) := (cell_of_row WF K 0 _ _ _ HF.out).trans rfl
        have q1 : WF.cell? ⟨K, 1, none⟩ = some (.int .u64 0) := (cell_of_row WF K 1 _ _ _ HF.out).trans rfl
        have q2 : WF.cell? ⟨K, 2, none⟩ = some (.string ⟨#[]⟩) := (cell_of_row WF K 2 _ _ _ HF.out).trans rfl
        have q3 : WF.cell? ⟨K, 3, none⟩ = some (.slice none 0 0) := (cell_of_row WF K 3 _ _ _ HF.out).trans rfl
        have q4 : WF.cell? ⟨K, 4, none⟩ = some (.slice none 0 0) := (cell_of_row WF K 4 _ _ _ HF.out).trans rfl
        have q5 : WF.cell? ⟨K, 5, none⟩ = some (.slice none 0 0) := (cell_of_row WF K 5 _ _ _ HF.out).trans rfl
        have q6 : WF.cell? ⟨K, 6, none⟩ = some (.slice none 0 0) := (cell_of_row WF K 6 _ _ _ HF.out).trans rfl
        have q7 : WF.cell? ⟨K, 7, none⟩ = some (.slice none 0 0) := (cell_of_row WF K 7 _ _ _ HF.out).trans rfl
        have q8 : WF.cell? ⟨K, 8, none⟩ = some (.slice none 0 0) := (cell_of_row WF K 8 _ _ _ HF.out).trans rfl
        refine bodyPost_ret (v := .tuple #[.agg z9, .int .i64 1]) (by unfold results; rw [Try.results15]; simp [z9, go_sem, q0, q1, q2, q3, q4, q5, q6, q7, q8]) rfl ?_
        rw [HD.out]
        exact ⟨⟨.agg z9, rfl, no_msg _ _⟩, low_grown HLOW.out HGF.out (Nat.le_of_eq HK.out.symm) (by have := (HLOW.out).size; omega)⟩
      subst hs9
      have h1 : ¬ (0 : Int) < S9.size := by rw [hS9z]; simp
      have h2 : S9.size = 0 := hS9z
      by_cases hx0 : x1 = 0
      · have HD := Lib.hid (step_no H80.out HMSG.out (by rw [hx0]; rfl))
        have hxb : (x1 == 0) = true := by rw [hx0]; rfl
        clear HMSG
        have e0 : wc.cell? ⟨K, 0, none⟩ = some (.int .i64 0) := (cell_of_row wc K 0 _ _ _ HR.out).trans rfl
        have k0 : wc.frozen? ⟨K, 0, none⟩ = false := frozen_of_row wc K 0 _ _ HR.out
        have e1 : wc.cell? ⟨K, 1, none⟩ = some (.int .u64 0) := (cell_of_row wc K 1 _ _ _ HR.out).trans rfl
        have k1 : wc.frozen? ⟨K, 1, none⟩ = false := frozen_of_row wc K 1 _ _ HR.out
        have e2 : wc.cell? ⟨K, 2, none⟩ = some (.string ⟨#[]⟩) := (cell_of_row wc K 2 _ _ _ HR.out).trans rfl
        have k2 : wc.frozen? ⟨K, 2, none⟩ = false := frozen_of_row wc K 2 _ _ HR.out
        have e3 : wc.cell? ⟨K, 3, none⟩ = some (.slice none 0 0) := (cell_of_row wc K 3 _ _ _ HR.out).trans rfl
        have k3 : wc.frozen? ⟨K, 3, none⟩ = false := frozen_of_row wc K 3 _ _ HR.out
        have e4 : wc.cell? ⟨K, 4, none⟩ = some (.slice none 0 0) := (cell_of_row wc K 4 _ _ _ HR.out).trans rfl
        have k4 : wc.frozen? ⟨K, 4, none⟩ = false := frozen_of_row wc K 4 _ _ HR.out
        have e5 : wc.cell? ⟨K, 5, none⟩ = some (.slice none 0 0) := (cell_of_row wc K 5 _ _ _ HR.out).trans rfl
        have k5 : wc.frozen? ⟨K, 5, none⟩ = false := frozen_of_row wc K 5 _ _ HR.out
        have e6 : wc.cell? ⟨K, 6, none⟩ = some (.slice none 0 0) := (cell_of_row wc K 6 _ _ _ HR.out).trans rfl
        have k6 : wc.frozen? ⟨K, 6, none⟩ = false := frozen_of_row wc K 6 _ _ HR.out
        have e7 : wc.cell? ⟨K, 7, none⟩ = some (.slice none 0 0) := (cell_of_row wc K 7 _ _ _ HR.out).trans rfl
        have k7 : wc.frozen? ⟨K, 7, none⟩ = false := frozen_of_row wc K 7 _ _ HR.out
        have e8 : wc.cell? ⟨K, 8, none⟩ = some (.slice none 0 0) := (cell_of_row wc K 8 _ _ _ HR.out).trans rfl
        have k8 : wc.frozen? ⟨K, 8, none⟩ = false := frozen_of_row wc K 8 _ _ HR.out
        have hf := put9_row HR.out (.int .i64 0) (.int .u64 0) (.string ⟨#[]⟩) (.slice none 0 0) (.slice none 0 0) (.slice none 0 0) (.slice none 0 0) (.slice none 0 0) (.slice none 0 0)
        have hgf := put9_grown wc K (.int .i64 0) (.int .u64 0) (.string ⟨#[]⟩) (.slice none 0 0) (.slice none 0 0) (.slice none 0 0) (.slice none 0 0) (.slice none 0 0) (.slice none 0 0)
        obtain ⟨WF, hWF⟩ : ∃ W, W = put9 wc K (.int .i64 0) (.int .u64 0) (.string ⟨#[]⟩) (.slice none 0 0) (.slice none 0 0) (.slice none 0 0) (.slice none 0 0) (.slice none 0 0) (.slice none 0 0) := ⟨_, rfl⟩
        rw [← hWF] at hf hgf
        unfold put9 at hWF
        have HF := Lib.hid hf; have HGF := Lib.hid hgf; have HWF := Lib.hid hWF
        clear hf hgf hWF
        go_wp2
        rw [← HWF.out]
        have q0 : WF.cell? ⟨K, 0, none⟩ = some (.int .i64 0) := (cell_of_row WF K 0 _ _ _ HF.out).trans rfl
        have q1 : WF.cell? ⟨K, 1, none⟩ = some (.int .u64 0) := (cell_of_row WF K 1 _ _ _ HF.out).trans rfl
        have q2 : WF.cell? ⟨K, 2, none⟩ = some (.string ⟨#[]⟩) := (cell_of_row WF K 2 _ _ _ HF.out).trans rfl
        have q3 : WF.cell? ⟨K, 3, none⟩ = some (.slice none 0 0) := (cell_of_row WF K 3 _ _ _ HF.out).trans rfl
        have q4 : WF.cell? ⟨K, 4, none⟩ = some (.slice none 0 0) := (cell_of_row WF K 4 _ _ _ HF.out).trans rfl
        have q5 : WF.cell? ⟨K, 5, none⟩ = some (.slice none 0 0) := (cell_of_row WF K 5 _ _ _ HF.out).trans rfl
        have q6 : WF.cell? ⟨K, 6, none⟩ = some (.slice none 0 0) := (cell_of_row WF K 6 _ _ _ HF.out).trans rfl
        have q7 : WF.cell? ⟨K, 7, none⟩ = some (.slice none 0 0) := (cell_of_row WF K 7 _ _ _ HF.out).trans rfl
        have q8 : WF.cell? ⟨K, 8, none⟩ = some (.slice none 0 0) := (cell_of_row WF K 8 _ _ _ HF.out).trans rfl
        refine bodyPost_ret (v := .tuple #[.agg z9, .int .i64 1]) (by unfold results; rw [Try.results15]; simp [z9, go_sem, q0, q1, q2, q3, q4, q5, q6, q7, q8]) rfl ?_
        rw [HD.out]
        exact ⟨⟨.agg z9, rfl, no_msg _ _⟩, low_grown HLOW.out HGF.out (Nat.le_of_eq HK.out.symm) (by have := (HLOW.out).size; omega)⟩
      have hxb : (x1 == 0) = false := beq_eq_false_iff_ne.2 hx0
      have HD := Lib.hid (step_yes H80.out HMSG.out (by rw [hxb]; rfl))
      clear HMSG
      have e0 : wc.cell? ⟨K, 0, none⟩ = some (.int .i64 0) := (cell_of_row wc K 0 _ _ _ HR.out).trans rfl
      have k0 : wc.frozen? ⟨K, 0, none⟩ = false := frozen_of_row wc K 0 _ _ HR.out
      have e1 : wc.cell? ⟨K, 1, none⟩ = some (.int .u64 0) := (cell_of_row wc K 1 _ _ _ HR.out).trans rfl
      have k1 : wc.frozen? ⟨K, 1, none⟩ = false := frozen_of_row wc K 1 _ _ HR.out
      have m1 : wc.cell? ⟨M, 1, none⟩ = some (.int .u64 (wordL x2 : Nat)) := HX.out.cell rfl
      have e2 : wc.cell? ⟨K, 2, none⟩ = some (.string ⟨#[]⟩) := (cell_of_row wc K 2 _ _ _ HR.out).trans rfl
      have k2 : wc.frozen? ⟨K, 2, none⟩ = false := frozen_of_row wc K 2 _ _ HR.out
      have m2 : wc.cell? ⟨M, 2, none⟩ = some (.string S3) := HX.out.cell rfl
      have e3 : wc.cell? ⟨K, 3, none⟩ = some (.slice none 0 0) := (cell_of_row wc K 3 _ _ _ HR.out).trans rfl
      have k3 : wc.frozen? ⟨K, 3, none⟩ = false := frozen_of_row wc K 3 _ _ HR.out
      have m3 : wc.cell? ⟨M, 3, none⟩ = some (.slice A4 x4.length c4) := HX.out.cell rfl
      have e4 : wc.cell? ⟨K, 4, none⟩ = some (.slice none 0 0) := (cell_of_row wc K 4 _ _ _ HR.out).trans rfl
      have k4 : wc.frozen? ⟨K, 4, none⟩ = false := frozen_of_row wc K 4 _ _ HR.out
      have m4 : wc.cell? ⟨M, 4, none⟩ = some (.slice A5 x5.length c5) := HX.out.cell rfl
      have e5 : wc.cell? ⟨K, 5, none⟩ = some (.slice none 0 0) := (cell_of_row wc K 5 _ _ _ HR.out).trans rfl
      have k5 : wc.frozen? ⟨K, 5, none⟩ = false := frozen_of_row wc K 5 _ _ HR.out
      have m5 : wc.cell? ⟨M, 5, none⟩ = some (.slice A6 x6.length c6) := HX.out.cell rfl
      have e6 : wc.cell? ⟨K, 6, none⟩ = some (.slice none 0 0) := (cell_of_row wc K 6 _ _ _ HR.out).trans rfl
      have k6 : wc.frozen? ⟨K, 6, none⟩ = false := frozen_of_row wc K 6 _ _ HR.out
      have m6 : wc.cell? ⟨M, 6, none⟩ = some (.slice A7 x7.length c7) := HX.out.cell rfl
      have e7 : wc.cell? ⟨K, 7, none⟩ = some (.slice none 0 0) := (cell_of_row wc K 7 _ _ _ HR.out).trans rfl
      have k7 : wc.frozen? ⟨K, 7, none⟩ = false := frozen_of_row wc K 7 _ _ HR.out
      have m7 : wc.cell? ⟨M, 7, none⟩ = some (.slice A8 x8.length c8) := HX.out.cell rfl
      have e8 : wc.cell? ⟨K, 8, none⟩ = some (.slice none 0 0) := (cell_of_row wc K 8 _ _ _ HR.out).trans rfl
      have k8 : wc.frozen? ⟨K, 8, none⟩ = false := frozen_of_row wc K 8 _ _ HR.out
      have m8 : wc.cell? ⟨M, 8, none⟩ = some (.slice A9 x9.length c9) := HX.out.cell rfl
      have hf := put9_row HR.out (.int .i64 x1) (.int .u64 (wordL x2 : Nat)) (.string S3) (.slice A4 x4.length c4) (.slice A5 x5.length c5) (.slice A6 x6.length c6) (.slice A7 x7.length c7) (.slice A8 x8.length c8) (.slice A9 x9.length c9)
      have hgf := put9_grown wc K (.int .i64 x1) (.int .u64 (wordL x2 : Nat)) (.string S3) (.slice A4 x4.length c4) (.slice A5 x5.length c5) (.slice A6 x6.length c6) (.slice A7 x7.length c7) (.slice A8 x8.length c8) (.slice A9 x9.length c9)
      obtain ⟨WF, hWF⟩ : ∃ W, W = put9 wc K (.int .i64 x1) (.int .u64 (wordL x2 : Nat)) (.string S3) (.slice A4 x4.length c4) (.slice A5 x5.length c5) (.slice A6 x6.length c6) (.slice A7 x7.length c7) (.slice A8 x8.length c8) (.slice A9 x9.length c9) := ⟨_, rfl⟩
      rw [← hWF] at hf hgf
      unfold put9 at hWF
      have HF := Lib.hid hf; have HGF := Lib.hid hgf; have HWF := Lib.hid hWF
      clear hf hgf hWF
      go_wp2
      rw [← HWF.out]
      have q0 : WF.cell? ⟨K, 0, none⟩ = some (.int .i64 x1) := (cell_of_row WF K 0 _ _ _ HF.out).trans rfl
      have q1 : WF.cell? ⟨K, 1, none⟩ = some (.int .u64 (wordL x2 : Nat)) := (cell_of_row WF K 1 _ _ _ HF.out).trans rfl
      have q2 : WF.cell? ⟨K, 2, none⟩ = some (.string S3) := (cell_of_row WF K 2 _ _ _ HF.out).trans rfl
      have q3 : WF.cell? ⟨K, 3, none⟩ = some (.slice A4 x4.length c4) := (cell_of_row WF K 3 _ _ _ HF.out).trans rfl
      have q4 : WF.cell? ⟨K, 4, none⟩ = some (.slice A5 x5.length c5) := (cell_of_row WF K 4 _ _ _ HF.out).trans rfl
      have q5 : WF.cell? ⟨K, 5, none⟩ = some (.slice A6 x6.length c6) := (cell_of_row WF K 5 _ _ _ HF.out).trans rfl
      have q6 : WF.cell? ⟨K, 6, none⟩ = some (.slice A7 x7.length c7) := (cell_of_row WF K 6 _ _ _ HF.out).trans rfl
      have q7 : WF.cell? ⟨K, 7, none⟩ = some (.slice A8 x8.length c8) := (cell_of_row WF K 7 _ _ _ HF.out).trans rfl
      have q8 : WF.cell? ⟨K, 8, none⟩ = some (.slice A9 x9.length c9) := (cell_of_row WF K 8 _ _ _ HF.out).trans rfl
      refine bodyPost_ret (v := .tuple #[.agg #[.int .i64 x1, .int .u64 (wordL x2 : Nat), .string S3, .slice A4 x4.length c4, .slice A5 x5.length c5, .slice A6 x6.length c6, .slice A7 x7.length c7, .slice A8 x8.length c8, .slice A9 x9.length c9], .int .i64 0]) (by unfold results; rw [Try.results15]; simp [go_sem, q0, q1, q2, q3, q4, q5, q6, q7, q8]) rfl ?_
      rw [HD.out]
      have hKB : K < M + 1 := by omega
      have hri := HRI.out.grown hKB HGF.out
      have hwM : w.heap.size ≤ M + 1 := by have := HK.out; omega
      refine ⟨⟨_, rfl, _, _, _, _, _, _, by rw [← HSS.out], HX2.out, own_le hri.h4 hwM, own_le hri.h5 hwM, own_le hri.h6 hwM, own_le hri.h7 hwM, own_le (own_grown HO.out hKB HGF.out) hwM, (HPR.out.grown hKB HGF.out).le hwM⟩, low_grown HLOW.out HGF.out (Nat.le_of_eq HK.out.symm) (HLOW.out.size)⟩
end Go.Proofs.Ytlbhkendbngmaaa.Wi
