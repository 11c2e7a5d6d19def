/- Layer 16: the reader: a message. -/
import Derived.Test.YtlbhkendbngmaaaJs
import Derived.Test.YtlbhkendbngmaaaShelf
namespace Go.Proofs.Ytlbhkendbngmaaa.Wi
open Go.RowKit
set_option maxRecDepth 100000

theorem clone_any (s : ByteArray) (w : World) (hs : s.size ≤ 281474976710656) : Calls Try.prog 49 #[.string s] w fun e w' => e = .returned (.string s) ∧ Below w.heap.size w w' := by
  have HC := Lib.hid (Try.stringslite_Clone s w hs)
  go_enter Try.func49, Try.ntmps49
  go_wp2_with fail
  refine HC.out.mono ?_
  rintro e w1 ⟨rfl, hb⟩
  have HB := Lib.hid hb
  clear hb
  go_wp2
  go_ret
  exact ⟨rfl, HB.out⟩
def z9 : Array Value := #[.int .i64 0, .int .u64 0, .string ⟨#[]⟩, .slice none 0 0, .slice none 0 0, .slice none 0 0, .slice none 0 0, .slice none 0 0, .slice none 0 0]
/-- what is read of a message, in memory that is the call's own -/
def MsgO (B : Nat) (w : World) (m : MsgM) (v : Value) : Prop :=
  ∃ t s n u st ps, v = .agg #[.int .i64 m.kd, .int .u64 m.step, bstr m.ev, t, s, n, u, st, ps] ∧ m.step < 18446744073709551616 ∧ w.ownsRow B 3 1 t m.tr.length (intV m.tr) ∧ w.ownsRow B 3 1 s m.ss.length (intV m.ss) ∧ w.ownsRow B 3 1 n m.en.length (intV m.en) ∧ w.ownsRow B 3 1 u m.vs.length (intV m.vs) ∧
    w.ownsRow B 66 4 st m.sets.length (setsV m.sets) ∧ PR B w m.pasts ps
set_option maxHeartbeats 600000 in
theorem message_r {g : Nat} {s : Bytes} {w : World} (h : RB g s w) (hs : s.length ≤ 1000000) :
    Calls Try.prog 24 #[wp_ g] w fun e w' => Got g s msgP (fun m v w' => MsgO w.heap.size w' m v) w e w' := by
  have hs0 := Sl.start h z9 27
  have hgl := h.lt
  obtain ⟨w1, hw1⟩ : ∃ W, W = (w.alloc (.cells z9 27)).alloc (.cells z9 27) := ⟨_, rfl⟩
  rw [← hw1] at hs0
  unfold z9 at hw1
  obtain ⟨K, hK⟩ : ∃ K, K = w.heap.size := ⟨_, rfl⟩
  rw [← hK] at hs0
  have hwK : w.heap.size ≤ K := by omega
  have hgK : g < K := by omega
  have HC1 := Lib.hid (small_r hs0.rb 1 9 (by omega))
  have HS1 := Lib.hid hs0; have HW1 := Lib.hid hw1; have HK := Lib.hid hK
  have hmf : ∀ (fn : Fn) (first cap : Array Value) (w : World), (Instr.makeFunc fn first cap).run Try.prog w = .ok (.func fn first cap) w := fun _ _ _ _ => rfl
  clear hs0 hw1 h hK
  unfold wp_ at *
  go_enter Try.func24, Try.ntmps24
  go_upto_region 2 with fail
  rw [← HW1.out, ← HK.out]
  -- 1
  go_wp2_with fail
  refine HC1.out.mono ?_
  intro e u1 h2
  rcases h2.split with ⟨x1, r1, v, hp, rfl, rfl, hr, hg⟩ | ⟨hp, rfl, hg⟩
  rotate_left
  · exact ⟨rfl, Got.none (by simp only [msgP, mapP, bindP, small19, hp]) (grown_trans HS1.out.grown hg)⟩
  have hs1 := HS1.out.call hgK hg hr
  have f0 := hs1.frozen 0
  have hs2 : Sl w g K 27 z9 #[.int .i64 x1, .int .u64 0, .string ⟨#[]⟩, .slice none 0 0, .slice none 0 0, .slice none 0 0, .slice none 0 0, .slice none 0 0, .slice none 0 0] r1 (u1.setCell ⟨K + 1, 0, none⟩ (.int .i64 x1)) := hs1.set hgK hwK 0 (.int .i64 x1)
  obtain ⟨w2, hw⟩ : ∃ W, W = u1.setCell ⟨K + 1, 0, none⟩ (.int .i64 x1) := ⟨_, rfl⟩
  rw [← hw] at hs2
  have c0 : u1.cell? ⟨K + 1, 0, none⟩ = some (.int .i64 0) := hs1.cell rfl
  have hl1 : r1.length ≤ s.length := left_le (guard_reads _ (int_reads 9 (by decide))) hp
  have hgw : u1.grownBy w2 (some (K + 1)) := by rw [hw]; exact grown_set _ _ _ _
  have HW2 := Lib.hid hw; have HS2 := Lib.hid hs2; have HX1 := Lib.hid hp
  have HC2 := Lib.hid (eight_r hs2.rb (by omega))
  clear hs1 hs2 hw hp hr hg h2 HC1 HS1 hgw 
  unfold wp_ at HC2
  go_upto_region 3 with fail
  rw [← HW2.out]
  clear c0 f0
  -- 2
  go_wp2_with fail
  refine HC2.out.mono ?_
  intro e u2 h2
  rcases h2.split with ⟨x2, r2, v, hp, rfl, ⟨rfl, hn⟩, hr, hg⟩ | ⟨hp, rfl, hg⟩
  rotate_left
  · exact ⟨rfl, Got.none (by simp only [msgP, mapP, bindP, small19, HX1.out, hp]) (grown_trans HS2.out.grown hg)⟩
  have hs1 := HS2.out.call hgK hg hr
  have f0 := hs1.frozen 1
  have hs2 : Sl w g K 27 z9 #[.int .i64 x1, .int .u64 (x2 : Nat), .string ⟨#[]⟩, .slice none 0 0, .slice none 0 0, .slice none 0 0, .slice none 0 0, .slice none 0 0, .slice none 0 0] r2 (u2.setCell ⟨K + 1, 1, none⟩ (.int .u64 (x2 : Nat))) := hs1.set hgK hwK 1 (.int .u64 (x2 : Nat))
  obtain ⟨w3, hw⟩ : ∃ W, W = u2.setCell ⟨K + 1, 1, none⟩ (.int .u64 (x2 : Nat)) := ⟨_, rfl⟩
  rw [← hw] at hs2
  have c0 : u2.cell? ⟨K + 1, 1, none⟩ = some (.int .u64 0) := hs1.cell rfl
  have hl2 : r2.length ≤ r1.length := left_le num_reads hp
  have hgw : u2.grownBy w3 (some (K + 1)) := by rw [hw]; exact grown_set _ _ _ _
  have HW3 := Lib.hid hw; have HS3 := Lib.hid hs2; have HX2 := Lib.hid hp
  have HN2 := Lib.hid hn
  have HC3 := Lib.hid (small_r hs2.rb 0 20 (by omega))
  clear hs1 hs2 hw hp hr hg h2 HC2 HS2 hgw  hn
  unfold wp_ at HC3
  go_upto_region 4 with fail
  rw [← HW3.out]
  clear c0 f0
  -- 3
  go_wp2_with fail
  refine HC3.out.mono ?_
  intro e u3 h2
  rcases h2.split with ⟨n0, r0, v, hp0, rfl, rfl, hr0, hg0⟩ | ⟨hp, rfl, hg⟩
  rotate_left
  · rw [smallR_zero] at hp
    have hp := int_none hp
    exact ⟨rfl, Got.none (by simp only [msgP, mapP, bindP, evP, small19, HX1.out, HX2.out, hp]) (grown_trans HS3.out.grown hg)⟩
  rw [smallR_zero] at hp0
  obtain ⟨n1, rfl, hp0, hn1⟩ := int_small hp0
  have hl0 : r0.length ≤ r2.length := left_le (small_reads 20 (by decide)) hp0
  have HT := Lib.hid (take_any hr0 n1 (by omega) (by omega))
  have HG0 := Lib.hid hg0; have HP0 := Lib.hid hp0; have HR0 := Lib.hid hr0
  clear h2 hp0 hr0 hg0 HC3
  unfold wp_ at HT
  go_wp2_with fail
  refine HT.out.mono ?_
  intro e v3 h2
  rcases h2.split with ⟨x3, r3, v, hp1, rfl, rfl, hr1, hg1⟩ | ⟨hp, rfl, hg⟩
  rotate_left
  · exact ⟨rfl, Got.none (by simp only [msgP, mapP, bindP, evP, small19, HX1.out, HX2.out, HP0.out, hp]) (grown_trans (grown_trans HS3.out.grown HG0.out) hg)⟩
  have hxl0 : x3.length = n1 := ((take_reads n1).only _ _ _ hp1).1
  have hxl : x3.length ≤ 20 := by omega
  have hp : evP r2 = some (x3, r3) := by simp only [evP, mapP, bindP, HP0.out, hp1]
  have HCL := Lib.hid (clone_any ⟨x3.toArray⟩ v3 (by rw [bsz]; omega))
  have HG1 := Lib.hid (grown_trans HG0.out hg1); have HR1 := Lib.hid hr1; have HPE := Lib.hid hp; have hxl3 := hxl
  clear h2 hp1 hr1 hg1 HT HP0 HG0 HR0 hp hl0 hxl hxl0
  unfold bstr
  go_wp2_with fail
  refine HCL.out.mono ?_
  rintro e q3 ⟨rfl, hbq⟩
  have hg := grown_trans HG1.out (grown_below hbq (some g))
  have hr := HR1.out.below hbq
  have hp := HPE.out
  clear HCL HG1 HR1 hbq HPE
  have hs1 := HS3.out.call hgK hg hr
  have f0 := hs1.frozen 2
  have hs2 : Sl w g K 27 z9 #[.int .i64 x1, .int .u64 (x2 : Nat), .string ⟨x3.toArray⟩, .slice none 0 0, .slice none 0 0, .slice none 0 0, .slice none 0 0, .slice none 0 0, .slice none 0 0] r3 (q3.setCell ⟨K + 1, 2, none⟩ (bstr x3)) := hs1.set hgK hwK 2 (bstr x3)
  obtain ⟨w4, hw⟩ : ∃ W, W = q3.setCell ⟨K + 1, 2, none⟩ (bstr x3) := ⟨_, rfl⟩
  rw [← hw] at hs2
  have c0 : q3.cell? ⟨K + 1, 2, none⟩ = some (.string ⟨#[]⟩) := hs1.cell rfl
  have hl3 : r3.length ≤ r2.length := left_le ev_reads hp
  have hgw : q3.grownBy w4 (some (K + 1)) := by rw [hw]; exact grown_set _ _ _ _
  unfold bstr at hw
  have HW4 := Lib.hid hw; have HS4 := Lib.hid hs2; have HX3 := Lib.hid hp
  have HC4 := Lib.hid (places_r hs2.rb (by omega))
  clear hs1 hs2 hw hp hr hg HS3 hgw 
  unfold wp_ at HC4
  go_upto_region 5 with fail
  rw [← HW4.out]
  clear c0 f0
  -- 4
  go_wp2_with fail
  refine HC4.out.mono ?_
  intro e u4 h2
  rcases h2.split with ⟨x4, r4, v, hp, rfl, hv, hr, hg⟩ | ⟨hp, rfl, hg⟩
  rotate_left
  · exact ⟨rfl, Got.none (by simp only [msgP, mapP, bindP, small19, HX1.out, HX2.out, HX3.out, hp]) (grown_trans HS4.out.grown hg)⟩
  obtain ⟨A4, c4, rfl⟩ := own_form hv
  have hs1 := HS4.out.call hgK hg hr
  have f0 := hs1.frozen 3
  have hs2 : Sl w g K 27 z9 #[.int .i64 x1, .int .u64 (x2 : Nat), .string ⟨x3.toArray⟩, .slice A4 x4.length c4, .slice none 0 0, .slice none 0 0, .slice none 0 0, .slice none 0 0, .slice none 0 0] r4 (u4.setCell ⟨K + 1, 3, none⟩ (.slice A4 x4.length c4)) := hs1.set hgK hwK 3 (.slice A4 x4.length c4)
  obtain ⟨w5, hw⟩ : ∃ W, W = u4.setCell ⟨K + 1, 3, none⟩ (.slice A4 x4.length c4) := ⟨_, rfl⟩
  rw [← hw] at hs2
  have c0 : u4.cell? ⟨K + 1, 3, none⟩ = some (.slice none 0 0) := hs1.cell rfl
  have hl4 : r4.length ≤ r3.length := left_le list_reads hp
  have hgw : u4.grownBy w5 (some (K + 1)) := by rw [hw]; exact grown_set _ _ _ _
  have hv4 := own_grown (own_le hv (show K + 2 ≤ w4.heap.size by have := lt_of_heap HS4.out.var; omega)) (by omega) hgw
  have HW5 := Lib.hid hw; have HS5 := Lib.hid hs2; have HX4 := Lib.hid hp
  have HV4 := Lib.hid hv4
  have HC5 := Lib.hid (places_r hs2.rb (by omega))
  clear hs1 hs2 hw hp hr hg h2 HC4 HS4 hgw hv4 hv
  unfold wp_ at HC5
  go_upto_region 6 with fail
  rw [← HW5.out]
  clear c0 f0
  -- 5
  go_wp2_with fail
  refine HC5.out.mono ?_
  intro e u5 h2
  rcases h2.split with ⟨x5, r5, v, hp, rfl, hv, hr, hg⟩ | ⟨hp, rfl, hg⟩
  rotate_left
  · exact ⟨rfl, Got.none (by simp only [msgP, mapP, bindP, small19, HX1.out, HX2.out, HX3.out, HX4.out, hp]) (grown_trans HS5.out.grown hg)⟩
  obtain ⟨A5, c5, rfl⟩ := own_form hv
  have hs1 := HS5.out.call hgK hg hr
  have f0 := hs1.frozen 4
  have hs2 : Sl w g K 27 z9 #[.int .i64 x1, .int .u64 (x2 : Nat), .string ⟨x3.toArray⟩, .slice A4 x4.length c4, .slice A5 x5.length c5, .slice none 0 0, .slice none 0 0, .slice none 0 0, .slice none 0 0] r5 (u5.setCell ⟨K + 1, 4, none⟩ (.slice A5 x5.length c5)) := hs1.set hgK hwK 4 (.slice A5 x5.length c5)
  obtain ⟨w6, hw⟩ : ∃ W, W = u5.setCell ⟨K + 1, 4, none⟩ (.slice A5 x5.length c5) := ⟨_, rfl⟩
  rw [← hw] at hs2
  have c0 : u5.cell? ⟨K + 1, 4, none⟩ = some (.slice none 0 0) := hs1.cell rfl
  have hl5 : r5.length ≤ r4.length := left_le list_reads hp
  have hgw : u5.grownBy w6 (some (K + 1)) := by rw [hw]; exact grown_set _ _ _ _
  have hv4 := own_grown (own_grown HV4.out (by omega) hg) (by omega) hgw
  have hv5 := own_grown (own_le hv (show K + 2 ≤ w5.heap.size by have := lt_of_heap HS5.out.var; omega)) (by omega) hgw
  have HW6 := Lib.hid hw; have HS6 := Lib.hid hs2; have HX5 := Lib.hid hp
  replace HV4 := Lib.hid hv4
  have HV5 := Lib.hid hv5
  have HC6 := Lib.hid (places_r hs2.rb (by omega))
  clear hs1 hs2 hw hp hr hg h2 HC5 HS5 hgw hv4 hv5 hv
  unfold wp_ at HC6
  go_upto_region 7 with fail
  rw [← HW6.out]
  clear c0 f0
  -- 6
  go_wp2_with fail
  refine HC6.out.mono ?_
  intro e u6 h2
  rcases h2.split with ⟨x6, r6, v, hp, rfl, hv, hr, hg⟩ | ⟨hp, rfl, hg⟩
  rotate_left
  · exact ⟨rfl, Got.none (by simp only [msgP, mapP, bindP, small19, HX1.out, HX2.out, HX3.out, HX4.out, HX5.out, hp]) (grown_trans HS6.out.grown hg)⟩
  obtain ⟨A6, c6, rfl⟩ := own_form hv
  have hs1 := HS6.out.call hgK hg hr
  have f0 := hs1.frozen 5
  have hs2 : Sl w g K 27 z9 #[.int .i64 x1, .int .u64 (x2 : Nat), .string ⟨x3.toArray⟩, .slice A4 x4.length c4, .slice A5 x5.length c5, .slice A6 x6.length c6, .slice none 0 0, .slice none 0 0, .slice none 0 0] r6 (u6.setCell ⟨K + 1, 5, none⟩ (.slice A6 x6.length c6)) := hs1.set hgK hwK 5 (.slice A6 x6.length c6)
  obtain ⟨w7, hw⟩ : ∃ W, W = u6.setCell ⟨K + 1, 5, none⟩ (.slice A6 x6.length c6) := ⟨_, rfl⟩
  rw [← hw] at hs2
  have c0 : u6.cell? ⟨K + 1, 5, none⟩ = some (.slice none 0 0) := hs1.cell rfl
  have hl6 : r6.length ≤ r5.length := left_le list_reads hp
  have hgw : u6.grownBy w7 (some (K + 1)) := by rw [hw]; exact grown_set _ _ _ _
  have hv4 := own_grown (own_grown HV4.out (by omega) hg) (by omega) hgw
  have hv5 := own_grown (own_grown HV5.out (by omega) hg) (by omega) hgw
  have hv6 := own_grown (own_le hv (show K + 2 ≤ w6.heap.size by have := lt_of_heap HS6.out.var; omega)) (by omega) hgw
  have HW7 := Lib.hid hw; have HS7 := Lib.hid hs2; have HX6 := Lib.hid hp
  replace HV4 := Lib.hid hv4
  replace HV5 := Lib.hid hv5
  have HV6 := Lib.hid hv6
  have HC7 := Lib.hid (places_r hs2.rb (by omega))
  clear hs1 hs2 hw hp hr hg h2 HC6 HS6 hgw hv4 hv5 hv6 hv
  unfold wp_ at HC7
  go_upto_region 8 with fail
  rw [← HW7.out]
  clear c0 f0
  -- 7
  go_wp2_with fail
  refine HC7.out.mono ?_
  intro e u7 h2
  rcases h2.split with ⟨x7, r7, v, hp, rfl, hv, hr, hg⟩ | ⟨hp, rfl, hg⟩
  rotate_left
  · exact ⟨rfl, Got.none (by simp only [msgP, mapP, bindP, small19, HX1.out, HX2.out, HX3.out, HX4.out, HX5.out, HX6.out, hp]) (grown_trans HS7.out.grown hg)⟩
  obtain ⟨A7, c7, rfl⟩ := own_form hv
  have hs1 := HS7.out.call hgK hg hr
  have f0 := hs1.frozen 6
  have hs2 : Sl w g K 27 z9 #[.int .i64 x1, .int .u64 (x2 : Nat), .string ⟨x3.toArray⟩, .slice A4 x4.length c4, .slice A5 x5.length c5, .slice A6 x6.length c6, .slice A7 x7.length c7, .slice none 0 0, .slice none 0 0] r7 (u7.setCell ⟨K + 1, 6, none⟩ (.slice A7 x7.length c7)) := hs1.set hgK hwK 6 (.slice A7 x7.length c7)
  obtain ⟨w8, hw⟩ : ∃ W, W = u7.setCell ⟨K + 1, 6, none⟩ (.slice A7 x7.length c7) := ⟨_, rfl⟩
  rw [← hw] at hs2
  have c0 : u7.cell? ⟨K + 1, 6, none⟩ = some (.slice none 0 0) := hs1.cell rfl
  have hl7 : r7.length ≤ r6.length := left_le list_reads hp
  have hgw : u7.grownBy w8 (some (K + 1)) := by rw [hw]; exact grown_set _ _ _ _
  have hv4 := own_grown (own_grown HV4.out (by omega) hg) (by omega) hgw
  have hv5 := own_grown (own_grown HV5.out (by omega) hg) (by omega) hgw
  have hv6 := own_grown (own_grown HV6.out (by omega) hg) (by omega) hgw
  have hv7 := own_grown (own_le hv (show K + 2 ≤ w7.heap.size by have := lt_of_heap HS7.out.var; omega)) (by omega) hgw
  have HW8 := Lib.hid hw; have HS8 := Lib.hid hs2; have HX7 := Lib.hid hp
  replace HV4 := Lib.hid hv4
  replace HV5 := Lib.hid hv5
  replace HV6 := Lib.hid hv6
  have HV7 := Lib.hid hv7
  have HC8 := Lib.hid (sets_r hs2.rb (by omega))
  clear hs1 hs2 hw hp hr hg h2 HC7 HS7 hgw hv4 hv5 hv6 hv7 hv
  unfold mR wp_ at HC8
  go_upto_region 9 with fail
  rw [← HW8.out]
  clear c0 f0
  -- 8
  go_wp2_with fail
  refine HC8.out.mono ?_
  intro e u8 h2
  rcases h2.split with ⟨x8, r8, v, hp, rfl, hv, hr, hg⟩ | ⟨hp, rfl, hg⟩
  rotate_left
  · exact ⟨rfl, Got.none (by simp only [msgP, mapP, bindP, small19, HX1.out, HX2.out, HX3.out, HX4.out, HX5.out, HX6.out, HX7.out, hp]) (grown_trans HS8.out.grown hg)⟩
  obtain ⟨A8, c8, rfl⟩ := own_form hv
  have hs1 := HS8.out.call hgK hg hr
  have f0 := hs1.frozen 7
  have hs2 : Sl w g K 27 z9 #[.int .i64 x1, .int .u64 (x2 : Nat), .string ⟨x3.toArray⟩, .slice A4 x4.length c4, .slice A5 x5.length c5, .slice A6 x6.length c6, .slice A7 x7.length c7, .slice A8 x8.length c8, .slice none 0 0] r8 (u8.setCell ⟨K + 1, 7, none⟩ (.slice A8 x8.length c8)) := hs1.set hgK hwK 7 (.slice A8 x8.length c8)
  obtain ⟨w9, hw⟩ : ∃ W, W = u8.setCell ⟨K + 1, 7, none⟩ (.slice A8 x8.length c8) := ⟨_, rfl⟩
  rw [← hw] at hs2
  have c0 : u8.cell? ⟨K + 1, 7, none⟩ = some (.slice none 0 0) := hs1.cell rfl
  have hl8 : r8.length ≤ r7.length := left_le (some_reads 8 (by decide) set_reads) hp
  have hgw : u8.grownBy w9 (some (K + 1)) := by rw [hw]; exact grown_set _ _ _ _
  have hv4 := own_grown (own_grown HV4.out (by omega) hg) (by omega) hgw
  have hv5 := own_grown (own_grown HV5.out (by omega) hg) (by omega) hgw
  have hv6 := own_grown (own_grown HV6.out (by omega) hg) (by omega) hgw
  have hv7 := own_grown (own_grown HV7.out (by omega) hg) (by omega) hgw
  have hv8 := own_grown (own_le hv (show K + 2 ≤ w8.heap.size by have := lt_of_heap HS8.out.var; omega)) (by omega) hgw
  have HW9 := Lib.hid hw; have HS9 := Lib.hid hs2; have HX8 := Lib.hid hp
  replace HV4 := Lib.hid hv4
  replace HV5 := Lib.hid hv5
  replace HV6 := Lib.hid hv6
  replace HV7 := Lib.hid hv7
  have HV8 := Lib.hid hv8
  have HC9 := Lib.hid (pasts_r hs2.rb (by omega))
  clear hs1 hs2 hw hp hr hg h2 HC8 HS8 hgw hv4 hv5 hv6 hv7 hv8 hv
  unfold mR wp_ at HC9
  go_upto_region 10 with fail
  rw [← HW9.out]
  clear c0 f0
  -- 9
  go_wp2_with fail
  refine HC9.out.mono ?_
  intro e u9 h2
  rcases h2.split with ⟨x9, r9, v, hp, rfl, hv, hr, hg⟩ | ⟨hp, rfl, hg⟩
  rotate_left
  · exact ⟨rfl, Got.none (by simp only [msgP, mapP, bindP, small19, HX1.out, HX2.out, HX3.out, HX4.out, HX5.out, HX6.out, HX7.out, HX8.out, hp]) (grown_trans HS9.out.grown hg)⟩
  obtain ⟨A9, c9, rfl⟩ := pasts_form hv
  have hs1 := HS9.out.call hgK hg hr
  have f0 := hs1.frozen 8
  have hs2 : Sl w g K 27 z9 #[.int .i64 x1, .int .u64 (x2 : Nat), .string ⟨x3.toArray⟩, .slice A4 x4.length c4, .slice A5 x5.length c5, .slice A6 x6.length c6, .slice A7 x7.length c7, .slice A8 x8.length c8, .slice A9 x9.length c9] r9 (u9.setCell ⟨K + 1, 8, none⟩ (.slice A9 x9.length c9)) := hs1.set hgK hwK 8 (.slice A9 x9.length c9)
  obtain ⟨w10, hw⟩ : ∃ W, W = u9.setCell ⟨K + 1, 8, none⟩ (.slice A9 x9.length c9) := ⟨_, rfl⟩
  rw [← hw] at hs2
  have c0 : u9.cell? ⟨K + 1, 8, none⟩ = some (.slice none 0 0) := hs1.cell rfl
  have hl9 : r9.length ≤ r8.length := left_le (some_reads 40 (by decide) past_reads) hp
  have hgw : u9.grownBy w10 (some (K + 1)) := by rw [hw]; exact grown_set _ _ _ _
  have hv4 := own_grown (own_grown HV4.out (by omega) hg) (by omega) hgw
  have hv5 := own_grown (own_grown HV5.out (by omega) hg) (by omega) hgw
  have hv6 := own_grown (own_grown HV6.out (by omega) hg) (by omega) hgw
  have hv7 := own_grown (own_grown HV7.out (by omega) hg) (by omega) hgw
  have hv8 := own_grown (own_grown HV8.out (by omega) hg) (by omega) hgw
  have hv9 := (hv.le (show K + 2 ≤ w9.heap.size by have := lt_of_heap HS9.out.var; omega)).grown (by omega) hgw
  have HW10 := Lib.hid hw; have HS10 := Lib.hid hs2; have HX9 := Lib.hid hp
  replace HV4 := Lib.hid hv4
  replace HV5 := Lib.hid hv5
  replace HV6 := Lib.hid hv6
  replace HV7 := Lib.hid hv7
  replace HV8 := Lib.hid hv8
  have HV9 := Lib.hid hv9
  clear hs1 hs2 hw hp hr hg h2 HC9 HS9 hgw hv4 hv5 hv6 hv7 hv8 hv9 hv
  go_upto_region 11 with fail
  rw [← HW10.out]
  clear c0 f0
  have d0 : w10.cell? ⟨K + 1, 0, none⟩ = some (.int .i64 x1) := HS10.out.cell rfl
  have d1 : w10.cell? ⟨K + 1, 1, none⟩ = some (.int .u64 (x2 : Nat)) := HS10.out.cell rfl
  have d2 : w10.cell? ⟨K + 1, 2, none⟩ = some (.string ⟨x3.toArray⟩) := HS10.out.cell rfl
  have d3 : w10.cell? ⟨K + 1, 3, none⟩ = some (.slice A4 x4.length c4) := HS10.out.cell rfl
  have d4 : w10.cell? ⟨K + 1, 4, none⟩ = some (.slice A5 x5.length c5) := HS10.out.cell rfl
  have d5 : w10.cell? ⟨K + 1, 5, none⟩ = some (.slice A6 x6.length c6) := HS10.out.cell rfl
  have d6 : w10.cell? ⟨K + 1, 6, none⟩ = some (.slice A7 x7.length c7) := HS10.out.cell rfl
  have d7 : w10.cell? ⟨K + 1, 7, none⟩ = some (.slice A8 x8.length c8) := HS10.out.cell rfl
  have d8 : w10.cell? ⟨K + 1, 8, none⟩ = some (.slice A9 x9.length c9) := HS10.out.cell rfl
  have e0 : w10.cell? ⟨K, 0, none⟩ = some (.int .i64 0) := HS10.out.cellR rfl
  have e1 : w10.cell? ⟨K, 1, none⟩ = some (.int .u64 0) := HS10.out.cellR rfl
  have e2 : w10.cell? ⟨K, 2, none⟩ = some (.string ⟨#[]⟩) := HS10.out.cellR rfl
  have e3 : w10.cell? ⟨K, 3, none⟩ = some (.slice none 0 0) := HS10.out.cellR rfl
  have e4 : w10.cell? ⟨K, 4, none⟩ = some (.slice none 0 0) := HS10.out.cellR rfl
  have e5 : w10.cell? ⟨K, 5, none⟩ = some (.slice none 0 0) := HS10.out.cellR rfl
  have e6 : w10.cell? ⟨K, 6, none⟩ = some (.slice none 0 0) := HS10.out.cellR rfl
  have e7 : w10.cell? ⟨K, 7, none⟩ = some (.slice none 0 0) := HS10.out.cellR rfl
  have e8 : w10.cell? ⟨K, 8, none⟩ = some (.slice none 0 0) := HS10.out.cellR rfl
  have k0 := HS10.out.frozenR 0
  have k1 := HS10.out.frozenR 1
  have k2 := HS10.out.frozenR 2
  have k3 := HS10.out.frozenR 3
  have k4 := HS10.out.frozenR 4
  have k5 := HS10.out.frozenR 5
  have k6 := HS10.out.frozenR 6
  have k7 := HS10.out.frozenR 7
  have k8 := HS10.out.frozenR 8
  have hf0 : Sl w g K 27 #[.int .i64 x1, .int .u64 0, .string ⟨#[]⟩, .slice none 0 0, .slice none 0 0, .slice none 0 0, .slice none 0 0, .slice none 0 0, .slice none 0 0] #[.int .i64 x1, .int .u64 (x2 : Nat), .string ⟨x3.toArray⟩, .slice A4 x4.length c4, .slice A5 x5.length c5, .slice A6 x6.length c6, .slice A7 x7.length c7, .slice A8 x8.length c8, .slice A9 x9.length c9] r9 ((w10).setCell ⟨K, 0, none⟩ (.int .i64 x1)) := (HS10.out).put hgK hwK 0 (.int .i64 x1)
  have hf1 : Sl w g K 27 #[.int .i64 x1, .int .u64 (x2 : Nat), .string ⟨#[]⟩, .slice none 0 0, .slice none 0 0, .slice none 0 0, .slice none 0 0, .slice none 0 0, .slice none 0 0] #[.int .i64 x1, .int .u64 (x2 : Nat), .string ⟨x3.toArray⟩, .slice A4 x4.length c4, .slice A5 x5.length c5, .slice A6 x6.length c6, .slice A7 x7.length c7, .slice A8 x8.length c8, .slice A9 x9.length c9] r9 (((w10).setCell ⟨K, 0, none⟩ (.int .i64 x1)).setCell ⟨K, 1, none⟩ (.int .u64 (x2 : Nat))) := (hf0).put hgK hwK 1 (.int .u64 (x2 : Nat))
  have hf2 : Sl w g K 27 #[.int .i64 x1, .int .u64 (x2 : Nat), .string ⟨x3.toArray⟩, .slice none 0 0, .slice none 0 0, .slice none 0 0, .slice none 0 0, .slice none 0 0, .slice none 0 0] #[.int .i64 x1, .int .u64 (x2 : Nat), .string ⟨x3.toArray⟩, .slice A4 x4.length c4, .slice A5 x5.length c5, .slice A6 x6.length c6, .slice A7 x7.length c7, .slice A8 x8.length c8, .slice A9 x9.length c9] r9 ((((w10).setCell ⟨K, 0, none⟩ (.int .i64 x1)).setCell ⟨K, 1, none⟩ (.int .u64 (x2 : Nat))).setCell ⟨K, 2, none⟩ (.string ⟨x3.toArray⟩)) := (hf1).put hgK hwK 2 (.string ⟨x3.toArray⟩)
  have hf3 : Sl w g K 27 #[.int .i64 x1, .int .u64 (x2 : Nat), .string ⟨x3.toArray⟩, .slice A4 x4.length c4, .slice none 0 0, .slice none 0 0, .slice none 0 0, .slice none 0 0, .slice none 0 0] #[.int .i64 x1, .int .u64 (x2 : Nat), .string ⟨x3.toArray⟩, .slice A4 x4.length c4, .slice A5 x5.length c5, .slice A6 x6.length c6, .slice A7 x7.length c7, .slice A8 x8.length c8, .slice A9 x9.length c9] r9 (((((w10).setCell ⟨K, 0, none⟩ (.int .i64 x1)).setCell ⟨K, 1, none⟩ (.int .u64 (x2 : Nat))).setCell ⟨K, 2, none⟩ (.string ⟨x3.toArray⟩)).setCell ⟨K, 3, none⟩ (.slice A4 x4.length c4)) := (hf2).put hgK hwK 3 (.slice A4 x4.length c4)
  have hf4 : Sl w g K 27 #[.int .i64 x1, .int .u64 (x2 : Nat), .string ⟨x3.toArray⟩, .slice A4 x4.length c4, .slice A5 x5.length c5, .slice none 0 0, .slice none 0 0, .slice none 0 0, .slice none 0 0] #[.int .i64 x1, .int .u64 (x2 : Nat), .string ⟨x3.toArray⟩, .slice A4 x4.length c4, .slice A5 x5.length c5, .slice A6 x6.length c6, .slice A7 x7.length c7, .slice A8 x8.length c8, .slice A9 x9.length c9] r9 ((((((w10).setCell ⟨K, 0, none⟩ (.int .i64 x1)).setCell ⟨K, 1, none⟩ (.int .u64 (x2 : Nat))).setCell ⟨K, 2, none⟩ (.string ⟨x3.toArray⟩)).setCell ⟨K, 3, none⟩ (.slice A4 x4.length c4)).setCell ⟨K, 4, none⟩ (.slice A5 x5.length c5)) := (hf3).put hgK hwK 4 (.slice A5 x5.length c5)
  have hf5 : Sl w g K 27 #[.int .i64 x1, .int .u64 (x2 : Nat), .string ⟨x3.toArray⟩, .slice A4 x4.length c4, .slice A5 x5.length c5, .slice A6 x6.length c6, .slice none 0 0, .slice none 0 0, .slice none 0 0] #[.int .i64 x1, .int .u64 (x2 : Nat), .string ⟨x3.toArray⟩, .slice A4 x4.length c4, .slice A5 x5.length c5, .slice A6 x6.length c6, .slice A7 x7.length c7, .slice A8 x8.length c8, .slice A9 x9.length c9] r9 (((((((w10).setCell ⟨K, 0, none⟩ (.int .i64 x1)).setCell ⟨K, 1, none⟩ (.int .u64 (x2 : Nat))).setCell ⟨K, 2, none⟩ (.string ⟨x3.toArray⟩)).setCell ⟨K, 3, none⟩ (.slice A4 x4.length c4)).setCell ⟨K, 4, none⟩ (.slice A5 x5.length c5)).setCell ⟨K, 5, none⟩ (.slice A6 x6.length c6)) := (hf4).put hgK hwK 5 (.slice A6 x6.length c6)
  have hf6 : Sl w g K 27 #[.int .i64 x1, .int .u64 (x2 : Nat), .string ⟨x3.toArray⟩, .slice A4 x4.length c4, .slice A5 x5.length c5, .slice A6 x6.length c6, .slice A7 x7.length c7, .slice none 0 0, .slice none 0 0] #[.int .i64 x1, .int .u64 (x2 : Nat), .string ⟨x3.toArray⟩, .slice A4 x4.length c4, .slice A5 x5.length c5, .slice A6 x6.length c6, .slice A7 x7.length c7, .slice A8 x8.length c8, .slice A9 x9.length c9] r9 ((((((((w10).setCell ⟨K, 0, none⟩ (.int .i64 x1)).setCell ⟨K, 1, none⟩ (.int .u64 (x2 : Nat))).setCell ⟨K, 2, none⟩ (.string ⟨x3.toArray⟩)).setCell ⟨K, 3, none⟩ (.slice A4 x4.length c4)).setCell ⟨K, 4, none⟩ (.slice A5 x5.length c5)).setCell ⟨K, 5, none⟩ (.slice A6 x6.length c6)).setCell ⟨K, 6, none⟩ (.slice A7 x7.length c7)) := (hf5).put hgK hwK 6 (.slice A7 x7.length c7)
  have hf7 : Sl w g K 27 #[.int .i64 x1, .int .u64 (x2 : Nat), .string ⟨x3.toArray⟩, .slice A4 x4.length c4, .slice A5 x5.length c5, .slice A6 x6.length c6, .slice A7 x7.length c7, .slice A8 x8.length c8, .slice none 0 0] #[.int .i64 x1, .int .u64 (x2 : Nat), .string ⟨x3.toArray⟩, .slice A4 x4.length c4, .slice A5 x5.length c5, .slice A6 x6.length c6, .slice A7 x7.length c7, .slice A8 x8.length c8, .slice A9 x9.length c9] r9 (((((((((w10).setCell ⟨K, 0, none⟩ (.int .i64 x1)).setCell ⟨K, 1, none⟩ (.int .u64 (x2 : Nat))).setCell ⟨K, 2, none⟩ (.string ⟨x3.toArray⟩)).setCell ⟨K, 3, none⟩ (.slice A4 x4.length c4)).setCell ⟨K, 4, none⟩ (.slice A5 x5.length c5)).setCell ⟨K, 5, none⟩ (.slice A6 x6.length c6)).setCell ⟨K, 6, none⟩ (.slice A7 x7.length c7)).setCell ⟨K, 7, none⟩ (.slice A8 x8.length c8)) := (hf6).put hgK hwK 7 (.slice A8 x8.length c8)
  have hf8 : Sl w g K 27 #[.int .i64 x1, .int .u64 (x2 : Nat), .string ⟨x3.toArray⟩, .slice A4 x4.length c4, .slice A5 x5.length c5, .slice A6 x6.length c6, .slice A7 x7.length c7, .slice A8 x8.length c8, .slice A9 x9.length c9] #[.int .i64 x1, .int .u64 (x2 : Nat), .string ⟨x3.toArray⟩, .slice A4 x4.length c4, .slice A5 x5.length c5, .slice A6 x6.length c6, .slice A7 x7.length c7, .slice A8 x8.length c8, .slice A9 x9.length c9] r9 ((((((((((w10).setCell ⟨K, 0, none⟩ (.int .i64 x1)).setCell ⟨K, 1, none⟩ (.int .u64 (x2 : Nat))).setCell ⟨K, 2, none⟩ (.string ⟨x3.toArray⟩)).setCell ⟨K, 3, none⟩ (.slice A4 x4.length c4)).setCell ⟨K, 4, none⟩ (.slice A5 x5.length c5)).setCell ⟨K, 5, none⟩ (.slice A6 x6.length c6)).setCell ⟨K, 6, none⟩ (.slice A7 x7.length c7)).setCell ⟨K, 7, none⟩ (.slice A8 x8.length c8)).setCell ⟨K, 8, none⟩ (.slice A9 x9.length c9)) := (hf7).put hgK hwK 8 (.slice A9 x9.length c9)
  have hf := hf8
  clear hf0 hf1 hf2 hf3 hf4 hf5 hf6 hf7 hf8
  obtain ⟨WF, hWF⟩ : ∃ W, W = (((((((((w10).setCell ⟨K, 0, none⟩ (.int .i64 x1)).setCell ⟨K, 1, none⟩ (.int .u64 (x2 : Nat))).setCell ⟨K, 2, none⟩ (.string ⟨x3.toArray⟩)).setCell ⟨K, 3, none⟩ (.slice A4 x4.length c4)).setCell ⟨K, 4, none⟩ (.slice A5 x5.length c5)).setCell ⟨K, 5, none⟩ (.slice A6 x6.length c6)).setCell ⟨K, 6, none⟩ (.slice A7 x7.length c7)).setCell ⟨K, 7, none⟩ (.slice A8 x8.length c8)).setCell ⟨K, 8, none⟩ (.slice A9 x9.length c9) := ⟨_, rfl⟩
  rw [← hWF] at hf
  have hv4 := own_le (ownsRow_setCell_below (ownsRow_setCell_below (ownsRow_setCell_below (ownsRow_setCell_below (ownsRow_setCell_below (ownsRow_setCell_below (ownsRow_setCell_below (ownsRow_setCell_below (ownsRow_setCell_below (HV4.out) (a := ⟨K, 0, none⟩) (show K < K + 2 by omega) (.int .i64 x1)) (a := ⟨K, 1, none⟩) (show K < K + 2 by omega) (.int .u64 (x2 : Nat))) (a := ⟨K, 2, none⟩) (show K < K + 2 by omega) (.string ⟨x3.toArray⟩)) (a := ⟨K, 3, none⟩) (show K < K + 2 by omega) (.slice A4 x4.length c4)) (a := ⟨K, 4, none⟩) (show K < K + 2 by omega) (.slice A5 x5.length c5)) (a := ⟨K, 5, none⟩) (show K < K + 2 by omega) (.slice A6 x6.length c6)) (a := ⟨K, 6, none⟩) (show K < K + 2 by omega) (.slice A7 x7.length c7)) (a := ⟨K, 7, none⟩) (show K < K + 2 by omega) (.slice A8 x8.length c8)) (a := ⟨K, 8, none⟩) (show K < K + 2 by omega) (.slice A9 x9.length c9)) (show w.heap.size ≤ K + 2 by omega)
  have hv5 := own_le (ownsRow_setCell_below (ownsRow_setCell_below (ownsRow_setCell_below (ownsRow_setCell_below (ownsRow_setCell_below (ownsRow_setCell_below (ownsRow_setCell_below (ownsRow_setCell_below (ownsRow_setCell_below (HV5.out) (a := ⟨K, 0, none⟩) (show K < K + 2 by omega) (.int .i64 x1)) (a := ⟨K, 1, none⟩) (show K < K + 2 by omega) (.int .u64 (x2 : Nat))) (a := ⟨K, 2, none⟩) (show K < K + 2 by omega) (.string ⟨x3.toArray⟩)) (a := ⟨K, 3, none⟩) (show K < K + 2 by omega) (.slice A4 x4.length c4)) (a := ⟨K, 4, none⟩) (show K < K + 2 by omega) (.slice A5 x5.length c5)) (a := ⟨K, 5, none⟩) (show K < K + 2 by omega) (.slice A6 x6.length c6)) (a := ⟨K, 6, none⟩) (show K < K + 2 by omega) (.slice A7 x7.length c7)) (a := ⟨K, 7, none⟩) (show K < K + 2 by omega) (.slice A8 x8.length c8)) (a := ⟨K, 8, none⟩) (show K < K + 2 by omega) (.slice A9 x9.length c9)) (show w.heap.size ≤ K + 2 by omega)
  have hv6 := own_le (ownsRow_setCell_below (ownsRow_setCell_below (ownsRow_setCell_below (ownsRow_setCell_below (ownsRow_setCell_below (ownsRow_setCell_below (ownsRow_setCell_below (ownsRow_setCell_below (ownsRow_setCell_below (HV6.out) (a := ⟨K, 0, none⟩) (show K < K + 2 by omega) (.int .i64 x1)) (a := ⟨K, 1, none⟩) (show K < K + 2 by omega) (.int .u64 (x2 : Nat))) (a := ⟨K, 2, none⟩) (show K < K + 2 by omega) (.string ⟨x3.toArray⟩)) (a := ⟨K, 3, none⟩) (show K < K + 2 by omega) (.slice A4 x4.length c4)) (a := ⟨K, 4, none⟩) (show K < K + 2 by omega) (.slice A5 x5.length c5)) (a := ⟨K, 5, none⟩) (show K < K + 2 by omega) (.slice A6 x6.length c6)) (a := ⟨K, 6, none⟩) (show K < K + 2 by omega) (.slice A7 x7.length c7)) (a := ⟨K, 7, none⟩) (show K < K + 2 by omega) (.slice A8 x8.length c8)) (a := ⟨K, 8, none⟩) (show K < K + 2 by omega) (.slice A9 x9.length c9)) (show w.heap.size ≤ K + 2 by omega)
  have hv7 := own_le (ownsRow_setCell_below (ownsRow_setCell_below (ownsRow_setCell_below (ownsRow_setCell_below (ownsRow_setCell_below (ownsRow_setCell_below (ownsRow_setCell_below (ownsRow_setCell_below (ownsRow_setCell_below (HV7.out) (a := ⟨K, 0, none⟩) (show K < K + 2 by omega) (.int .i64 x1)) (a := ⟨K, 1, none⟩) (show K < K + 2 by omega) (.int .u64 (x2 : Nat))) (a := ⟨K, 2, none⟩) (show K < K + 2 by omega) (.string ⟨x3.toArray⟩)) (a := ⟨K, 3, none⟩) (show K < K + 2 by omega) (.slice A4 x4.length c4)) (a := ⟨K, 4, none⟩) (show K < K + 2 by omega) (.slice A5 x5.length c5)) (a := ⟨K, 5, none⟩) (show K < K + 2 by omega) (.slice A6 x6.length c6)) (a := ⟨K, 6, none⟩) (show K < K + 2 by omega) (.slice A7 x7.length c7)) (a := ⟨K, 7, none⟩) (show K < K + 2 by omega) (.slice A8 x8.length c8)) (a := ⟨K, 8, none⟩) (show K < K + 2 by omega) (.slice A9 x9.length c9)) (show w.heap.size ≤ K + 2 by omega)
  have hv8 := own_le (ownsRow_setCell_below (ownsRow_setCell_below (ownsRow_setCell_below (ownsRow_setCell_below (ownsRow_setCell_below (ownsRow_setCell_below (ownsRow_setCell_below (ownsRow_setCell_below (ownsRow_setCell_below (HV8.out) (a := ⟨K, 0, none⟩) (show K < K + 2 by omega) (.int .i64 x1)) (a := ⟨K, 1, none⟩) (show K < K + 2 by omega) (.int .u64 (x2 : Nat))) (a := ⟨K, 2, none⟩) (show K < K + 2 by omega) (.string ⟨x3.toArray⟩)) (a := ⟨K, 3, none⟩) (show K < K + 2 by omega) (.slice A4 x4.length c4)) (a := ⟨K, 4, none⟩) (show K < K + 2 by omega) (.slice A5 x5.length c5)) (a := ⟨K, 5, none⟩) (show K < K + 2 by omega) (.slice A6 x6.length c6)) (a := ⟨K, 6, none⟩) (show K < K + 2 by omega) (.slice A7 x7.length c7)) (a := ⟨K, 7, none⟩) (show K < K + 2 by omega) (.slice A8 x8.length c8)) (a := ⟨K, 8, none⟩) (show K < K + 2 by omega) (.slice A9 x9.length c9)) (show w.heap.size ≤ K + 2 by omega)
  have hv9 := ((((((((((HV9.out).low (j := 0) (show K < K + 2 by omega) (.int .i64 x1)).low (j := 1) (show K < K + 2 by omega) (.int .u64 (x2 : Nat))).low (j := 2) (show K < K + 2 by omega) (.string ⟨x3.toArray⟩)).low (j := 3) (show K < K + 2 by omega) (.slice A4 x4.length c4)).low (j := 4) (show K < K + 2 by omega) (.slice A5 x5.length c5)).low (j := 5) (show K < K + 2 by omega) (.slice A6 x6.length c6)).low (j := 6) (show K < K + 2 by omega) (.slice A7 x7.length c7)).low (j := 7) (show K < K + 2 by omega) (.slice A8 x8.length c8)).low (j := 8) (show K < K + 2 by omega) (.slice A9 x9.length c9)).le (show w.heap.size ≤ K + 2 by omega)
  rw [← hWF] at hv4 hv5 hv6 hv7 hv8 hv9
  have HF := Lib.hid hf; have HWF := Lib.hid hWF
  replace HV4 := Lib.hid hv4
  replace HV5 := Lib.hid hv5
  replace HV6 := Lib.hid hv6
  replace HV7 := Lib.hid hv7
  replace HV8 := Lib.hid hv8
  replace HV9 := Lib.hid hv9
  clear hf hWF HS10 hv4 hv5 hv6 hv7 hv8 hv9
  go_wp2
  rw [← HWF.out]
  have q0 : WF.cell? ⟨K, 0, none⟩ = some (.int .i64 x1) := HF.out.cellR rfl
  have q1 : WF.cell? ⟨K, 1, none⟩ = some (.int .u64 (x2 : Nat)) := HF.out.cellR rfl
  have q2 : WF.cell? ⟨K, 2, none⟩ = some (.string ⟨x3.toArray⟩) := HF.out.cellR rfl
  have q3 : WF.cell? ⟨K, 3, none⟩ = some (.slice A4 x4.length c4) := HF.out.cellR rfl
  have q4 : WF.cell? ⟨K, 4, none⟩ = some (.slice A5 x5.length c5) := HF.out.cellR rfl
  have q5 : WF.cell? ⟨K, 5, none⟩ = some (.slice A6 x6.length c6) := HF.out.cellR rfl
  have q6 : WF.cell? ⟨K, 6, none⟩ = some (.slice A7 x7.length c7) := HF.out.cellR rfl
  have q7 : WF.cell? ⟨K, 7, none⟩ = some (.slice A8 x8.length c8) := HF.out.cellR rfl
  have q8 : WF.cell? ⟨K, 8, none⟩ = some (.slice A9 x9.length c9) := HF.out.cellR rfl
  refine bodyPost_ret (v := .agg #[.int .i64 x1, .int .u64 (x2 : Nat), .string ⟨x3.toArray⟩, .slice A4 x4.length c4, .slice A5 x5.length c5, .slice A6 x6.length c6, .slice A7 x7.length c7, .slice A8 x8.length c8, .slice A9 x9.length c9]) (by unfold results; rw [Try.results24]; simp [go_sem, q0, q1, q2, q3, q4, q5, q6, q7, q8]) rfl ?_
  refine Got.some (x := (⟨x1, x2, x3, x4, x5, x6, x7, x8, x9⟩ : MsgM)) ?_ HF.out.grown ⟨_, _, _, _, _, _, rfl, HN2.out, HV4.out, HV5.out, HV6.out, HV7.out, HV8.out, HV9.out⟩ HF.out.rb
  simp only [msgP, mapP, bindP, small19, HX1.out, HX2.out, HX3.out, HX4.out, HX5.out, HX6.out, HX7.out, HX8.out, HX9.out]
end Go.Proofs.Ytlbhkendbngmaaa.Wi
