/- Layer 16: the reader: a past; lists of variables that become something. -/
import Derived.Test.YtlbhkendbngmaaaJq
namespace Go.Proofs.Ytlbhkendbngmaaa.Wi
open Go.RowKit
set_option maxRecDepth 100000

theorem own_le {w : World} {B B' : Nat} {e : TypeId} {size n : Nat} {v : Value} {xs : List Value} (h : w.ownsRow B e size v n xs) (hb : B' ≤ B) : w.ownsRow B' e size v n xs := h.mono hb
def z2 : Array Value := #[.int .i64 0, .slice none 0 0]
set_option maxHeartbeats 1600000 in
theorem past_r {g : Nat} {s : Bytes} {w : World} (h : RB g s w) (hs : s.length ≤ 4611686018427387904) :
    Calls Try.prog 55 #[wp_ g] w fun e w' => Got g s pastP (fun x v w' => ∃ u, v = .agg #[.int .i64 x.st, u] ∧ w'.ownsRow w.heap.size 3 1 u x.set.length (intV x.set)) w e w' := by
  have hs0 := Sl.start h z2 68
  have hgl := h.lt
  obtain ⟨w1, hw1⟩ : ∃ W, W = (w.alloc (.cells z2 68)).alloc (.cells z2 68) := ⟨_, rfl⟩
  rw [← hw1] at hs0
  unfold z2 at hw1
  obtain ⟨K, hK⟩ : ∃ K, K = w.heap.size := ⟨_, rfl⟩
  rw [← hK] at hs0
  have hwK : w.heap.size ≤ K := by omega
  have hgK : g < K := by omega
  have HC1 := Lib.hid (place_r hs0.rb (by omega))
  have HS1 := Lib.hid hs0; have HW1 := Lib.hid hw1; have HK := Lib.hid hK
  clear hs0 hw1 h hK
  unfold wp_ at *
  go_enter Try.func55, Try.ntmps55
  go_upto_region 2 with fail
  rw [← HW1.out, ← HK.out]
  go_wp2_with fail
  refine HC1.out.mono ?_
  intro e u1 h2
  rcases h2.split with ⟨x1, r1, v, hp, rfl, rfl, hr, hg⟩ | ⟨hp, rfl, hg⟩
  rotate_left
  · exact ⟨rfl, Got.none (by simp only [pastP, mapP, bindP, hp]) (grown_trans HS1.out.grown hg)⟩
  have hs1 := HS1.out.call hgK hg hr
  have f0 := hs1.frozen 0
  have hs2 := hs1.set hgK hwK 0 (.int .i64 x1)
  obtain ⟨w2, hw⟩ : ∃ W, W = u1.setCell ⟨K + 1, 0, none⟩ (.int .i64 x1) := ⟨_, rfl⟩
  rw [← hw] at hs2
  have c0 : u1.cell? ⟨K + 1, 0, none⟩ = some (.int .i64 0) := hs1.cell rfl
  have hl1 : r1.length ≤ s.length := left_le (int_reads 63 (by decide)) hp
  have hgw : u1.grownBy w2 (some (K + 1)) := by rw [hw]; exact grown_set _ _ _ _
  have HW2 := Lib.hid hw; have HS2 := Lib.hid hs2; have HX1 := Lib.hid hp
  have HC2 := Lib.hid (places_r hs2.rb (by omega))
  clear hs1 hs2 hw hp hr hg h2 HC1 HS1 hgw 
  unfold wp_ at HC2
  go_upto_region 3 with fail
  rw [← HW2.out]
  clear c0 f0
  go_wp2_with fail
  refine HC2.out.mono ?_
  intro e u2 h2
  rcases h2.split with ⟨x2, r2, v, hp, rfl, hv, hr, hg⟩ | ⟨hp, rfl, hg⟩
  rotate_left
  · exact ⟨rfl, Got.none (by simp only [pastP, mapP, bindP, HX1.out, hp]) (grown_trans HS2.out.grown hg)⟩
  obtain ⟨A2, c2, rfl⟩ := own_form hv
  have hs1 := HS2.out.call hgK hg hr
  have f0 := hs1.frozen 1
  have hs2 := hs1.set hgK hwK 1 (.slice A2 x2.length c2)
  obtain ⟨w3, hw⟩ : ∃ W, W = u2.setCell ⟨K + 1, 1, none⟩ (.slice A2 x2.length c2) := ⟨_, rfl⟩
  rw [← hw] at hs2
  have c0 : u2.cell? ⟨K + 1, 1, none⟩ = some (.slice none 0 0) := hs1.cell rfl
  have hl2 : r2.length ≤ r1.length := left_le list_reads hp
  have hgw : u2.grownBy w3 (some (K + 1)) := by rw [hw]; exact grown_set _ _ _ _
  have hv2 := own_grown (own_le (hv) (show K + 2 ≤ w2.heap.size by have := lt_of_heap HS2.out.var; omega)) (by omega) hgw
  have HW3 := Lib.hid hw; have HS3 := Lib.hid hs2; have HX2 := Lib.hid hp
  have HV2 := Lib.hid hv2
  clear hs1 hs2 hw hp hr hg h2 HC2 HS2 hgw hv2 hv
  go_upto_region 4 with fail
  rw [← HW3.out]
  clear c0 f0
  have d0 : w3.cell? ⟨K + 1, 0, none⟩ = some (.int .i64 x1) := HS3.out.cell rfl
  have d1 : w3.cell? ⟨K + 1, 1, none⟩ = some (.slice A2 x2.length c2) := HS3.out.cell rfl
  have e0 : w3.cell? ⟨K, 0, none⟩ = some (.int .i64 0) := HS3.out.cellR rfl
  have e1 : w3.cell? ⟨K, 1, none⟩ = some (.slice none 0 0) := HS3.out.cellR rfl
  have k0 := HS3.out.frozenR 0
  have k1 := HS3.out.frozenR 1
  have hf := (HS3.out.put hgK hwK 0 (.int .i64 x1)).put hgK hwK 1 (.slice A2 x2.length c2)
  have hv := own_le (ownsRow_setCell_below (ownsRow_setCell_below HV2.out (a := ⟨K, 0, none⟩) (show K < K + 2 by omega) (.int .i64 x1)) (a := ⟨K, 1, none⟩) (show K < K + 2 by omega) (.slice A2 x2.length c2)) (show w.heap.size ≤ K + 2 by omega)
  obtain ⟨WF, hWF⟩ : ∃ W, W = (w3.setCell ⟨K, 0, none⟩ (.int .i64 x1)).setCell ⟨K, 1, none⟩ (.slice A2 x2.length c2) := ⟨_, rfl⟩
  rw [← hWF] at hf hv
  have HF := Lib.hid hf; have HWF := Lib.hid hWF; have HV := Lib.hid hv
  clear hf hWF HS3 hv HV2
  go_wp2
  rw [← HWF.out]
  have q0 : WF.cell? ⟨K, 0, none⟩ = some (.int .i64 x1) := HF.out.cellR rfl
  have q1 : WF.cell? ⟨K, 1, none⟩ = some (.slice A2 x2.length c2) := HF.out.cellR rfl
  refine bodyPost_ret (v := .agg #[.int .i64 x1, .slice A2 x2.length c2]) (by unfold results; rw [Try.results55]; simp [go_sem, q0, q1]) rfl ?_
  refine Got.some (x := (⟨x1, x2⟩ : PastM)) ?_ HF.out.grown ⟨_, rfl, HV.out⟩ HF.out.rb
  simp only [pastP, mapP, bindP, HX1.out, HX2.out]
end Go.Proofs.Ytlbhkendbngmaaa.Wi
