/- Layer 16: the reader: what a variable becomes. -/
import Derived.Test.YtlbhkendbngmaaaJp
namespace Go.Proofs.Ytlbhkendbngmaaa.Wi
open Go.RowKit
set_option maxRecDepth 100000

theorem places_r {g : Nat} {s : Bytes} {w : World} (h : RB g s w) (hs : s.length ≤ 4611686018427387904) :
    Calls Try.prog 51 #[wp_ g] w fun e w' => Got g s listP (fun l v w' => w'.ownsRow w.heap.size 3 1 v l.length (intV l)) w e w' := by
  have HX := Lib.hid (ints_r h hs)
  unfold wp_ mR at *
  clear h
  have hmf : ∀ (fn : Fn) (first cap : Array Value) (w : World), (Instr.makeFunc fn first cap).run Try.prog w = .ok (.func fn first cap) w := fun _ _ _ _ => rfl
  go_enter Try.func51, Try.ntmps51
  go_wp2_with fail
  refine HX.out.mono ?_
  intro e w1 h1
  rcases h1.split with ⟨x, r, v, hp, rfl, hv, hr, hg⟩ | ⟨hp, rfl, hg⟩
  · obtain ⟨A, c, rfl⟩ := own_form hv
    have HP := Lib.hid hp; have HR := Lib.hid hr; have HG := Lib.hid hg; have HV := Lib.hid hv
    clear hp hr hg h1 HX hv
    go_wp2
    go_ret
    exact Got.some HP.out HG.out HV.out HR.out
  · exact ⟨rfl, Got.none hp hg⟩
/-- a result's box K and a variable's K + 1, beside the reader's -/
structure Sl (w : World) (g K : Nat) (T : TypeId) (z cur : Array Value) (s : Bytes) (W : World) : Prop where
  grown : w.grownBy W (some g)
  rb : RB g s W
  res : W.heap[K]? = some (.cells z T (0, 0))
  var : W.heap[K + 1]? = some (.cells cur T (0, 0))
section
variable {w W W' : World} {g K : Nat} {T : TypeId} {z cur : Array Value} {s r : Bytes}
theorem Sl.start (h : RB g s w) (z : Array Value) (T : TypeId) : Sl w g w.heap.size T z z s ((w.alloc (.cells z T)).alloc (.cells z T)) := by
  have hb1 : Below w.heap.size w (w.alloc (.cells z T)) := (Below.refl _ _).alloc (Nat.le_refl _) _
  have hs1 : (w.alloc (.cells z T)).heap.size = w.heap.size + 1 := by simp
  have hb2 : Below (w.alloc (.cells z T)).heap.size (w.alloc (.cells z T)) ((w.alloc (.cells z T)).alloc (.cells z T)) := (Below.refl _ _).alloc (Nat.le_refl _) _
  have hb3 : Below w.heap.size w ((w.alloc (.cells z T)).alloc (.cells z T)) := hb1.trans (hb2.mono (by omega))
  refine ⟨grown_below hb3 _, h.below hb3, (hb2.block _ (by omega)).trans (heap_alloc_new w _), ?_⟩
  have := heap_alloc_new (w.alloc (.cells z T)) (.cells z T)
  rw [hs1] at this
  exact this
theorem Sl.call (h : Sl w g K T z cur s W) (hK : g < K) (hg : W.grownBy W' (some g)) (hr : RB g r W') : Sl w g K T z cur r W' :=
  ⟨grown_trans h.grown hg, hr, (hg.block K (lt_of_heap h.res) (fun e => by have := Option.some.inj e; omega)).trans h.res, (hg.block (K + 1) (lt_of_heap h.var) (fun e => by have := Option.some.inj e; omega)).trans h.var⟩
theorem grown_other {w W : World} {g b j : Nat} (hg : w.grownBy W (some g)) (hb : w.heap.size ≤ b) (v : Value) : w.grownBy (W.setCell ⟨b, j, none⟩ v) (some g) := by
  have h := grown_set W b j v
  have hs := hg.size
  exact ⟨h.os.trans hg.os, h.tape.trans hg.tape, h.output.trans hg.output, Nat.le_trans hs h.size, fun q hq hr => (h.block q (by omega) (fun e => by have := Option.some.inj e; omega)).trans (hg.block q hq hr)⟩
theorem Sl.set (h : Sl w g K T z cur s W) (hK : g < K) (hw : w.heap.size ≤ K) (j : Nat) (v : Value) : Sl w g K T z (cur.setIfInBounds j v) s (W.setCell ⟨K + 1, j, none⟩ v) := by
  have hb := grown_set W (K + 1) j v
  refine ⟨grown_other h.grown (by omega) v, (hb.block g h.rb.lt (fun e => by have := Option.some.inj e; omega)).trans h.rb, (hb.block K (lt_of_heap h.res) (fun e => by have := Option.some.inj e; omega)).trans h.res, ?_⟩
  rw [heap_setCell_same W (K + 1) j _ _ _ h.var]
theorem Sl.cell (h : Sl w g K T z cur s W) {j : Nat} {x : Value} (hx : cur[j]? = some x) : W.cell? ⟨K + 1, j, none⟩ = some x := (cell_of_row W _ j _ _ _ h.var).trans hx
theorem Sl.frozen (h : Sl w g K T z cur s W) (j : Nat) : W.frozen? ⟨K + 1, j, none⟩ = false := frozen_of_row W _ j _ _ h.var
theorem Sl.cellR (h : Sl w g K T z cur s W) {j : Nat} {x : Value} (hx : z[j]? = some x) : W.cell? ⟨K, j, none⟩ = some x := (cell_of_row W _ j _ _ _ h.res).trans hx
theorem Sl.frozenR (h : Sl w g K T z cur s W) (j : Nat) : W.frozen? ⟨K, j, none⟩ = false := frozen_of_row W _ j _ _ h.res
end
def z4 : Array Value := #[.int .i64 0, .int .i64 0, .int .i64 0, .int .i64 0]
theorem wide_wrap {n : Nat} (h : n < 18446744073709551616) : IntKind.i64.wrap (n : Int) = wideI n := by
  unfold wideI
  simp [IntKind.wrap, IntKind.bits, IntKind.signed]
  split <;> split <;> omega
theorem Sl.put {w W : World} {g K : Nat} {T : TypeId} {z cur : Array Value} {s : Bytes} (h : Sl w g K T z cur s W) (hK : g < K) (hw : w.heap.size ≤ K) (j : Nat) (v : Value) : Sl w g K T (z.setIfInBounds j v) cur s (W.setCell ⟨K, j, none⟩ v) := by
  have hb := grown_set W K j v
  refine ⟨grown_other h.grown hw v, (hb.block g h.rb.lt (fun e => by have := Option.some.inj e; omega)).trans h.rb, ?_, (hb.block (K + 1) (lt_of_heap h.var) (fun e => by have := Option.some.inj e; omega)).trans h.var⟩
  rw [heap_setCell_same W K j _ _ _ h.res]
theorem small13 : guardP (fun k : Int => decide (1 ≤ k)) (intP 3) = smallR 1 3 := rfl
theorem small19 : guardP (fun k : Int => decide (1 ≤ k)) (intP 9) = smallR 1 9 := rfl
set_option maxHeartbeats 1600000 in
theorem set_r {g : Nat} {s : Bytes} {w : World} (h : RB g s w) (hs : s.length ≤ 4611686018427387904) :
    Calls Try.prog 53 #[wp_ g] w fun e w' => Got g s setP (fun x v _ => v = .agg (setV x).toArray) w e w' := by
  have hs0 := Sl.start h z4 66
  have hgl := h.lt
  obtain ⟨w1, hw1⟩ : ∃ W, W = (w.alloc (.cells z4 66)).alloc (.cells z4 66) := ⟨_, rfl⟩
  rw [← hw1] at hs0
  unfold z4 at hw1
  obtain ⟨K, hK⟩ : ∃ K, K = w.heap.size := ⟨_, rfl⟩
  rw [← hK] at hs0
  have hwK : w.heap.size ≤ K := by omega
  have hgK : g < K := by omega
  have HC1 := Lib.hid (place_r hs0.rb (by omega))
  have HS1 := Lib.hid hs0; have HW1 := Lib.hid hw1; have HK := Lib.hid hK
  clear hs0 hw1 h hK
  unfold wp_ at *
  go_enter Try.func53, Try.ntmps53
  go_upto_region 2 with fail
  rw [← HW1.out, ← HK.out]
  go_wp2_with fail
  refine HC1.out.mono ?_
  intro e u1 h2
  rcases h2.split with ⟨x1, r1, v, hp, rfl, rfl, hr, hg⟩ | ⟨hp, rfl, hg⟩
  rotate_left
  · exact ⟨rfl, Got.none (by simp only [setP, mapP, bindP, hp]) (grown_trans HS1.out.grown hg)⟩
  have hs1 := HS1.out.call hgK hg hr
  have f0 := hs1.frozen 0
  have hs2 := hs1.set hgK hwK 0 (.int .i64 x1)
  obtain ⟨w2, hw⟩ : ∃ W, W = u1.setCell ⟨K + 1, 0, none⟩ (.int .i64 x1) := ⟨_, rfl⟩
  rw [← hw] at hs2
  have c0 : u1.cell? ⟨K + 1, 0, none⟩ = some (.int .i64 0) := hs1.cell rfl
  have hl1 : r1.length ≤ s.length := left_le (int_reads 63 (by decide)) hp
  have hgw : u1.grownBy w2 (some (K + 1)) := by rw [hw]; exact grown_set _ _ _ _
  have HW2 := Lib.hid hw; have HS2 := Lib.hid hs2; have HX1 := Lib.hid hp
  have HC2 := Lib.hid (small_r hs2.rb 1 3 (by omega))
  clear hs1 hs2 hw hp hr hg h2 HC1 HS1 hgw 
  unfold wp_ at HC2
  go_upto_region 3 with fail
  rw [← HW2.out]
  clear c0 f0
  go_wp2_with fail
  refine HC2.out.mono ?_
  intro e u2 h2
  rcases h2.split with ⟨x2, r2, v, hp, rfl, rfl, hr, hg⟩ | ⟨hp, rfl, hg⟩
  rotate_left
  · exact ⟨rfl, Got.none (by simp only [setP, mapP, bindP, small13, HX1.out, hp]) (grown_trans HS2.out.grown hg)⟩
  have hs1 := HS2.out.call hgK hg hr
  have f0 := hs1.frozen 1
  have hs2 := hs1.set hgK hwK 1 (.int .i64 x2)
  obtain ⟨w3, hw⟩ : ∃ W, W = u2.setCell ⟨K + 1, 1, none⟩ (.int .i64 x2) := ⟨_, rfl⟩
  rw [← hw] at hs2
  have c0 : u2.cell? ⟨K + 1, 1, none⟩ = some (.int .i64 0) := hs1.cell rfl
  have hl2 : r2.length ≤ r1.length := left_le (guard_reads _ (int_reads 3 (by decide))) hp
  have hgw : u2.grownBy w3 (some (K + 1)) := by rw [hw]; exact grown_set _ _ _ _
  have HW3 := Lib.hid hw; have HS3 := Lib.hid hs2; have HX2 := Lib.hid hp
  have HC3 := Lib.hid (eight_r hs2.rb (by omega))
  clear hs1 hs2 hw hp hr hg h2 HC2 HS2 hgw 
  unfold wp_ at HC3
  go_upto_region 4 with fail
  rw [← HW3.out]
  clear c0 f0
  go_wp2_with fail
  refine HC3.out.mono ?_
  intro e u3 h2
  rcases h2.split with ⟨x3, r3, v, hp, rfl, ⟨rfl, hn⟩, hr, hg⟩ | ⟨hp, rfl, hg⟩
  rotate_left
  · exact ⟨rfl, Got.none (by simp only [setP, mapP, bindP, wideP, small13, HX1.out, HX2.out, hp]) (grown_trans HS3.out.grown hg)⟩
  have hy : IntKind.i64.wrap (x3 : Int) = wideI x3 := wide_wrap hn
  obtain ⟨y3, hyy⟩ : ∃ y, y = wideI x3 := ⟨_, rfl⟩
  rw [← hyy] at hy
  have HY3 := Lib.hid hyy
  clear hyy hn
  have hs1 := HS3.out.call hgK hg hr
  have f0 := hs1.frozen 2
  have hs2 := hs1.set hgK hwK 2 (.int .i64 y3)
  obtain ⟨w4, hw⟩ : ∃ W, W = u3.setCell ⟨K + 1, 2, none⟩ (.int .i64 y3) := ⟨_, rfl⟩
  rw [← hw] at hs2
  have c0 : u3.cell? ⟨K + 1, 2, none⟩ = some (.int .i64 0) := hs1.cell rfl
  have hl3 : r3.length ≤ r2.length := left_le num_reads hp
  have hgw : u3.grownBy w4 (some (K + 1)) := by rw [hw]; exact grown_set _ _ _ _
  have HW4 := Lib.hid hw; have HS4 := Lib.hid hs2; have HX3 := Lib.hid hp
  have HC4 := Lib.hid (eight_r hs2.rb (by omega))
  clear hs1 hs2 hw hp hr hg h2 HC3 HS3 hgw 
  unfold wp_ at HC4
  go_upto_region 5 with fail
  rw [← HW4.out]
  clear c0 f0 hy
  go_wp2_with fail
  refine HC4.out.mono ?_
  intro e u4 h2
  rcases h2.split with ⟨x4, r4, v, hp, rfl, ⟨rfl, hn⟩, hr, hg⟩ | ⟨hp, rfl, hg⟩
  rotate_left
  · exact ⟨rfl, Got.none (by simp only [setP, mapP, bindP, wideP, small13, HX1.out, HX2.out, HX3.out, hp]) (grown_trans HS4.out.grown hg)⟩
  have hy : IntKind.i64.wrap (x4 : Int) = wideI x4 := wide_wrap hn
  obtain ⟨y4, hyy⟩ : ∃ y, y = wideI x4 := ⟨_, rfl⟩
  rw [← hyy] at hy
  have HY4 := Lib.hid hyy
  clear hyy hn
  have hs1 := HS4.out.call hgK hg hr
  have f0 := hs1.frozen 3
  have hs2 := hs1.set hgK hwK 3 (.int .i64 y4)
  obtain ⟨w5, hw⟩ : ∃ W, W = u4.setCell ⟨K + 1, 3, none⟩ (.int .i64 y4) := ⟨_, rfl⟩
  rw [← hw] at hs2
  have c0 : u4.cell? ⟨K + 1, 3, none⟩ = some (.int .i64 0) := hs1.cell rfl
  have hl4 : r4.length ≤ r3.length := left_le num_reads hp
  have hgw : u4.grownBy w5 (some (K + 1)) := by rw [hw]; exact grown_set _ _ _ _
  have HW5 := Lib.hid hw; have HS5 := Lib.hid hs2; have HX4 := Lib.hid hp
  clear hs1 hs2 hw hp hr hg h2 HC4 HS4 hgw 
  go_upto_region 6 with fail
  rw [← HW5.out]
  clear c0 f0 hy
  have d0 : w5.cell? ⟨K + 1, 0, none⟩ = some (.int .i64 x1) := HS5.out.cell rfl
  have d1 : w5.cell? ⟨K + 1, 1, none⟩ = some (.int .i64 x2) := HS5.out.cell rfl
  have d2 : w5.cell? ⟨K + 1, 2, none⟩ = some (.int .i64 y3) := HS5.out.cell rfl
  have d3 : w5.cell? ⟨K + 1, 3, none⟩ = some (.int .i64 y4) := HS5.out.cell rfl
  have e0 : w5.cell? ⟨K, 0, none⟩ = some (.int .i64 0) := HS5.out.cellR rfl
  have e1 : w5.cell? ⟨K, 1, none⟩ = some (.int .i64 0) := HS5.out.cellR rfl
  have e2 : w5.cell? ⟨K, 2, none⟩ = some (.int .i64 0) := HS5.out.cellR rfl
  have e3 : w5.cell? ⟨K, 3, none⟩ = some (.int .i64 0) := HS5.out.cellR rfl
  have k0 := HS5.out.frozenR 0
  have k1 := HS5.out.frozenR 1
  have k2 := HS5.out.frozenR 2
  have k3 := HS5.out.frozenR 3
  have hf := (((HS5.out.put hgK hwK 0 (.int .i64 x1)).put hgK hwK 1 (.int .i64 x2)).put hgK hwK 2 (.int .i64 y3)).put hgK hwK 3 (.int .i64 y4)
  obtain ⟨WF, hWF⟩ : ∃ W, W = (((w5.setCell ⟨K, 0, none⟩ (.int .i64 x1)).setCell ⟨K, 1, none⟩ (.int .i64 x2)).setCell ⟨K, 2, none⟩ (.int .i64 y3)).setCell ⟨K, 3, none⟩ (.int .i64 y4) := ⟨_, rfl⟩
  rw [← hWF] at hf
  have HF := Lib.hid hf; have HWF := Lib.hid hWF
  clear hf hWF HS5
  go_wp2
  rw [← HWF.out]
  have q0 : WF.cell? ⟨K, 0, none⟩ = some (.int .i64 x1) := HF.out.cellR rfl
  have q1 : WF.cell? ⟨K, 1, none⟩ = some (.int .i64 x2) := HF.out.cellR rfl
  have q2 : WF.cell? ⟨K, 2, none⟩ = some (.int .i64 y3) := HF.out.cellR rfl
  have q3 : WF.cell? ⟨K, 3, none⟩ = some (.int .i64 y4) := HF.out.cellR rfl
  refine bodyPost_ret (v := .agg #[.int .i64 x1, .int .i64 x2, .int .i64 y3, .int .i64 y4]) (by unfold results; rw [Try.results53]; simp [go_sem, q0, q1, q2, q3]) rfl ?_
  refine Got.some (x := (⟨x1, x2, y3, y4⟩ : SetM)) ?_ HF.out.grown rfl HF.out.rb
  simp only [setP, mapP, bindP, wideP, small13, HX1.out, HX2.out, HX3.out, HX4.out, HY3.out, HY4.out]
end Go.Proofs.Ytlbhkendbngmaaa.Wi
