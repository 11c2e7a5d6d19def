/- Layer 16: Decode. -/
import Derived.Test.YtlbhkendbngmaaaJu
namespace Go.Proofs.Ytlbhkendbngmaaa.Wi
open Go.RowKit
set_option maxRecDepth 100000

section
variable {M : Nat} {vs : Array Value} {e : Value} {W W' : World}
theorem Box2.cellM (h : Box2 M vs e W) {j : Nat} {x : Value} (hx : vs[j]? = some x) : W.cell? ⟨M, j, none⟩ = some x := (cell_of_row W _ j _ _ _ h.msg).trans hx
theorem Box2.cellE (h : Box2 M vs e W) : W.cell? ⟨M + 1, 0, none⟩ = some e := (cell_of_row W _ 0 _ _ _ h.err).trans rfl
theorem Box2.frozenM (h : Box2 M vs e W) (j : Nat) : W.frozen? ⟨M, j, none⟩ = false := frozen_of_row W _ j _ _ h.msg
theorem Box2.frozenE (h : Box2 M vs e W) : W.frozen? ⟨M + 1, 0, none⟩ = false := frozen_of_row W _ 0 _ _ h.err
theorem Box2.grown {g : Nat} (h : Box2 M vs e W) (hg : W.grownBy W' (some g)) (h1 : M + 1 < g) : Box2 M vs e W' :=
  ⟨(hg.block M (lt_of_heap h.msg) (fun e => by have := Option.some.inj e; omega)).trans h.msg, (hg.block (M + 1) (lt_of_heap h.err) (fun e => by have := Option.some.inj e; omega)).trans h.err⟩
theorem Box2.start (w : World) (vs : Array Value) (e : Value) : Box2 w.heap.size vs e ((w.alloc (.cells vs 27)).alloc (.cells #[e] 28)) := by
  have hs1 : (w.alloc (.cells vs 27)).heap.size = w.heap.size + 1 := by simp
  have hb2 : Below (w.alloc (.cells vs 27)).heap.size (w.alloc (.cells vs 27)) ((w.alloc (.cells vs 27)).alloc (.cells #[e] 28)) := (Below.refl _ _).alloc (Nat.le_refl _) _
  refine ⟨(hb2.block _ (by omega)).trans (heap_alloc_new w _), ?_⟩
  have := heap_alloc_new (w.alloc (.cells vs 27)) (.cells #[e] 28)
  rw [hs1] at this
  exact this
end
theorem no_msg (B : Nat) (w : World) : MsgO B w noMsg (.agg z9) := ⟨_, _, _, _, _, _, rfl, by decide, World.ownsRow_nil _ _ _ _, World.ownsRow_nil _ _ _ _, World.ownsRow_nil _ _ _ _, World.ownsRow_nil _ _ _ _, World.ownsRow_nil _ _ _ _, PR.nil _ _⟩
theorem decode_msg {s : Bytes} {m : MsgM} (h : ¬ 800 < s.length) (hp : msgP s = some (m, [])) : decodeM s = (m, 0) := by unfold decodeM; rw [if_neg h, hp]
theorem decode_no {s : Bytes} (h : ¬ 800 < s.length) (hp : msgP s = none) : decodeM s = (noMsg, 1) := by unfold decodeM; rw [if_neg h, hp]
theorem decode_more {s : Bytes} {m : MsgM} {r : Bytes} (h : ¬ 800 < s.length) (hp : msgP s = some (m, r)) (hr : r ≠ []) : decodeM s = (noMsg, 1) := by
  unfold decodeM; rw [if_neg h, hp]
  cases r with
  | nil => exact absurd rfl hr
  | cons b r => rfl
theorem low_grown {B g : Nat} {w W W' : World} (h : Below B w W) (hg : W.grownBy W' (some g)) (hB : B ≤ g) (hW : B ≤ W.heap.size) : Below B w W' :=
  ⟨hg.os.trans h.os, hg.tape.trans h.tape, hg.output.trans h.output, Nat.le_trans h.size hg.size, fun k hk => (hg.block k (Nat.lt_of_lt_of_le hk hW) (fun e => by have := Option.some.inj e; omega)).trans (h.block k hk)⟩
set_option maxHeartbeats 2000000 in
theorem decode_any (s : ByteArray) (w : World) (hs : s.size ≤ 4611686018427387904) :
    Calls Try.prog 13 #[.string s] w fun e w' => (∃ v, e = .returned (.tuple #[v, .int .i64 (decodeM s.data.toList).2]) ∧ MsgO w.heap.size w' (decodeM s.data.toList).1 v) ∧ Below w.heap.size w w' := by
  have hmf : ∀ (fn : Fn) (first cap : Array Value) (w : World), (Instr.makeFunc fn first cap).run Try.prog w = .ok (.func fn first cap) w := fun _ _ _ _ => rfl
  have hl : s.data.toList.length = s.size := (Lib.size_eq s).symm
  have HL := Lib.hid hl
  clear hl
  obtain ⟨M, hM⟩ : ∃ M, M = w.heap.size := ⟨_, rfl⟩
  have HM := Lib.hid hM
  by_cases h8 : 800 < s.size
  · have h9 : (800 : Int) < s.size := by omega
    have hd : decodeM s.data.toList = (noMsg, 4) := by unfold decodeM; rw [if_pos (by rw [HL.out]; exact h8)]
    have HD := Lib.hid hd
    obtain ⟨w2, hw2⟩ : ∃ W, W = (w.alloc (.cells #[.int .i64 0, .int .u64 0, .string ⟨#[]⟩, .slice none 0 0, .slice none 0 0, .slice none 0 0, .slice none 0 0, .slice none 0 0, .slice none 0 0] 27)).alloc (.cells #[.int .i64 4] 28) := ⟨_, rfl⟩
    have hb := Box2.start w #[.int .i64 0, .int .u64 0, .string ⟨#[]⟩, .slice none 0 0, .slice none 0 0, .slice none 0 0, .slice none 0 0, .slice none 0 0, .slice none 0 0] (.int .i64 4)
    have hlow : Below w.heap.size w w2 := by rw [hw2]; exact ((Below.refl _ _).alloc (Nat.le_refl _) _).alloc (by simp) _
    rw [← hw2, ← hM] at hb
    have HB := Lib.hid hb; have HW := Lib.hid hw2; have HLO := Lib.hid hlow
    clear hb hw2 hlow hM hd
    go_enter_defers Try.func13, Try.ntmps13
    go_wp2
    rw [← HW.out, ← HM.out]
    have q0 : w2.cell? ⟨M, 0, none⟩ = some (.int .i64 0) := HB.out.cellM rfl
    have q1 : w2.cell? ⟨M, 1, none⟩ = some (.int .u64 0) := HB.out.cellM rfl
    have q2 : w2.cell? ⟨M, 2, none⟩ = some (.string ⟨#[]⟩) := HB.out.cellM rfl
    have q3 : w2.cell? ⟨M, 3, none⟩ = some (.slice none 0 0) := HB.out.cellM rfl
    have q4 : w2.cell? ⟨M, 4, none⟩ = some (.slice none 0 0) := HB.out.cellM rfl
    have q5 : w2.cell? ⟨M, 5, none⟩ = some (.slice none 0 0) := HB.out.cellM rfl
    have q6 : w2.cell? ⟨M, 6, none⟩ = some (.slice none 0 0) := HB.out.cellM rfl
    have q7 : w2.cell? ⟨M, 7, none⟩ = some (.slice none 0 0) := HB.out.cellM rfl
    have q8 : w2.cell? ⟨M, 8, none⟩ = some (.slice none 0 0) := HB.out.cellM rfl
    have q9 : w2.cell? ⟨M + 1, 0, none⟩ = some (.int .i64 4) := HB.out.cellE

    simp [bodyPostD, Leaves, results, Try.results13, go_sem, q0, q1, q2, q3, q4, q5, q6, q7, q8, q9]
    rw [HD.out]
    refine ⟨⟨.agg z9, ⟨rfl, rfl⟩, no_msg _ _⟩, ?_⟩
    rw [HM.out]
    exact HLO.out
  · have h9 : ¬ (800 : Int) < s.size := by omega
    have h80 : ¬ 800 < s.data.toList.length := by rw [HL.out]; exact h8
    obtain ⟨w1, hw1⟩ : ∃ W, W = (w.alloc (.cells #[.int .i64 0, .int .u64 0, .string ⟨#[]⟩, .slice none 0 0, .slice none 0 0, .slice none 0 0, .slice none 0 0, .slice none 0 0, .slice none 0 0] 27)).alloc (.cells #[.int .i64 0] 28) := ⟨_, rfl⟩
    have hb := Box2.start w #[.int .i64 0, .int .u64 0, .string ⟨#[]⟩, .slice none 0 0, .slice none 0 0, .slice none 0 0, .slice none 0 0, .slice none 0 0, .slice none 0 0] (.int .i64 0)
    have hlow : Below w.heap.size w w1 := by rw [hw1]; exact ((Below.refl _ _).alloc (Nat.le_refl _) _).alloc (by simp) _
    have hsz : w1.heap.size = M + 2 := by rw [hw1, hM]; simp
    rw [← hw1, ← hM] at hb
    obtain ⟨w2, hw2⟩ : ∃ W, W = w1.alloc (.cells #[.string s] 70) := ⟨_, rfl⟩
    have hb2 : Below w1.heap.size w1 w2 := by rw [hw2]; exact (Below.refl _ _).alloc (Nat.le_refl _) _
    have hbx : Box2 M #[.int .i64 0, .int .u64 0, .string ⟨#[]⟩, .slice none 0 0, .slice none 0 0, .slice none 0 0, .slice none 0 0, .slice none 0 0, .slice none 0 0] (.int .i64 0) w2 := hb.grown (g := M + 2) (grown_below hb2 _) (by omega)
    have hlow2 : Below M w w2 := by rw [hM]; exact hlow.trans (hb2.mono (by omega))
    have hrb : RB (M + 2) s.data.toList w2 := by
      have := heap_alloc_new w1 (.cells #[.string s] 70)
      rw [← hw2, hsz] at this
      exact this
    have hrl : s.data.toList.length ≤ 1000000 := by omega
    have hmsg := message_r hrb hrl
    have hz2 := hrb.lt
    have HMS := Lib.hid hmsg
    have HW1 := Lib.hid hw1; have HW2 := Lib.hid hw2; have HB := Lib.hid hbx; have HLO := Lib.hid hlow2
    have H80 := Lib.hid h80
    clear hb hlow hsz hw1 hw2 hb2 hbx hlow2 hrb hmsg hrl h80 hM
    unfold wp_ at HMS
    go_enter_defers Try.func13, Try.ntmps13
    go_upto_region 5 with fail
    rw [← HW1.out, ← HW2.out, ← HM.out]
    go_wp2_with fail
    refine HMS.out.mono ?_
    intro e w3 h3
    rcases h3.split with ⟨m, r, v, hp, rfl, hv, hr, hg⟩ | ⟨hp, rfl, hg⟩
    · obtain ⟨t1, t2, t3, t4, t5, t6, rfl, hstep, o1, o2, o3, o4, o5, o6⟩ := hv
      obtain ⟨A1, C1, rfl⟩ := own_form o1
      obtain ⟨A2, C2, rfl⟩ := own_form o2
      obtain ⟨A3, C3, rfl⟩ := own_form o3
      obtain ⟨A4, C4, rfl⟩ := own_form o4
      obtain ⟨A5, C5, rfl⟩ := own_form o5
      obtain ⟨A6, C6, rfl⟩ := pasts_form o6
      have hbx := HB.out.grown hg (by omega)
      have hlo3 := low_grown HLO.out hg (by omega) (by omega)
      have b0 : Box2 M #[.int .i64 m.kd, .int .u64 0, .string ⟨#[]⟩, .slice none 0 0, .slice none 0 0, .slice none 0 0, .slice none 0 0, .slice none 0 0, .slice none 0 0] (.int .i64 0) ((w3).setCell ⟨M, 0, none⟩ (.int .i64 m.kd)) := (hbx).put 0 (.int .i64 m.kd)
      have b1 : Box2 M #[.int .i64 m.kd, .int .u64 m.step, .string ⟨#[]⟩, .slice none 0 0, .slice none 0 0, .slice none 0 0, .slice none 0 0, .slice none 0 0, .slice none 0 0] (.int .i64 0) (((w3).setCell ⟨M, 0, none⟩ (.int .i64 m.kd)).setCell ⟨M, 1, none⟩ (.int .u64 m.step)) := (b0).put 1 (.int .u64 m.step)
      have b2 : Box2 M #[.int .i64 m.kd, .int .u64 m.step, .string ⟨m.ev.toArray⟩, .slice none 0 0, .slice none 0 0, .slice none 0 0, .slice none 0 0, .slice none 0 0, .slice none 0 0] (.int .i64 0) ((((w3).setCell ⟨M, 0, none⟩ (.int .i64 m.kd)).setCell ⟨M, 1, none⟩ (.int .u64 m.step)).setCell ⟨M, 2, none⟩ (.string ⟨m.ev.toArray⟩)) := (b1).put 2 (.string ⟨m.ev.toArray⟩)
      have b3 : Box2 M #[.int .i64 m.kd, .int .u64 m.step, .string ⟨m.ev.toArray⟩, .slice A1 m.tr.length C1, .slice none 0 0, .slice none 0 0, .slice none 0 0, .slice none 0 0, .slice none 0 0] (.int .i64 0) (((((w3).setCell ⟨M, 0, none⟩ (.int .i64 m.kd)).setCell ⟨M, 1, none⟩ (.int .u64 m.step)).setCell ⟨M, 2, none⟩ (.string ⟨m.ev.toArray⟩)).setCell ⟨M, 3, none⟩ (.slice A1 m.tr.length C1)) := (b2).put 3 (.slice A1 m.tr.length C1)
      have b4 : Box2 M #[.int .i64 m.kd, .int .u64 m.step, .string ⟨m.ev.toArray⟩, .slice A1 m.tr.length C1, .slice A2 m.ss.length C2, .slice none 0 0, .slice none 0 0, .slice none 0 0, .slice none 0 0] (.int .i64 0) ((((((w3).setCell ⟨M, 0, none⟩ (.int .i64 m.kd)).setCell ⟨M, 1, none⟩ (.int .u64 m.step)).setCell ⟨M, 2, none⟩ (.string ⟨m.ev.toArray⟩)).setCell ⟨M, 3, none⟩ (.slice A1 m.tr.length C1)).setCell ⟨M, 4, none⟩ (.slice A2 m.ss.length C2)) := (b3).put 4 (.slice A2 m.ss.length C2)
      have b5 : Box2 M #[.int .i64 m.kd, .int .u64 m.step, .string ⟨m.ev.toArray⟩, .slice A1 m.tr.length C1, .slice A2 m.ss.length C2, .slice A3 m.en.length C3, .slice none 0 0, .slice none 0 0, .slice none 0 0] (.int .i64 0) (((((((w3).setCell ⟨M, 0, none⟩ (.int .i64 m.kd)).setCell ⟨M, 1, none⟩ (.int .u64 m.step)).setCell ⟨M, 2, none⟩ (.string ⟨m.ev.toArray⟩)).setCell ⟨M, 3, none⟩ (.slice A1 m.tr.length C1)).setCell ⟨M, 4, none⟩ (.slice A2 m.ss.length C2)).setCell ⟨M, 5, none⟩ (.slice A3 m.en.length C3)) := (b4).put 5 (.slice A3 m.en.length C3)
      have b6 : Box2 M #[.int .i64 m.kd, .int .u64 m.step, .string ⟨m.ev.toArray⟩, .slice A1 m.tr.length C1, .slice A2 m.ss.length C2, .slice A3 m.en.length C3, .slice A4 m.vs.length C4, .slice none 0 0, .slice none 0 0] (.int .i64 0) ((((((((w3).setCell ⟨M, 0, none⟩ (.int .i64 m.kd)).setCell ⟨M, 1, none⟩ (.int .u64 m.step)).setCell ⟨M, 2, none⟩ (.string ⟨m.ev.toArray⟩)).setCell ⟨M, 3, none⟩ (.slice A1 m.tr.length C1)).setCell ⟨M, 4, none⟩ (.slice A2 m.ss.length C2)).setCell ⟨M, 5, none⟩ (.slice A3 m.en.length C3)).setCell ⟨M, 6, none⟩ (.slice A4 m.vs.length C4)) := (b5).put 6 (.slice A4 m.vs.length C4)
      have b7 : Box2 M #[.int .i64 m.kd, .int .u64 m.step, .string ⟨m.ev.toArray⟩, .slice A1 m.tr.length C1, .slice A2 m.ss.length C2, .slice A3 m.en.length C3, .slice A4 m.vs.length C4, .slice A5 m.sets.length C5, .slice none 0 0] (.int .i64 0) (((((((((w3).setCell ⟨M, 0, none⟩ (.int .i64 m.kd)).setCell ⟨M, 1, none⟩ (.int .u64 m.step)).setCell ⟨M, 2, none⟩ (.string ⟨m.ev.toArray⟩)).setCell ⟨M, 3, none⟩ (.slice A1 m.tr.length C1)).setCell ⟨M, 4, none⟩ (.slice A2 m.ss.length C2)).setCell ⟨M, 5, none⟩ (.slice A3 m.en.length C3)).setCell ⟨M, 6, none⟩ (.slice A4 m.vs.length C4)).setCell ⟨M, 7, none⟩ (.slice A5 m.sets.length C5)) := (b6).put 7 (.slice A5 m.sets.length C5)
      have b8 : Box2 M #[.int .i64 m.kd, .int .u64 m.step, .string ⟨m.ev.toArray⟩, .slice A1 m.tr.length C1, .slice A2 m.ss.length C2, .slice A3 m.en.length C3, .slice A4 m.vs.length C4, .slice A5 m.sets.length C5, .slice A6 m.pasts.length C6] (.int .i64 0) ((((((((((w3).setCell ⟨M, 0, none⟩ (.int .i64 m.kd)).setCell ⟨M, 1, none⟩ (.int .u64 m.step)).setCell ⟨M, 2, none⟩ (.string ⟨m.ev.toArray⟩)).setCell ⟨M, 3, none⟩ (.slice A1 m.tr.length C1)).setCell ⟨M, 4, none⟩ (.slice A2 m.ss.length C2)).setCell ⟨M, 5, none⟩ (.slice A3 m.en.length C3)).setCell ⟨M, 6, none⟩ (.slice A4 m.vs.length C4)).setCell ⟨M, 7, none⟩ (.slice A5 m.sets.length C5)).setCell ⟨M, 8, none⟩ (.slice A6 m.pasts.length C6)) := (b7).put 8 (.slice A6 m.pasts.length C6)
      obtain ⟨w4, hw4⟩ : ∃ W, W = (((((((((w3).setCell ⟨M, 0, none⟩ (.int .i64 m.kd)).setCell ⟨M, 1, none⟩ (.int .u64 m.step)).setCell ⟨M, 2, none⟩ (.string ⟨m.ev.toArray⟩)).setCell ⟨M, 3, none⟩ (.slice A1 m.tr.length C1)).setCell ⟨M, 4, none⟩ (.slice A2 m.ss.length C2)).setCell ⟨M, 5, none⟩ (.slice A3 m.en.length C3)).setCell ⟨M, 6, none⟩ (.slice A4 m.vs.length C4)).setCell ⟨M, 7, none⟩ (.slice A5 m.sets.length C5)).setCell ⟨M, 8, none⟩ (.slice A6 m.pasts.length C6) := ⟨_, rfl⟩
      have b9 : Box2 M #[.int .i64 m.kd, .int .u64 m.step, .string ⟨m.ev.toArray⟩, .slice A1 m.tr.length C1, .slice A2 m.ss.length C2, .slice A3 m.en.length C3, .slice A4 m.vs.length C4, .slice A5 m.sets.length C5, .slice A6 m.pasts.length C6] (.int .i64 0) w4 := by rw [hw4]; exact b8
      have hlo4 : Below M w w4 := by rw [hw4]; exact low_set (low_set (low_set (low_set (low_set (low_set (low_set (low_set (low_set (hlo3) (Nat.le_refl M) (.int .i64 m.kd)) (Nat.le_refl M) (.int .u64 m.step)) (Nat.le_refl M) (.string ⟨m.ev.toArray⟩)) (Nat.le_refl M) (.slice A1 m.tr.length C1)) (Nat.le_refl M) (.slice A2 m.ss.length C2)) (Nat.le_refl M) (.slice A3 m.en.length C3)) (Nat.le_refl M) (.slice A4 m.vs.length C4)) (Nat.le_refl M) (.slice A5 m.sets.length C5)) (Nat.le_refl M) (.slice A6 m.pasts.length C6)
      have hoth : w3.grownBy w4 (some M) := by
        rw [hw4]
        exact grown_trans (grown_trans (grown_trans (grown_trans (grown_trans (grown_trans (grown_trans (grown_trans (grown_trans (grown_refl w3 (some M)) (grown_set _ M 0 _)) (grown_set _ M 1 _)) (grown_set _ M 2 _)) (grown_set _ M 3 _)) (grown_set _ M 4 _)) (grown_set _ M 5 _)) (grown_set _ M 6 _)) (grown_set _ M 7 _)) (grown_set _ M 8 _)
      have hr4 : RB (M + 2) r w4 := (hoth.block (M + 2) hr.lt (fun e => by have := Option.some.inj e; omega)).trans hr
      have o1 := own_grown (own_le o1 (show M + 3 ≤ w2.heap.size by omega)) (by omega) hoth
      have o2 := own_grown (own_le o2 (show M + 3 ≤ w2.heap.size by omega)) (by omega) hoth
      have o3 := own_grown (own_le o3 (show M + 3 ≤ w2.heap.size by omega)) (by omega) hoth
      have o4 := own_grown (own_le o4 (show M + 3 ≤ w2.heap.size by omega)) (by omega) hoth
      have o5 := own_grown (own_le o5 (show M + 3 ≤ w2.heap.size by omega)) (by omega) hoth
      have o6 := (o6.le (show M + 3 ≤ w2.heap.size by omega)).grown (by omega) hoth
      have c0 : w3.cell? ⟨M, 0, none⟩ = some (.int .i64 0) := hbx.cellM rfl
      have f0 := hbx.frozenM 0
      have c1 : w3.cell? ⟨M, 1, none⟩ = some (.int .u64 0) := hbx.cellM rfl
      have f1 := hbx.frozenM 1
      have c2 : w3.cell? ⟨M, 2, none⟩ = some (.string ⟨#[]⟩) := hbx.cellM rfl
      have f2 := hbx.frozenM 2
      have c3 : w3.cell? ⟨M, 3, none⟩ = some (.slice none 0 0) := hbx.cellM rfl
      have f3 := hbx.frozenM 3
      have c4 : w3.cell? ⟨M, 4, none⟩ = some (.slice none 0 0) := hbx.cellM rfl
      have f4 := hbx.frozenM 4
      have c5 : w3.cell? ⟨M, 5, none⟩ = some (.slice none 0 0) := hbx.cellM rfl
      have f5 := hbx.frozenM 5
      have c6 : w3.cell? ⟨M, 6, none⟩ = some (.slice none 0 0) := hbx.cellM rfl
      have f6 := hbx.frozenM 6
      have c7 : w3.cell? ⟨M, 7, none⟩ = some (.slice none 0 0) := hbx.cellM rfl
      have f7 := hbx.frozenM 7
      have c8 : w3.cell? ⟨M, 8, none⟩ = some (.slice none 0 0) := hbx.cellM rfl
      have f8 := hbx.frozenM 8
      have HEND := Lib.hid (end_r hr4)
      have HW4 := Lib.hid hw4; have HB4 := Lib.hid b9; have HLO4 := Lib.hid hlo4; have HP := Lib.hid hp; have HST := Lib.hid hstep
      have O1 := Lib.hid o1; have O2 := Lib.hid o2; have O3 := Lib.hid o3; have O4 := Lib.hid o4; have O5 := Lib.hid o5; have O6 := Lib.hid o6
      clear b0 b1 b2 b3 b4 b5 b6 b7 b8 b9 hw4 hlo4 hlo3 hbx hoth hr4 hr hp hg h3 o1 o2 o3 o4 o5 o6 hstep HMS HB HLO
      unfold wp_ at HEND
      unfold bstr
      go_upto_region 6 with fail
      rw [← HW4.out]
      clear c0 c1 c2 c3 c4 c5 c6 c7 c8 f0 f1 f2 f3 f4 f5 f6 f7 f8
      go_wp2_with fail
      refine HEND.out.mono ?_
      rintro e w5 ⟨rfl, hnil, hcons⟩
      by_cases hrn : r = []
      · rw [hnil hrn]
        have HD := Lib.hid (decode_msg H80.out (by rw [HP.out, hrn]))
        have c0 : w5.cell? ⟨M, 0, none⟩ = some (.int .i64 m.kd) := HB4.out.cellM rfl
        have f0 := HB4.out.frozenM 0
        have c1 : w5.cell? ⟨M, 1, none⟩ = some (.int .u64 m.step) := HB4.out.cellM rfl
        have f1 := HB4.out.frozenM 1
        have c2 : w5.cell? ⟨M, 2, none⟩ = some (.string ⟨m.ev.toArray⟩) := HB4.out.cellM rfl
        have f2 := HB4.out.frozenM 2
        have c3 : w5.cell? ⟨M, 3, none⟩ = some (.slice A1 m.tr.length C1) := HB4.out.cellM rfl
        have f3 := HB4.out.frozenM 3
        have c4 : w5.cell? ⟨M, 4, none⟩ = some (.slice A2 m.ss.length C2) := HB4.out.cellM rfl
        have f4 := HB4.out.frozenM 4
        have c5 : w5.cell? ⟨M, 5, none⟩ = some (.slice A3 m.en.length C3) := HB4.out.cellM rfl
        have f5 := HB4.out.frozenM 5
        have c6 : w5.cell? ⟨M, 6, none⟩ = some (.slice A4 m.vs.length C4) := HB4.out.cellM rfl
        have f6 := HB4.out.frozenM 6
        have c7 : w5.cell? ⟨M, 7, none⟩ = some (.slice A5 m.sets.length C5) := HB4.out.cellM rfl
        have f7 := HB4.out.frozenM 7
        have c8 : w5.cell? ⟨M, 8, none⟩ = some (.slice A6 m.pasts.length C6) := HB4.out.cellM rfl
        have f8 := HB4.out.frozenM 8
        have ce := HB4.out.cellE
        have fe := HB4.out.frozenE
        have b0 : Box2 M #[.int .i64 m.kd, .int .u64 m.step, .string ⟨m.ev.toArray⟩, .slice A1 m.tr.length C1, .slice A2 m.ss.length C2, .slice A3 m.en.length C3, .slice A4 m.vs.length C4, .slice A5 m.sets.length C5, .slice A6 m.pasts.length C6] (.int .i64 0) ((w5).setCell ⟨M, 0, none⟩ (.int .i64 m.kd)) := (HB4.out).put 0 (.int .i64 m.kd)
        have b1 : Box2 M #[.int .i64 m.kd, .int .u64 m.step, .string ⟨m.ev.toArray⟩, .slice A1 m.tr.length C1, .slice A2 m.ss.length C2, .slice A3 m.en.length C3, .slice A4 m.vs.length C4, .slice A5 m.sets.length C5, .slice A6 m.pasts.length C6] (.int .i64 0) (((w5).setCell ⟨M, 0, none⟩ (.int .i64 m.kd)).setCell ⟨M, 1, none⟩ (.int .u64 m.step)) := (b0).put 1 (.int .u64 m.step)
        have b2 : Box2 M #[.int .i64 m.kd, .int .u64 m.step, .string ⟨m.ev.toArray⟩, .slice A1 m.tr.length C1, .slice A2 m.ss.length C2, .slice A3 m.en.length C3, .slice A4 m.vs.length C4, .slice A5 m.sets.length C5, .slice A6 m.pasts.length C6] (.int .i64 0) ((((w5).setCell ⟨M, 0, none⟩ (.int .i64 m.kd)).setCell ⟨M, 1, none⟩ (.int .u64 m.step)).setCell ⟨M, 2, none⟩ (.string ⟨m.ev.toArray⟩)) := (b1).put 2 (.string ⟨m.ev.toArray⟩)
        have b3 : Box2 M #[.int .i64 m.kd, .int .u64 m.step, .string ⟨m.ev.toArray⟩, .slice A1 m.tr.length C1, .slice A2 m.ss.length C2, .slice A3 m.en.length C3, .slice A4 m.vs.length C4, .slice A5 m.sets.length C5, .slice A6 m.pasts.length C6] (.int .i64 0) (((((w5).setCell ⟨M, 0, none⟩ (.int .i64 m.kd)).setCell ⟨M, 1, none⟩ (.int .u64 m.step)).setCell ⟨M, 2, none⟩ (.string ⟨m.ev.toArray⟩)).setCell ⟨M, 3, none⟩ (.slice A1 m.tr.length C1)) := (b2).put 3 (.slice A1 m.tr.length C1)
        have b4 : Box2 M #[.int .i64 m.kd, .int .u64 m.step, .string ⟨m.ev.toArray⟩, .slice A1 m.tr.length C1, .slice A2 m.ss.length C2, .slice A3 m.en.length C3, .slice A4 m.vs.length C4, .slice A5 m.sets.length C5, .slice A6 m.pasts.length C6] (.int .i64 0) ((((((w5).setCell ⟨M, 0, none⟩ (.int .i64 m.kd)).setCell ⟨M, 1, none⟩ (.int .u64 m.step)).setCell ⟨M, 2, none⟩ (.string ⟨m.ev.toArray⟩)).setCell ⟨M, 3, none⟩ (.slice A1 m.tr.length C1)).setCell ⟨M, 4, none⟩ (.slice A2 m.ss.length C2)) := (b3).put 4 (.slice A2 m.ss.length C2)
        have b5 : Box2 M #[.int .i64 m.kd, .int .u64 m.step, .string ⟨m.ev.toArray⟩, .slice A1 m.tr.length C1, .slice A2 m.ss.length C2, .slice A3 m.en.length C3, .slice A4 m.vs.length C4, .slice A5 m.sets.length C5, .slice A6 m.pasts.length C6] (.int .i64 0) (((((((w5).setCell ⟨M, 0, none⟩ (.int .i64 m.kd)).setCell ⟨M, 1, none⟩ (.int .u64 m.step)).setCell ⟨M, 2, none⟩ (.string ⟨m.ev.toArray⟩)).setCell ⟨M, 3, none⟩ (.slice A1 m.tr.length C1)).setCell ⟨M, 4, none⟩ (.slice A2 m.ss.length C2)).setCell ⟨M, 5, none⟩ (.slice A3 m.en.length C3)) := (b4).put 5 (.slice A3 m.en.length C3)
        have b6 : Box2 M #[.int .i64 m.kd, .int .u64 m.step, .string ⟨m.ev.toArray⟩, .slice A1 m.tr.length C1, .slice A2 m.ss.length C2, .slice A3 m.en.length C3, .slice A4 m.vs.length C4, .slice A5 m.sets.length C5, .slice A6 m.pasts.length C6] (.int .i64 0) ((((((((w5).setCell ⟨M, 0, none⟩ (.int .i64 m.kd)).setCell ⟨M, 1, none⟩ (.int .u64 m.step)).setCell ⟨M, 2, none⟩ (.string ⟨m.ev.toArray⟩)).setCell ⟨M, 3, none⟩ (.slice A1 m.tr.length C1)).setCell ⟨M, 4, none⟩ (.slice A2 m.ss.length C2)).setCell ⟨M, 5, none⟩ (.slice A3 m.en.length C3)).setCell ⟨M, 6, none⟩ (.slice A4 m.vs.length C4)) := (b5).put 6 (.slice A4 m.vs.length C4)
        have b7 : Box2 M #[.int .i64 m.kd, .int .u64 m.step, .string ⟨m.ev.toArray⟩, .slice A1 m.tr.length C1, .slice A2 m.ss.length C2, .slice A3 m.en.length C3, .slice A4 m.vs.length C4, .slice A5 m.sets.length C5, .slice A6 m.pasts.length C6] (.int .i64 0) (((((((((w5).setCell ⟨M, 0, none⟩ (.int .i64 m.kd)).setCell ⟨M, 1, none⟩ (.int .u64 m.step)).setCell ⟨M, 2, none⟩ (.string ⟨m.ev.toArray⟩)).setCell ⟨M, 3, none⟩ (.slice A1 m.tr.length C1)).setCell ⟨M, 4, none⟩ (.slice A2 m.ss.length C2)).setCell ⟨M, 5, none⟩ (.slice A3 m.en.length C3)).setCell ⟨M, 6, none⟩ (.slice A4 m.vs.length C4)).setCell ⟨M, 7, none⟩ (.slice A5 m.sets.length C5)) := (b6).put 7 (.slice A5 m.sets.length C5)
        have b8 : Box2 M #[.int .i64 m.kd, .int .u64 m.step, .string ⟨m.ev.toArray⟩, .slice A1 m.tr.length C1, .slice A2 m.ss.length C2, .slice A3 m.en.length C3, .slice A4 m.vs.length C4, .slice A5 m.sets.length C5, .slice A6 m.pasts.length C6] (.int .i64 0) ((((((((((w5).setCell ⟨M, 0, none⟩ (.int .i64 m.kd)).setCell ⟨M, 1, none⟩ (.int .u64 m.step)).setCell ⟨M, 2, none⟩ (.string ⟨m.ev.toArray⟩)).setCell ⟨M, 3, none⟩ (.slice A1 m.tr.length C1)).setCell ⟨M, 4, none⟩ (.slice A2 m.ss.length C2)).setCell ⟨M, 5, none⟩ (.slice A3 m.en.length C3)).setCell ⟨M, 6, none⟩ (.slice A4 m.vs.length C4)).setCell ⟨M, 7, none⟩ (.slice A5 m.sets.length C5)).setCell ⟨M, 8, none⟩ (.slice A6 m.pasts.length C6)) := (b7).put 8 (.slice A6 m.pasts.length C6)
        obtain ⟨w6, hw6⟩ : ∃ W, W = ((((((((((w5).setCell ⟨M, 0, none⟩ (.int .i64 m.kd)).setCell ⟨M, 1, none⟩ (.int .u64 m.step)).setCell ⟨M, 2, none⟩ (.string ⟨m.ev.toArray⟩)).setCell ⟨M, 3, none⟩ (.slice A1 m.tr.length C1)).setCell ⟨M, 4, none⟩ (.slice A2 m.ss.length C2)).setCell ⟨M, 5, none⟩ (.slice A3 m.en.length C3)).setCell ⟨M, 6, none⟩ (.slice A4 m.vs.length C4)).setCell ⟨M, 7, none⟩ (.slice A5 m.sets.length C5)).setCell ⟨M, 8, none⟩ (.slice A6 m.pasts.length C6)).setCell ⟨M + 1, 0, none⟩ (.int .i64 0) := ⟨_, rfl⟩
        have b9 : Box2 M #[.int .i64 m.kd, .int .u64 m.step, .string ⟨m.ev.toArray⟩, .slice A1 m.tr.length C1, .slice A2 m.ss.length C2, .slice A3 m.en.length C3, .slice A4 m.vs.length C4, .slice A5 m.sets.length C5, .slice A6 m.pasts.length C6] (.int .i64 0) w6 := by rw [hw6]; exact b8.fail (.int .i64 0)
        have hlo6 : Below M w w6 := by rw [hw6]; exact low_set (low_set (low_set (low_set (low_set (low_set (low_set (low_set (low_set (low_set (HLO4.out) (Nat.le_refl M) (.int .i64 m.kd)) (Nat.le_refl M) (.int .u64 m.step)) (Nat.le_refl M) (.string ⟨m.ev.toArray⟩)) (Nat.le_refl M) (.slice A1 m.tr.length C1)) (Nat.le_refl M) (.slice A2 m.ss.length C2)) (Nat.le_refl M) (.slice A3 m.en.length C3)) (Nat.le_refl M) (.slice A4 m.vs.length C4)) (Nat.le_refl M) (.slice A5 m.sets.length C5)) (Nat.le_refl M) (.slice A6 m.pasts.length C6)) (Nat.le_succ M) (.int .i64 0)
        have o1 := own_le (ownsRow_setCell_below (ownsRow_setCell_below (ownsRow_setCell_below (ownsRow_setCell_below (ownsRow_setCell_below (ownsRow_setCell_below (ownsRow_setCell_below (ownsRow_setCell_below (ownsRow_setCell_below (ownsRow_setCell_below (O1.out) (a := ⟨M, 0, none⟩) (show M < M + 3 by omega) (.int .i64 m.kd)) (a := ⟨M, 1, none⟩) (show M < M + 3 by omega) (.int .u64 m.step)) (a := ⟨M, 2, none⟩) (show M < M + 3 by omega) (.string ⟨m.ev.toArray⟩)) (a := ⟨M, 3, none⟩) (show M < M + 3 by omega) (.slice A1 m.tr.length C1)) (a := ⟨M, 4, none⟩) (show M < M + 3 by omega) (.slice A2 m.ss.length C2)) (a := ⟨M, 5, none⟩) (show M < M + 3 by omega) (.slice A3 m.en.length C3)) (a := ⟨M, 6, none⟩) (show M < M + 3 by omega) (.slice A4 m.vs.length C4)) (a := ⟨M, 7, none⟩) (show M < M + 3 by omega) (.slice A5 m.sets.length C5)) (a := ⟨M, 8, none⟩) (show M < M + 3 by omega) (.slice A6 m.pasts.length C6)) (a := ⟨M + 1, 0, none⟩) (show M + 1 < M + 3 by omega) (.int .i64 0)) (show M ≤ M + 3 by omega)
        have o2 := own_le (ownsRow_setCell_below (ownsRow_setCell_below (ownsRow_setCell_below (ownsRow_setCell_below (ownsRow_setCell_below (ownsRow_setCell_below (ownsRow_setCell_below (ownsRow_setCell_below (ownsRow_setCell_below (ownsRow_setCell_below (O2.out) (a := ⟨M, 0, none⟩) (show M < M + 3 by omega) (.int .i64 m.kd)) (a := ⟨M, 1, none⟩) (show M < M + 3 by omega) (.int .u64 m.step)) (a := ⟨M, 2, none⟩) (show M < M + 3 by omega) (.string ⟨m.ev.toArray⟩)) (a := ⟨M, 3, none⟩) (show M < M + 3 by omega) (.slice A1 m.tr.length C1)) (a := ⟨M, 4, none⟩) (show M < M + 3 by omega) (.slice A2 m.ss.length C2)) (a := ⟨M, 5, none⟩) (show M < M + 3 by omega) (.slice A3 m.en.length C3)) (a := ⟨M, 6, none⟩) (show M < M + 3 by omega) (.slice A4 m.vs.length C4)) (a := ⟨M, 7, none⟩) (show M < M + 3 by omega) (.slice A5 m.sets.length C5)) (a := ⟨M, 8, none⟩) (show M < M + 3 by omega) (.slice A6 m.pasts.length C6)) (a := ⟨M + 1, 0, none⟩) (show M + 1 < M + 3 by omega) (.int .i64 0)) (show M ≤ M + 3 by omega)
        have o3 := own_le (ownsRow_setCell_below (ownsRow_setCell_below (ownsRow_setCell_below (ownsRow_setCell_below (ownsRow_setCell_below (ownsRow_setCell_below (ownsRow_setCell_below (ownsRow_setCell_below (ownsRow_setCell_below (ownsRow_setCell_below (O3.out) (a := ⟨M, 0, none⟩) (show M < M + 3 by omega) (.int .i64 m.kd)) (a := ⟨M, 1, none⟩) (show M < M + 3 by omega) (.int .u64 m.step)) (a := ⟨M, 2, none⟩) (show M < M + 3 by omega) (.string ⟨m.ev.toArray⟩)) (a := ⟨M, 3, none⟩) (show M < M + 3 by omega) (.slice A1 m.tr.length C1)) (a := ⟨M, 4, none⟩) (show M < M + 3 by omega) (.slice A2 m.ss.length C2)) (a := ⟨M, 5, none⟩) (show M < M + 3 by omega) (.slice A3 m.en.length C3)) (a := ⟨M, 6, none⟩) (show M < M + 3 by omega) (.slice A4 m.vs.length C4)) (a := ⟨M, 7, none⟩) (show M < M + 3 by omega) (.slice A5 m.sets.length C5)) (a := ⟨M, 8, none⟩) (show M < M + 3 by omega) (.slice A6 m.pasts.length C6)) (a := ⟨M + 1, 0, none⟩) (show M + 1 < M + 3 by omega) (.int .i64 0)) (show M ≤ M + 3 by omega)
        have o4 := own_le (ownsRow_setCell_below (ownsRow_setCell_below (ownsRow_setCell_below (ownsRow_setCell_below (ownsRow_setCell_below (ownsRow_setCell_below (ownsRow_setCell_below (ownsRow_setCell_below (ownsRow_setCell_below (ownsRow_setCell_below (O4.out) (a := ⟨M, 0, none⟩) (show M < M + 3 by omega) (.int .i64 m.kd)) (a := ⟨M, 1, none⟩) (show M < M + 3 by omega) (.int .u64 m.step)) (a := ⟨M, 2, none⟩) (show M < M + 3 by omega) (.string ⟨m.ev.toArray⟩)) (a := ⟨M, 3, none⟩) (show M < M + 3 by omega) (.slice A1 m.tr.length C1)) (a := ⟨M, 4, none⟩) (show M < M + 3 by omega) (.slice A2 m.ss.length C2)) (a := ⟨M, 5, none⟩) (show M < M + 3 by omega) (.slice A3 m.en.length C3)) (a := ⟨M, 6, none⟩) (show M < M + 3 by omega) (.slice A4 m.vs.length C4)) (a := ⟨M, 7, none⟩) (show M < M + 3 by omega) (.slice A5 m.sets.length C5)) (a := ⟨M, 8, none⟩) (show M < M + 3 by omega) (.slice A6 m.pasts.length C6)) (a := ⟨M + 1, 0, none⟩) (show M + 1 < M + 3 by omega) (.int .i64 0)) (show M ≤ M + 3 by omega)
        have o5 := own_le (ownsRow_setCell_below (ownsRow_setCell_below (ownsRow_setCell_below (ownsRow_setCell_below (ownsRow_setCell_below (ownsRow_setCell_below (ownsRow_setCell_below (ownsRow_setCell_below (ownsRow_setCell_below (ownsRow_setCell_below (O5.out) (a := ⟨M, 0, none⟩) (show M < M + 3 by omega) (.int .i64 m.kd)) (a := ⟨M, 1, none⟩) (show M < M + 3 by omega) (.int .u64 m.step)) (a := ⟨M, 2, none⟩) (show M < M + 3 by omega) (.string ⟨m.ev.toArray⟩)) (a := ⟨M, 3, none⟩) (show M < M + 3 by omega) (.slice A1 m.tr.length C1)) (a := ⟨M, 4, none⟩) (show M < M + 3 by omega) (.slice A2 m.ss.length C2)) (a := ⟨M, 5, none⟩) (show M < M + 3 by omega) (.slice A3 m.en.length C3)) (a := ⟨M, 6, none⟩) (show M < M + 3 by omega) (.slice A4 m.vs.length C4)) (a := ⟨M, 7, none⟩) (show M < M + 3 by omega) (.slice A5 m.sets.length C5)) (a := ⟨M, 8, none⟩) (show M < M + 3 by omega) (.slice A6 m.pasts.length C6)) (a := ⟨M + 1, 0, none⟩) (show M + 1 < M + 3 by omega) (.int .i64 0)) (show M ≤ M + 3 by omega)
        have o6 := (((((((((((O6.out).low (j := 0) (show M < M + 3 by omega) (.int .i64 m.kd)).low (j := 1) (show M < M + 3 by omega) (.int .u64 m.step)).low (j := 2) (show M < M + 3 by omega) (.string ⟨m.ev.toArray⟩)).low (j := 3) (show M < M + 3 by omega) (.slice A1 m.tr.length C1)).low (j := 4) (show M < M + 3 by omega) (.slice A2 m.ss.length C2)).low (j := 5) (show M < M + 3 by omega) (.slice A3 m.en.length C3)).low (j := 6) (show M < M + 3 by omega) (.slice A4 m.vs.length C4)).low (j := 7) (show M < M + 3 by omega) (.slice A5 m.sets.length C5)).low (j := 8) (show M < M + 3 by omega) (.slice A6 m.pasts.length C6)).low (j := 0) (show M + 1 < M + 3 by omega) (.int .i64 0)).le (show M ≤ M + 3 by omega)
        rw [← hw6] at o1 o2 o3 o4 o5 o6
        replace HLO4 := Lib.hid hlo6; replace HB4 := Lib.hid b9; have HW6 := Lib.hid hw6
        replace O1 := Lib.hid o1; replace O2 := Lib.hid o2; replace O3 := Lib.hid o3; replace O4 := Lib.hid o4; replace O5 := Lib.hid o5; replace O6 := Lib.hid o6
        clear b0 b1 b2 b3 b4 b5 b6 b7 b8 b9 hlo6 hw6 o1 o2 o3 o4 o5 o6 hnil hcons HEND
        go_wp2
        rw [← HW6.out]
        refine leaves_cons (f := 23) (args := #[.pointer (some ⟨M, 0, none⟩), .pointer (some ⟨M + 1, 0, none⟩)]) (by simp) (by simp [go_sem]) ?_
        refine (idle_r ⟨M, 0, none⟩ ⟨M + 1, 0, none⟩ _).mono ?_
        rintro e u' w7 ⟨rfl, rfl, rfl⟩
        have q0 : w7.cell? ⟨M, 0, none⟩ = some (.int .i64 m.kd) := HB4.out.cellM rfl
        have q1 : w7.cell? ⟨M, 1, none⟩ = some (.int .u64 m.step) := HB4.out.cellM rfl
        have q2 : w7.cell? ⟨M, 2, none⟩ = some (.string ⟨m.ev.toArray⟩) := HB4.out.cellM rfl
        have q3 : w7.cell? ⟨M, 3, none⟩ = some (.slice A1 m.tr.length C1) := HB4.out.cellM rfl
        have q4 : w7.cell? ⟨M, 4, none⟩ = some (.slice A2 m.ss.length C2) := HB4.out.cellM rfl
        have q5 : w7.cell? ⟨M, 5, none⟩ = some (.slice A3 m.en.length C3) := HB4.out.cellM rfl
        have q6 : w7.cell? ⟨M, 6, none⟩ = some (.slice A4 m.vs.length C4) := HB4.out.cellM rfl
        have q7 : w7.cell? ⟨M, 7, none⟩ = some (.slice A5 m.sets.length C5) := HB4.out.cellM rfl
        have q8 : w7.cell? ⟨M, 8, none⟩ = some (.slice A6 m.pasts.length C6) := HB4.out.cellM rfl
        have q9 : w7.cell? ⟨M + 1, 0, none⟩ = some (.int .i64 0) := HB4.out.cellE
        simp [Leaves, settle, results, Try.results13, go_sem, q0, q1, q2, q3, q4, q5, q6, q7, q8, q9]
        rw [HD.out]
        refine ⟨⟨.agg #[.int .i64 m.kd, .int .u64 m.step, .string ⟨m.ev.toArray⟩, .slice A1 m.tr.length C1, .slice A2 m.ss.length C2, .slice A3 m.en.length C3, .slice A4 m.vs.length C4, .slice A5 m.sets.length C5, .slice A6 m.pasts.length C6], ⟨rfl, rfl⟩, ?_⟩, ?_⟩
        · rw [← HM.out]
          exact ⟨_, _, _, _, _, _, rfl, HST.out, O1.out, O2.out, O3.out, O4.out, O5.out, O6.out⟩
        · rw [← HM.out]
          exact HLO4.out
      · rw [hcons hrn]
        have HD := Lib.hid (decode_more H80.out HP.out hrn)
        change bodyPostD Try.prog _ _ (Exit.panic [{ v := giveV, recovered := false }]) _ _
        refine leaves_cons (f := 23) (args := #[.pointer (some ⟨M, 0, none⟩), .pointer (some ⟨M + 1, 0, none⟩)]) (by simp) (by simp [go_sem]) ?_
        refine (caught_r M _ _ _ _ _ _ _ _ _ _ [] _ HB4.out).mono ?_
        rintro e u' w6 ⟨rfl, rfl, hB4, hlo4⟩
        have q0 : w6.cell? ⟨M, 0, none⟩ = some (.int .i64 0) := hB4.cellM rfl
        have q1 : w6.cell? ⟨M, 1, none⟩ = some (.int .u64 0) := hB4.cellM rfl
        have q2 : w6.cell? ⟨M, 2, none⟩ = some (.string ⟨#[]⟩) := hB4.cellM rfl
        have q3 : w6.cell? ⟨M, 3, none⟩ = some (.slice none 0 0) := hB4.cellM rfl
        have q4 : w6.cell? ⟨M, 4, none⟩ = some (.slice none 0 0) := hB4.cellM rfl
        have q5 : w6.cell? ⟨M, 5, none⟩ = some (.slice none 0 0) := hB4.cellM rfl
        have q6 : w6.cell? ⟨M, 6, none⟩ = some (.slice none 0 0) := hB4.cellM rfl
        have q7 : w6.cell? ⟨M, 7, none⟩ = some (.slice none 0 0) := hB4.cellM rfl
        have q8 : w6.cell? ⟨M, 8, none⟩ = some (.slice none 0 0) := hB4.cellM rfl
        have q9 : w6.cell? ⟨M + 1, 0, none⟩ = some (.int .i64 1) := hB4.cellE
        simp [Leaves, settle, results, Try.results13, go_sem, q0, q1, q2, q3, q4, q5, q6, q7, q8, q9]
        rw [HD.out]
        refine ⟨⟨.agg z9, ⟨rfl, rfl⟩, no_msg _ _⟩, ?_⟩
        rw [← HM.out]
        exact hlo4 _ _ (Nat.le_refl _) HLO4.out
    · have hbx := HB.out.grown hg (by omega)
      have HD := Lib.hid (decode_no H80.out hp)
      have HLO3 := Lib.hid (low_grown HLO.out hg (by omega) (by omega))
      clear h3 hg hp
      change bodyPostD Try.prog _ _ (Exit.panic [{ v := giveV, recovered := false }]) _ _
      refine leaves_cons (f := 23) (args := #[.pointer (some ⟨M, 0, none⟩), .pointer (some ⟨M + 1, 0, none⟩)]) (by simp) (by simp [go_sem]) ?_
      refine (caught_r M _ _ _ _ _ _ _ _ _ _ [] _ hbx).mono ?_
      rintro e u' w4 ⟨rfl, rfl, hB4, hlo4⟩
      have q0 : w4.cell? ⟨M, 0, none⟩ = some (.int .i64 0) := hB4.cellM rfl
      have q1 : w4.cell? ⟨M, 1, none⟩ = some (.int .u64 0) := hB4.cellM rfl
      have q2 : w4.cell? ⟨M, 2, none⟩ = some (.string ⟨#[]⟩) := hB4.cellM rfl
      have q3 : w4.cell? ⟨M, 3, none⟩ = some (.slice none 0 0) := hB4.cellM rfl
      have q4 : w4.cell? ⟨M, 4, none⟩ = some (.slice none 0 0) := hB4.cellM rfl
      have q5 : w4.cell? ⟨M, 5, none⟩ = some (.slice none 0 0) := hB4.cellM rfl
      have q6 : w4.cell? ⟨M, 6, none⟩ = some (.slice none 0 0) := hB4.cellM rfl
      have q7 : w4.cell? ⟨M, 7, none⟩ = some (.slice none 0 0) := hB4.cellM rfl
      have q8 : w4.cell? ⟨M, 8, none⟩ = some (.slice none 0 0) := hB4.cellM rfl
      have q9 : w4.cell? ⟨M + 1, 0, none⟩ = some (.int .i64 1) := hB4.cellE

      simp [Leaves, settle, results, Try.results13, go_sem, q0, q1, q2, q3, q4, q5, q6, q7, q8, q9]
      rw [HD.out]
      refine ⟨⟨.agg z9, ⟨rfl, rfl⟩, no_msg _ _⟩, ?_⟩
      rw [← HM.out]
      exact hlo4 _ _ (Nat.le_refl _) HLO3.out
end Go.Proofs.Ytlbhkendbngmaaa.Wi
