/- Layer 16: what Decode and Unpack do at their ends: a panic is caught. -/
import Derived.Test.YtlbhkendbngmaaaJt
import Derived.Tactics
import Derived.Tactics2
import Derived.Defers
import Derived.Recover
import Derived.Laws.Pointers
namespace Go.Proofs.Ytlbhkendbngmaaa.Wi
open Go.RowKit
set_option maxRecDepth 100000

/-- a message's box M, filled; an error's E -/
structure Box2 (M : Nat) (vs : Array Value) (e : Value) (W : World) : Prop where
  msg : W.heap[M]? = some (.cells vs 27 (0, 0))
  err : W.heap[M + 1]? = some (.cells #[e] 28 (0, 0))
/-- all that lay ahead of M lies as it lay -/
theorem low_set {B k j : Nat} {w W : World} (h : Below B w W) (hB : B ≤ k) (v : Value) : Below B w (W.setCell ⟨k, j, none⟩ v) := h.setCell hB v
theorem Box2.put {M : Nat} {vs : Array Value} {e : Value} {W : World} (h : Box2 M vs e W) (j : Nat) (v : Value) : Box2 M (vs.setIfInBounds j v) e (W.setCell ⟨M, j, none⟩ v) := by
  have hb := grown_set W M j v
  refine ⟨?_, (hb.block (M + 1) (lt_of_heap h.err) (fun e => by have := Option.some.inj e; omega)).trans h.err⟩
  rw [heap_setCell_same W M j _ _ _ h.msg]
theorem Box2.fail {M : Nat} {vs : Array Value} {e : Value} {W : World} (h : Box2 M vs e W) (v : Value) : Box2 M vs v (W.setCell ⟨M + 1, 0, none⟩ v) := by
  have hb := grown_set W (M + 1) 0 v
  refine ⟨(hb.block M (lt_of_heap h.msg) (fun e => by have := Option.some.inj e; omega)).trans h.msg, ?_⟩
  rw [heap_setCell_same W (M + 1) 0 _ _ _ h.err]; rfl
theorem idle_r (p q : Addr) (w : World) :
    CallsD Try.prog 23 #[.pointer (some p), .pointer (some q)] .returning w fun e u' w' => e = .returned (.tuple #[]) ∧ u' = .returning ∧ w' = w := by
  refine callsD_of_wpS Try.func23 rfl fun c₀ cs hu => ?_
  apply wpS_seq
  apply wpS_region
  simp [wpOpsS, go_sem, recoverD, hu, Try.ntmps23, Exit.thenS]
  refine wpS_cond (t := false) (by simp [Act.eval, Array.replicate]) ?_
  simp only [Bool.false_eq_true, if_false]
  refine wpS_of_wp (wp_skip ?_)
  cases c₀
  simp_all [bodyPostS, results, Try.results23]
theorem caught_r (M : Nat) (v0 v1 v2 v3 v4 v5 v6 v7 v8 e0 : Value) (older : List PanicEntry) (w : World) (hB : Box2 M #[v0, v1, v2, v3, v4, v5, v6, v7, v8] e0 w) :
    CallsD Try.prog 23 #[.pointer (some ⟨M, 0, none⟩), .pointer (some ⟨M + 1, 0, none⟩)] (.panicking ({ v := giveV, recovered := false } :: older)) w fun e u' w' =>
      e = .returned (.tuple #[]) ∧ u' = .panicking ({ v := giveV, recovered := true } :: older) ∧ Box2 M z9 (.int .i64 1) w' ∧ ∀ B w0, B ≤ M → Below B w0 w → Below B w0 w' := by
  have c : ∀ j x, #[v0, v1, v2, v3, v4, v5, v6, v7, v8][j]? = some x → w.cell? ⟨M, j, none⟩ = some x := fun j x hx => (cell_of_row w M j _ _ _ hB.msg).trans hx
  have f : ∀ j, w.frozen? ⟨M, j, none⟩ = false := fun j => frozen_of_row w M j _ _ hB.msg
  have c0 := c 0 _ rfl
  have c1 := c 1 _ rfl
  have c2 := c 2 _ rfl
  have c3 := c 3 _ rfl
  have c4 := c 4 _ rfl
  have c5 := c 5 _ rfl
  have c6 := c 6 _ rfl
  have c7 := c 7 _ rfl
  have c8 := c 8 _ rfl
  have f0 := f 0
  have f1 := f 1
  have f2 := f 2
  have f3 := f 3
  have f4 := f 4
  have f5 := f 5
  have f6 := f 6
  have f7 := f 7
  have f8 := f 8
  have ce : w.cell? ⟨M + 1, 0, none⟩ = some e0 := (cell_of_row w _ 0 _ _ _ hB.err).trans rfl
  have fe := frozen_of_row w (M + 1) 0 _ _ hB.err
  have b0 : Box2 M #[.int .i64 0, v1, v2, v3, v4, v5, v6, v7, v8] e0 ((w).setCell ⟨M, 0, none⟩ (.int .i64 0)) := (hB).put 0 (.int .i64 0)
  have b1 : Box2 M #[.int .i64 0, .int .u64 0, v2, v3, v4, v5, v6, v7, v8] e0 (((w).setCell ⟨M, 0, none⟩ (.int .i64 0)).setCell ⟨M, 1, none⟩ (.int .u64 0)) := (b0).put 1 (.int .u64 0)
  have b2 : Box2 M #[.int .i64 0, .int .u64 0, .string ⟨#[]⟩, v3, v4, v5, v6, v7, v8] e0 ((((w).setCell ⟨M, 0, none⟩ (.int .i64 0)).setCell ⟨M, 1, none⟩ (.int .u64 0)).setCell ⟨M, 2, none⟩ (.string ⟨#[]⟩)) := (b1).put 2 (.string ⟨#[]⟩)
  have b3 : Box2 M #[.int .i64 0, .int .u64 0, .string ⟨#[]⟩, .slice none 0 0, v4, v5, v6, v7, v8] e0 (((((w).setCell ⟨M, 0, none⟩ (.int .i64 0)).setCell ⟨M, 1, none⟩ (.int .u64 0)).setCell ⟨M, 2, none⟩ (.string ⟨#[]⟩)).setCell ⟨M, 3, none⟩ (.slice none 0 0)) := (b2).put 3 (.slice none 0 0)
  have b4 : Box2 M #[.int .i64 0, .int .u64 0, .string ⟨#[]⟩, .slice none 0 0, .slice none 0 0, v5, v6, v7, v8] e0 ((((((w).setCell ⟨M, 0, none⟩ (.int .i64 0)).setCell ⟨M, 1, none⟩ (.int .u64 0)).setCell ⟨M, 2, none⟩ (.string ⟨#[]⟩)).setCell ⟨M, 3, none⟩ (.slice none 0 0)).setCell ⟨M, 4, none⟩ (.slice none 0 0)) := (b3).put 4 (.slice none 0 0)
  have b5 : Box2 M #[.int .i64 0, .int .u64 0, .string ⟨#[]⟩, .slice none 0 0, .slice none 0 0, .slice none 0 0, v6, v7, v8] e0 (((((((w).setCell ⟨M, 0, none⟩ (.int .i64 0)).setCell ⟨M, 1, none⟩ (.int .u64 0)).setCell ⟨M, 2, none⟩ (.string ⟨#[]⟩)).setCell ⟨M, 3, none⟩ (.slice none 0 0)).setCell ⟨M, 4, none⟩ (.slice none 0 0)).setCell ⟨M, 5, none⟩ (.slice none 0 0)) := (b4).put 5 (.slice none 0 0)
  have b6 : Box2 M #[.int .i64 0, .int .u64 0, .string ⟨#[]⟩, .slice none 0 0, .slice none 0 0, .slice none 0 0, .slice none 0 0, v7, v8] e0 ((((((((w).setCell ⟨M, 0, none⟩ (.int .i64 0)).setCell ⟨M, 1, none⟩ (.int .u64 0)).setCell ⟨M, 2, none⟩ (.string ⟨#[]⟩)).setCell ⟨M, 3, none⟩ (.slice none 0 0)).setCell ⟨M, 4, none⟩ (.slice none 0 0)).setCell ⟨M, 5, none⟩ (.slice none 0 0)).setCell ⟨M, 6, none⟩ (.slice none 0 0)) := (b5).put 6 (.slice none 0 0)
  have b7 : Box2 M #[.int .i64 0, .int .u64 0, .string ⟨#[]⟩, .slice none 0 0, .slice none 0 0, .slice none 0 0, .slice none 0 0, .slice none 0 0, v8] e0 (((((((((w).setCell ⟨M, 0, none⟩ (.int .i64 0)).setCell ⟨M, 1, none⟩ (.int .u64 0)).setCell ⟨M, 2, none⟩ (.string ⟨#[]⟩)).setCell ⟨M, 3, none⟩ (.slice none 0 0)).setCell ⟨M, 4, none⟩ (.slice none 0 0)).setCell ⟨M, 5, none⟩ (.slice none 0 0)).setCell ⟨M, 6, none⟩ (.slice none 0 0)).setCell ⟨M, 7, none⟩ (.slice none 0 0)) := (b6).put 7 (.slice none 0 0)
  have b8 : Box2 M #[.int .i64 0, .int .u64 0, .string ⟨#[]⟩, .slice none 0 0, .slice none 0 0, .slice none 0 0, .slice none 0 0, .slice none 0 0, .slice none 0 0] e0 ((((((((((w).setCell ⟨M, 0, none⟩ (.int .i64 0)).setCell ⟨M, 1, none⟩ (.int .u64 0)).setCell ⟨M, 2, none⟩ (.string ⟨#[]⟩)).setCell ⟨M, 3, none⟩ (.slice none 0 0)).setCell ⟨M, 4, none⟩ (.slice none 0 0)).setCell ⟨M, 5, none⟩ (.slice none 0 0)).setCell ⟨M, 6, none⟩ (.slice none 0 0)).setCell ⟨M, 7, none⟩ (.slice none 0 0)).setCell ⟨M, 8, none⟩ (.slice none 0 0)) := (b7).put 8 (.slice none 0 0)
  have bF : Box2 M z9 (.int .i64 1) (((((((((((w).setCell ⟨M, 0, none⟩ (.int .i64 0)).setCell ⟨M, 1, none⟩ (.int .u64 0)).setCell ⟨M, 2, none⟩ (.string ⟨#[]⟩)).setCell ⟨M, 3, none⟩ (.slice none 0 0)).setCell ⟨M, 4, none⟩ (.slice none 0 0)).setCell ⟨M, 5, none⟩ (.slice none 0 0)).setCell ⟨M, 6, none⟩ (.slice none 0 0)).setCell ⟨M, 7, none⟩ (.slice none 0 0)).setCell ⟨M, 8, none⟩ (.slice none 0 0)).setCell ⟨M + 1, 0, none⟩ (.int .i64 1)) := b8.fail (.int .i64 1)
  have lF : ∀ B w0, B ≤ M → Below B w0 w → Below B w0 (((((((((((w).setCell ⟨M, 0, none⟩ (.int .i64 0)).setCell ⟨M, 1, none⟩ (.int .u64 0)).setCell ⟨M, 2, none⟩ (.string ⟨#[]⟩)).setCell ⟨M, 3, none⟩ (.slice none 0 0)).setCell ⟨M, 4, none⟩ (.slice none 0 0)).setCell ⟨M, 5, none⟩ (.slice none 0 0)).setCell ⟨M, 6, none⟩ (.slice none 0 0)).setCell ⟨M, 7, none⟩ (.slice none 0 0)).setCell ⟨M, 8, none⟩ (.slice none 0 0)).setCell ⟨M + 1, 0, none⟩ (.int .i64 1)) := fun B w0 hM h => ((((((((((h).setCell hM (.int .i64 0)).setCell hM (.int .u64 0)).setCell hM (.string ⟨#[]⟩)).setCell hM (.slice none 0 0)).setCell hM (.slice none 0 0)).setCell hM (.slice none 0 0)).setCell hM (.slice none 0 0)).setCell hM (.slice none 0 0)).setCell hM (.slice none 0 0)).setCell (Nat.le_succ_of_le hM) (.int .i64 1)
  obtain ⟨WF, hWF⟩ : ∃ W, W = ((((((((((w).setCell ⟨M, 0, none⟩ (.int .i64 0)).setCell ⟨M, 1, none⟩ (.int .u64 0)).setCell ⟨M, 2, none⟩ (.string ⟨#[]⟩)).setCell ⟨M, 3, none⟩ (.slice none 0 0)).setCell ⟨M, 4, none⟩ (.slice none 0 0)).setCell ⟨M, 5, none⟩ (.slice none 0 0)).setCell ⟨M, 6, none⟩ (.slice none 0 0)).setCell ⟨M, 7, none⟩ (.slice none 0 0)).setCell ⟨M, 8, none⟩ (.slice none 0 0)).setCell ⟨M + 1, 0, none⟩ (.int .i64 1) := ⟨_, rfl⟩
  rw [← hWF] at bF lF
  have HWF := Lib.hid hWF; have BF := Lib.hid bF; have LF := Lib.hid lF
  clear b0 b1 b2 b3 b4 b5 b6 b7 b8 bF lF hWF
  clear c f
  refine callsD_of_wpS Try.func23 rfl fun c₀ cs hu => ?_
  apply wpS_seq
  apply wpS_region
  simp [wpOpsS, go_sem, recoverD, hu, Try.ntmps23, Exit.thenS, giveV]
  refine wpS_cond (t := true) (by simp [Act.eval, Array.replicate]) ?_
  simp only [if_true]
  refine wpS_of_wp ?_
  clear hu
  go_wp2
  rw [← HWF.out]
  clear HWF
  cases c₀
  simp_all [bodyPostS, results, Try.results23]
  exact ⟨BF.out, LF.out⟩
end Go.Proofs.Ytlbhkendbngmaaa.Wi
