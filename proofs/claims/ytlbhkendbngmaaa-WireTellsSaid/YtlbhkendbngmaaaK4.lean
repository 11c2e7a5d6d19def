/- Layer 16: the document's reader: what a message's steps leave; its boxes. -/
import Derived.Test.YtlbhkendbngmaaaK3
import Derived.Test.YtlbhkendbngmaaaJv
import Derived.Test.YtlbhkendbngmaaaJ8
namespace Go.Proofs.Ytlbhkendbngmaaa.Wi
open Go.RowKit
set_option maxRecDepth 100000

section
variable {α β : Type} {p : P α} {s s1 s2 : Bytes} {b b1 b2 b3 : Bool} {x : α} {y : β}
theorem Step.seq {q : P β} (h : Step p s b x s1 b1) (k : Step q s1 b1 y s2 b2) : Step (bindP p fun _ => q) s b (x, y) s2 b2 := h.bind (q := fun _ => q) k
theorem Step.bindGuard {q : P β} {c : α → Bool} (h : Step p s b x s1 b1) (k : Step q s1 b1 y s2 b2) (hc : b3 = (b2 || !c x)) : Step (bindP (guardP c p) fun _ => q) s b (x, y) s2 b3 := by
  subst hc
  refine ⟨fun e => ?_, fun e => ?_⟩
  · have e1 : b2 = false := by cases b2 <;> simp_all
    have e2 : c x = true := by cases hc : c x <;> simp_all
    obtain ⟨e3, h1⟩ := k.good e1
    obtain ⟨e4, h2⟩ := h.good e3
    exact ⟨e4, by unfold bindP guardP; rw [h2]; simp only [e2, if_true]; rw [h1]⟩
  · cases hb : b1
    · obtain ⟨e4, h2⟩ := h.good hb
      cases e2 : c x
      · exact Or.inr (by unfold bindP guardP; rw [h2]; simp [e2])
      · have e1 : b2 = true := by cases b2 <;> simp_all
        rcases k.bad e1 with h3 | h3
        · rw [hb] at h3; cases h3
        · exact Or.inr (by unfold bindP guardP; rw [h2]; simp [e2, h3])
    · rcases h.bad hb with h3 | h3
      · exact Or.inl h3
      · exact Or.inr (by unfold bindP guardP; rw [h3])
end
theorem step_small {hi n : Nat} {s s1 : Bytes} {b b1 : Bool} (h : Step (intP hi) s b (n : Int) s1 b1) : Step (smallP hi) s b n s1 b1 :=
  ⟨fun e => ⟨(h.good e).1, small_of_int (h.good e).2⟩, fun e => (h.bad e).imp id int_none⟩
theorem step_ev {n : Nat} {s s1 s2 l : Bytes} {b b1 b2 : Bool} (h : Step (intP 20) s b (n : Int) s1 b1) (k : Step (takeP n) s1 b1 l s2 b2) : Step evP s b l s2 b2 := ((step_small h).bind k).map Prod.snd
theorem step_num {s s1 l : Bytes} {b b1 : Bool} (h : Step (takeP 8) s b l s1 b1) : Step numP s b (wordL l) s1 b1 := h.map wordL
theorem step_wide {s s1 l : Bytes} {b b1 : Bool} (h : Step (takeP 8) s b l s1 b1) : Step wideP s b (wideI (wordL l)) s1 b1 := (step_num h).map wideI
theorem step_set {s s1 s2 s3 s4 : Bytes} {b b1 b2 b3 b4 b5 : Bool} {x y : Int} {k l : Bytes} (h1 : Step (intP 63) s b x s1 b1) (h2 : Step (intP 3) s1 b1 y s2 b2) (hy : 0 ≤ y) (hc : b3 = (b2 || (y == 0))) (h3 : Step (takeP 8) s2 b3 k s3 b4) (h4 : Step (takeP 8) s3 b4 l s4 b5) :
    Step setP s b ⟨x, y, wideI (wordL k), wideI (wordL l)⟩ s4 b5 := by
  have hg : Step (guardP (fun k : Int => decide (1 ≤ k)) (intP 3)) s1 b1 y s2 b3 := h2.guard (by
    rw [hc]
    have : (y == 0) = !decide (1 ≤ y) := by
      by_cases h : y = 0
      · subst h; rfl
      · rw [beq_eq_false_iff_ne.2 h, decide_eq_true (by omega)]; rfl
    rw [this])
  exact (h1.seq (hg.seq ((step_wide h3).seq (step_wide h4)))).map _
theorem step_past {s s1 s2 : Bytes} {b b1 b2 : Bool} {x : Int} {l : List Int} (h1 : Step (intP 63) s b x s1 b1) (h2 : Step listP s1 b1 l s2 b2) : Step pastP s b ⟨x, l⟩ s2 b2 := (h1.seq h2).map _
theorem step_msg {s s1 s2 s3 s4 s5 s6 s7 s8 s9 : Bytes} {b1 b2 b3 b4 b5 b6 b7 b8 b9 : Bool} {x1 : Int} {x2 : Nat} {x3 : Bytes} {x4 x5 x6 x7 : List Int} {x8 : List SetM} {x9 : List PastM}
    (h1 : Step (intP 9) s false x1 s1 b1) (h0 : 0 ≤ x1) (h2 : Step numP s1 b1 x2 s2 b2) (h3 : Step evP s2 b2 x3 s3 b3) (h4 : Step listP s3 b3 x4 s4 b4) (h5 : Step listP s4 b4 x5 s5 b5) (h6 : Step listP s5 b5 x6 s6 b6) (h7 : Step listP s6 b6 x7 s7 b7)
    (h8 : Step (someP 8 setP) s7 b7 x8 s8 b8) (h9 : Step (someP 40 pastP) s8 b8 x9 s9 b9) : Step msgP s false ⟨x1, x2, x3, x4, x5, x6, x7, x8, x9⟩ s9 (b9 || (x1 == 0)) := by
  have hc : (b9 || (x1 == 0)) = (b9 || !decide (1 ≤ x1)) := by
    have : (x1 == 0) = !decide (1 ≤ x1) := by
      by_cases h : x1 = 0
      · subst h; rfl
      · rw [beq_eq_false_iff_ne.2 h, decide_eq_true (by omega)]; rfl
    rw [this]
  exact (h1.bindGuard (c := fun k : Int => decide (1 ≤ k)) (h2.seq (h3.seq (h4.seq (h5.seq (h6.seq (h7.seq (h8.seq h9))))))) hc).map _
theorem step_no {s s9 : Bytes} {m : MsgM} {b : Bool} (hl : ¬ 800 < s.length) (h : Step msgP s false m s9 b) (hb : b = true) : decodeM s = (noMsg, 1) := by
  rcases h.bad hb with k | k
  · cases k
  · exact decode_no hl k
theorem step_more {s s9 : Bytes} {m : MsgM} {b : Bool} (hl : ¬ 800 < s.length) (h : Step msgP s false m s9 b) (hr : s9 ≠ []) : decodeM s = (noMsg, 1) := by
  cases hb : b
  · exact decode_more hl (h.good hb).2 hr
  · exact step_no hl h hb
theorem step_yes {s : Bytes} {m : MsgM} {b : Bool} (hl : ¬ 800 < s.length) (h : Step msgP s false m [] b) (hb : b = false) : decodeM s = (m, 0) := decode_msg hl (h.good hb).2
theorem word_lt64 {l : Bytes} (h : l.length ≤ 8) : wordL l < 18446744073709551616 := by
  have := word_lt l
  have h8 : 2 ^ (8 * l.length) ≤ 2 ^ 64 := Nat.pow_le_pow_right (by decide) (by omega)
  exact Nat.lt_of_lt_of_le this h8

/-- the reader's box g and a variable's X, since W0 -/
structure Rx (W0 W : World) (g X : Nat) (T : TypeId) (cx : Array Value) (s : Bytes) (b : Bool) : Prop where
  grown : W0.grownBy W (some g)
  rb : R2 g s b W
  var : W.heap[X]? = some (.cells cx T (0, 0))
  gx : g < X
  wx : W0.heap.size ≤ X
section
variable {W0 W W' : World} {g X : Nat} {T : TypeId} {cx : Array Value} {s r : Bytes} {b c : Bool}
theorem Rx.start (hg : W0.grownBy W (some g)) (h : R2 g s b W) (cx : Array Value) (T : TypeId) : Rx W0 (W.alloc (.cells cx T)) g W.heap.size T cx s b :=
  ⟨grown_trans hg (grown_alloc _ _ _), h.below ((Below.refl _ _).alloc (Nat.le_refl _) _), heap_alloc_new W _, h.lt, hg.size⟩
theorem Rx.call (h : Rx W0 W g X T cx s b) (hg : W.grownBy W' (some g)) (hr : R2 g r c W') : Rx W0 W' g X T cx r c :=
  ⟨grown_trans h.grown hg, hr, (hg.block X (lt_of_heap h.var) (fun e => by have := Option.some.inj e; have := h.gx; omega)).trans h.var, h.gx, h.wx⟩
theorem Rx.set (h : Rx W0 W g X T cx s b) (j : Nat) (v : Value) : Rx W0 (W.setCell ⟨X, j, none⟩ v) g X T (cx.setIfInBounds j v) s b := by
  have hb := grown_set W X j v
  refine ⟨grown_other h.grown h.wx v, (hb.block g h.rb.lt (fun e => by have := Option.some.inj e; have := h.gx; omega)).trans h.rb, ?_, h.gx, h.wx⟩
  rw [heap_setCell_same W X j _ _ _ h.var]
theorem Rx.flag (h : Rx W0 W g X T cx s b) (c : Bool) : Rx W0 (W.setCell ⟨g, 1, none⟩ (.bool c)) g X T cx s c :=
  h.call (grown_set W g 1 _) (h.rb.set1 c)
theorem Rx.cell (h : Rx W0 W g X T cx s b) {j : Nat} {x : Value} (hx : cx[j]? = some x) : W.cell? ⟨X, j, none⟩ = some x := (cell_of_row W _ j _ _ _ h.var).trans hx
theorem Rx.frozen (h : Rx W0 W g X T cx s b) (j : Nat) : W.frozen? ⟨X, j, none⟩ = false := frozen_of_row W _ j _ _ h.var
theorem Rx.lt (h : Rx W0 W g X T cx s b) : X < W.heap.size := lt_of_heap h.var
theorem Rx.app (h : Rx W0 W g X T cx s b) {o : Obj} {v : Value} (hgr : (W.alloc o).grownBy W' v.ownBlock) (hlt : ∀ k, v.ownBlock = some k → X + 1 ≤ k) : Rx W0 W' g X T cx s b := by
  have hx := h.wx
  have hgx := h.gx
  have hga := grown_trans h.grown (grown_alloc W o (some g))
  have hv : (W.alloc o).heap[X]? = some (.cells cx T (0, 0)) := (((Below.refl _ _).alloc (Nat.le_refl _) o : Below W.heap.size W (W.alloc o)).block X h.lt).trans h.var
  refine ⟨grown_row hga hgr (fun k hk => by have := hlt k hk; omega), (h.rb.below ((Below.refl _ _).alloc (Nat.le_refl _) _)).grown hgr hlt (by omega), ?_, hgx, hx⟩
  exact (hgr.block X (lt_of_heap hv) (fun e => by have := hlt X e.symm; omega)).trans hv
end
/-- four lists of the call's own -/
structure RI (B : Nat) (W : World) (x4 x5 x6 x7 : List Int) (v4 v5 v6 v7 : Value) : Prop where
  h4 : W.ownsRow B 3 1 v4 x4.length (intV x4)
  h5 : W.ownsRow B 3 1 v5 x5.length (intV x5)
  h6 : W.ownsRow B 3 1 v6 x6.length (intV x6)
  h7 : W.ownsRow B 3 1 v7 x7.length (intV x7)
section
variable {B g : Nat} {W W' : World} {x4 x5 x6 x7 : List Int} {v4 v5 v6 v7 : Value}
theorem RI.grown (h : RI B W x4 x5 x6 x7 v4 v5 v6 v7) (hB : g < B) (hg : W.grownBy W' (some g)) : RI B W' x4 x5 x6 x7 v4 v5 v6 v7 :=
  ⟨own_grown h.h4 hB hg, own_grown h.h5 hB hg, own_grown h.h6 hB hg, own_grown h.h7 hB hg⟩
theorem RI.le {B' : Nat} (h : RI B W x4 x5 x6 x7 v4 v5 v6 v7) (hB : B' ≤ B) : RI B' W x4 x5 x6 x7 v4 v5 v6 v7 :=
  ⟨own_le h.h4 hB, own_le h.h5 hB, own_le h.h6 hB, own_le h.h7 hB⟩
theorem RI.app (h : RI B W x4 x5 x6 x7 v4 v5 v6 v7) {o : Obj} {n size : Nat} {e : TypeId} {v : Value} {xs : List Value} (ho : W.ownsRow B e size v n xs) (hte : e ≠ 3) (hg : (W.alloc o).grownBy W' v.ownBlock) : RI B W' x4 x5 x6 x7 v4 v5 v6 v7 :=
  ⟨(h.h4.alloc _).kept hg (own_apart ho h.h4 hte), (h.h5.alloc _).kept hg (own_apart ho h.h5 hte), (h.h6.alloc _).kept hg (own_apart ho h.h6 hte), (h.h7.alloc _).kept hg (own_apart ho h.h7 hte)⟩
end
/-- nine cells written one after another -/
def put9 (W : World) (K : Nat) (a0 a1 a2 a3 a4 a5 a6 a7 a8 : Value) : World :=
  ((((((((W.setCell ⟨K, 0, none⟩ a0).setCell ⟨K, 1, none⟩ a1).setCell ⟨K, 2, none⟩ a2).setCell ⟨K, 3, none⟩ a3).setCell ⟨K, 4, none⟩ a4).setCell ⟨K, 5, none⟩ a5).setCell ⟨K, 6, none⟩ a6).setCell ⟨K, 7, none⟩ a7).setCell ⟨K, 8, none⟩ a8
theorem put9_grown (W : World) (K : Nat) (a0 a1 a2 a3 a4 a5 a6 a7 a8 : Value) : W.grownBy (put9 W K a0 a1 a2 a3 a4 a5 a6 a7 a8) (some K) :=
  grown_trans (grown_trans (grown_trans (grown_trans (grown_trans (grown_trans (grown_trans (grown_trans (grown_set _ K 0 a0) (grown_set _ K 1 a1)) (grown_set _ K 2 a2)) (grown_set _ K 3 a3)) (grown_set _ K 4 a4)) (grown_set _ K 5 a5)) (grown_set _ K 6 a6)) (grown_set _ K 7 a7)) (grown_set _ K 8 a8)
theorem put9_row {W : World} {K : Nat} {T : TypeId} {z0 z1 z2 z3 z4 z5 z6 z7 z8 : Value} (h : W.heap[K]? = some (.cells #[z0, z1, z2, z3, z4, z5, z6, z7, z8] T (0, 0))) (a0 a1 a2 a3 a4 a5 a6 a7 a8 : Value) :
    (put9 W K a0 a1 a2 a3 a4 a5 a6 a7 a8).heap[K]? = some (.cells #[a0, a1, a2, a3, a4, a5, a6, a7, a8] T (0, 0)) := by
  unfold put9
  have h0 : _ = some (Obj.cells #[a0, z1, z2, z3, z4, z5, z6, z7, z8] T (0, 0)) := heap_setCell_same W K 0 _ _ a0 h
  have h1 : _ = some (Obj.cells #[a0, a1, z2, z3, z4, z5, z6, z7, z8] T (0, 0)) := heap_setCell_same _ K 1 _ _ a1 h0
  have h2 : _ = some (Obj.cells #[a0, a1, a2, z3, z4, z5, z6, z7, z8] T (0, 0)) := heap_setCell_same _ K 2 _ _ a2 h1
  have h3 : _ = some (Obj.cells #[a0, a1, a2, a3, z4, z5, z6, z7, z8] T (0, 0)) := heap_setCell_same _ K 3 _ _ a3 h2
  have h4 : _ = some (Obj.cells #[a0, a1, a2, a3, a4, z5, z6, z7, z8] T (0, 0)) := heap_setCell_same _ K 4 _ _ a4 h3
  have h5 : _ = some (Obj.cells #[a0, a1, a2, a3, a4, a5, z6, z7, z8] T (0, 0)) := heap_setCell_same _ K 5 _ _ a5 h4
  have h6 : _ = some (Obj.cells #[a0, a1, a2, a3, a4, a5, a6, z7, z8] T (0, 0)) := heap_setCell_same _ K 6 _ _ a6 h5
  have h7 : _ = some (Obj.cells #[a0, a1, a2, a3, a4, a5, a6, a7, z8] T (0, 0)) := heap_setCell_same _ K 7 _ _ a7 h6
  exact heap_setCell_same _ K 8 _ _ a8 h7
end Go.Proofs.Ytlbhkendbngmaaa.Wi
