/- Own texts, joined: Bp, Zd. -/
import Derived.Test.YtcnfcililiehlaaGreatDoorR7
import Derived.Test.YtcnfcililiehlaaGreatDoorR19
import Derived.Test.YtcnfcililiehlaaGreatDoorR31
import Derived.TacticsInMore
import Derived.Shelf.RegionOpen
import Derived.OwnWalkIn
namespace Go.Proofs.YtcnfcililiehlaaGreatDoor.Ch
open Go.RowKit Go.Shelf
attribute [local go_sem] Oper.semAt_some
structure PrsPost (l : List UInt8) (w : World) (e : Ending) (w' : World) : Prop where
 ret : ∃ eV vV sV tV sp tp, e = .returned (.tuple #[.agg #[bstr (parseC l).1.nm, eV, vV, sV, tV], .int .i64 (parseC l).2.1, .int .i64 (parseC l).2.2]) /\ ChO w.heap.size w' (parseC l).1 eV vV sV tV sp tp
 below : Below w.heap.size w w'
theorem PrsPost.no {l : List UInt8} {w w' : World} {k : Nat} {e k' : Int} (h : parseC l = (noCH, k, e)) (hk : (k : Int) = k') (hb : Below w.heap.size w w') : PrsPost l w (.returned (.tuple #[.agg #[.string ⟨#[]⟩, .slice none 0 0, .slice none 0 0, .slice none 0 0, .slice none 0 0], .int .i64 k', .int .i64 e])) w' := by
 subst hk;refine ⟨⟨.slice none 0 0, .slice none 0 0, .slice none 0 0, .slice none 0 0, [], [], ?_, ?_⟩, hb⟩
 ·rw [h]; rfl
 ·rw [h]; exact ChO.zero _ _
theorem PrsPost.yes {l : List UInt8} {w w' : World} {c : CH} {N : ByteArray} {eV vV sV tV : Value} {sp : List SP} {tp : List TP} (h : parseC l = (c, 0, 0)) (hN : bstr c.nm = .string N) (hO : ChO w.heap.size w' c eV vV sV tV sp tp) (hb : Below w.heap.size w w') : PrsPost l w (.returned (.tuple #[.agg #[.string N, eV, vV, sV, tV], .int .i64 0, .int .i64 0])) w' := by
 refine ⟨⟨eV, vV, sV, tV, sp, tp, ?_, ?_⟩, hb⟩
 ·rw [h, hN]; rfl
 ·rw [h]; exact hO
theorem box_below {W W' : World} {B : Nat} {t : TypeId} {v : Value} (h : Boxed W B t v) (hb : Below W.heap.size W W') : Boxed W' B t v := (hb.block B h.lt).trans h
theorem ownsMap_below {W W' : World} {b n : Nat} {D : DataW Unit} (h : W.ownsMap Tryz.prog 9 fR b n D) (hb : Below W.heap.size W W') : W'.ownsMap Tryz.prog 9 fR b n D := by
 have hlt := h.lt;obtain ⟨es, ck, h1, F, hs, hD⟩ := h;exact ⟨es, ck, (hb.block b hlt).trans h1, F, hs, hD⟩
theorem pieces_le : ∀ (l : List UInt8), ∀ x ∈ pieces l, x.length <= l.length := by
 intro l
 induction l with
 | nil => simp [pieces_nil]
 | cons c r ih =>
  intro x hx;by_cases hc : c = 32
  ·subst hc; rw [pieces_blank] at hx;rcases List.mem_cons.1 hx with rfl | hx
   ·simp
   ·have := ih x hx; simp; omega
  ·rw [pieces_cons hc] at hx;cases hp : pieces r with
   | nil => exact absurd hp (pieces_ne r)
   | cons y z =>
    rw [hp] at hx ih;simp only [glue, List.mem_cons] at hx;rcases hx with rfl | hx
    ·have := ih y (by simp); simp; omega
    ·have := ih x (by simp [hx]); simp; omega
theorem word_le {l : List UInt8} {F : List UInt8} {r : List (List UInt8)} (h : lineW l = F :: r) : ∀ x ∈ F :: r, x.length <= l.length := by
 intro x hx;rw [<- h] at hx;unfold lineW at hx;have := pieces_le _ x hx;simp at this;omega
theorem cells5 {W : World} {b : Nat} {t : TypeId} {x0 x1 x2 x3 x4 : Value} (h : W.heap[b]? = some (.cells #[x0, x1, x2, x3, x4] t (0, 0))) : W.cell? ⟨b, 0, none⟩ = some x0 /\ W.cell? ⟨b, 1, none⟩ = some x1 /\ W.cell? ⟨b, 2, none⟩ = some x2 /\ W.cell? ⟨b, 3, none⟩ = some x3 /\ W.cell? ⟨b, 4, none⟩ = some x4 := by
 refine ⟨?_, ?_, ?_, ?_, ?_⟩ <;> (unfold World.cell?; rw [h]; rfl)
theorem frozen5 {W : World} {b : Nat} {t : TypeId} {x : Array Value} (h : W.heap[b]? = some (.cells x t (0, 0))) (j : Nat) : W.frozen? ⟨b, j, none⟩ = false := by simp [World.frozen?, h]
def outW (W : World) (P : Nat) (x0 x1 x2 x3 x4 n e : Value) : World :=
 ((((((W.setCell ⟨P, 0, none⟩ x0).setCell ⟨P, 1, none⟩ x1).setCell ⟨P, 2, none⟩ x2).setCell ⟨P, 3, none⟩ x3).setCell ⟨P, 4, none⟩ x4).setCell ⟨P + 1, 0, none⟩ n).setCell ⟨P + 1 + 1, 0, none⟩ e
theorem setCell_row {W : World} {b j : Nat} {t : TypeId} {x : Array Value} (h : W.heap[b]? = some (.cells x t (0, 0))) (v : Value) : (W.setCell ⟨b, j, none⟩ v).heap[b]? = some (.cells (x.setIfInBounds j v) t (0, 0)) := by
 have := lt_of_heap h;simp [World.setCell, Array.getElem?_modify, h]
theorem out_heap (W : World) (P : Nat) (x0 x1 x2 x3 x4 n e : Value) {k : Nat} (h0 : k ≠ P) (h1 : k ≠ P + 1) (h2 : k ≠ P + 1 + 1) : (outW W P x0 x1 x2 x3 x4 n e).heap[k]? = W.heap[k]? := by
 unfold outW;rw [Below.heap_setCell _ _ _ k h2, Below.heap_setCell _ _ _ k h1, Below.heap_setCell _ _ _ k h0, Below.heap_setCell _ _ _ k h0, Below.heap_setCell _ _ _ k h0, Below.heap_setCell _ _ _ k h0, Below.heap_setCell _ _ _ k h0]
theorem out_size (W : World) (P : Nat) (x0 x1 x2 x3 x4 n e : Value) : (outW W P x0 x1 x2 x3 x4 n e).heap.size = W.heap.size := by simp [outW]
theorem out_boxes {W : World} {P : Nat} {y0 y1 y2 y3 y4 n' e' : Value} (h2 : W.heap[P]? = some (.cells #[y0, y1, y2, y3, y4] 27 (0, 0))) (h3 : Boxed W (P + 1) 3 n') (h4 : Boxed W (P + 1 + 1) 53 e') (x0 x1 x2 x3 x4 n e : Value) :
 (outW W P x0 x1 x2 x3 x4 n e).heap[P]? = some (.cells #[x0, x1, x2, x3, x4] 27 (0, 0)) /\ Boxed (outW W P x0 x1 x2 x3 x4 n e) (P + 1) 3 n /\ Boxed (outW W P x0 x1 x2 x3 x4 n e) (P + 1 + 1) 53 e := by
 refine ⟨?_, ?_, ?_⟩
 ·unfold outW;rw [Below.heap_setCell _ _ _ P (by show P ≠ P + 1 + 1; omega), Below.heap_setCell _ _ _ P (by show P ≠ P + 1; omega)];have a0 := setCell_row (j := 0) h2 x0;rw [show #[y0, y1, y2, y3, y4].setIfInBounds 0 x0 = #[x0, y1, y2, y3, y4] from rfl] at a0;have a1 := setCell_row (j := 1) a0 x1;rw [show #[x0, y1, y2, y3, y4].setIfInBounds 1 x1 = #[x0, x1, y2, y3, y4] from rfl] at a1;have a2 := setCell_row (j := 2) a1 x2;rw [show #[x0, x1, y2, y3, y4].setIfInBounds 2 x2 = #[x0, x1, x2, y3, y4] from rfl] at a2;have a3 := setCell_row (j := 3) a2 x3;rw [show #[x0, x1, x2, y3, y4].setIfInBounds 3 x3 = #[x0, x1, x2, x3, y4] from rfl] at a3;have a4 := setCell_row (j := 4) a3 x4;rw [show #[x0, x1, x2, x3, y4].setIfInBounds 4 x4 = #[x0, x1, x2, x3, x4] from rfl] at a4;exact a4
 ·obtain ⟨Y, hY⟩ : ∃ Y, Y = ((((W.setCell ⟨P, 0, none⟩ x0).setCell ⟨P, 1, none⟩ x1).setCell ⟨P, 2, none⟩ x2).setCell ⟨P, 3, none⟩ x3).setCell ⟨P, 4, none⟩ x4 := ⟨_, rfl⟩
  have hb : Boxed Y (P + 1) 3 n' := by
   rw [hY];unfold Boxed;rw [Below.heap_setCell _ _ _ (P + 1) (by show P + 1 ≠ P; omega), Below.heap_setCell _ _ _ (P + 1) (by show P + 1 ≠ P; omega), Below.heap_setCell _ _ _ (P + 1) (by show P + 1 ≠ P; omega), Below.heap_setCell _ _ _ (P + 1) (by show P + 1 ≠ P; omega), Below.heap_setCell _ _ _ (P + 1) (by show P + 1 ≠ P; omega)];exact h3
  unfold outW;rw [<- hY];exact (hb.set n).other (by omega) _
 ·obtain ⟨Y, hY⟩ : ∃ Y, Y = (((((W.setCell ⟨P, 0, none⟩ x0).setCell ⟨P, 1, none⟩ x1).setCell ⟨P, 2, none⟩ x2).setCell ⟨P, 3, none⟩ x3).setCell ⟨P, 4, none⟩ x4).setCell ⟨P + 1, 0, none⟩ n := ⟨_, rfl⟩
  have hb : Boxed Y (P + 1 + 1) 53 e' := by
   rw [hY];unfold Boxed;rw [Below.heap_setCell _ _ _ (P + 1 + 1) (by show P + 1 + 1 ≠ P + 1; omega), Below.heap_setCell _ _ _ (P + 1 + 1) (by show P + 1 + 1 ≠ P; omega), Below.heap_setCell _ _ _ (P + 1 + 1) (by show P + 1 + 1 ≠ P; omega), Below.heap_setCell _ _ _ (P + 1 + 1) (by show P + 1 + 1 ≠ P; omega), Below.heap_setCell _ _ _ (P + 1 + 1) (by show P + 1 + 1 ≠ P; omega), Below.heap_setCell _ _ _ (P + 1 + 1) (by show P + 1 + 1 ≠ P; omega)];exact h4
  unfold outW;rw [<- hY];exact hb.set e
theorem out_below {w W : World} (h : Below w.heap.size w W) (x0 x1 x2 x3 x4 n e : Value) : Below w.heap.size w (outW W w.heap.size x0 x1 x2 x3 x4 n e) :=
 ((((((h.setCell (Nat.le_refl _) _).setCell (Nat.le_refl _) _).setCell (Nat.le_refl _) _).setCell (Nat.le_refl _) _).setCell (Nat.le_refl _) _).setCell (by simp) _).setCell (by simp; omega) _
theorem own_same {w w' : World} {B B' : Nat} (hk : ∀ (k : Nat) (cur : Array Value) (t : TypeId), B <= k -> w.heap[k]? = some (Obj.cells cur t (0, 0)) -> w'.heap[k]? = some (Obj.cells cur t (0, 0))) (hB : B' <= B) {e : TypeId} {size n : Nat} {v : Value} {xs : List Value} (h : w.ownsRow B e size v n xs) : w'.ownsRow B' e size v n xs := by
 obtain ⟨h0, h | ⟨g, cap, cur, h1, h2, h3, h4⟩⟩ := h
 ·exact ⟨h0, Or.inl h⟩
 ·exact ⟨h0, Or.inr ⟨g, cap, cur, h1, Nat.le_trans hB h2, hk g cur e h2 h3, h4⟩⟩
theorem ChO.same {w w' : World} {B B' : Nat} (hk : ∀ (k : Nat) (cur : Array Value) (t : TypeId), B <= k -> w.heap[k]? = some (Obj.cells cur t (0, 0)) -> w'.heap[k]? = some (Obj.cells cur t (0, 0))) (hB : B' <= B) {c : CH} {eV vV sV tV : Value} {sp : List SP} {tp : List TP} (h : ChO B w c eV vV sV tV sp tp) : ChO B' w' c eV vV sV tV sp tp := by
 have bl : ∀ {v : Value} {l : List AM}, BlkO B w v l -> BlkO B' w' v l := by
  rintro v l ⟨al, h1, h2, h3⟩;exact ⟨al, h1, own_same hk hB h2, fun p hp => ⟨own_same hk hB (h3 p hp).own, (h3 p hp).len, (h3 p hp).names, (h3 p hp).name⟩⟩
 exact ⟨own_same hk hB h.es, own_same hk hB h.vs, h.ssE, own_same hk hB h.ss, h.tsE, own_same hk hB h.ts, fun p hp => ⟨bl (h.sd p hp).1, bl (h.sd p hp).2⟩, fun p hp => ⟨⟨own_same hk hB (h.td p hp).1.own, (h.td p hp).1.len, (h.td p hp).1.names⟩, bl (h.td p hp).2⟩⟩
structure PrsS (w Ws : World) (s : ByteArray) (B6 : Nat) : Prop where
 z : Ws.heap.size = B6 + 1 + 1 + 1
 lo : w.heap.size + 5 <= B6
 r2 : Ws.heap[w.heap.size]? = some (.cells #[.string ⟨#[]⟩, .slice none 0 0, .slice none 0 0, .slice none 0 0, .slice none 0 0] 27 (0, 0))
 r3 : Boxed Ws (w.heap.size + 1) 3 (.int .i64 0)
 r4 : Boxed Ws (w.heap.size + 1 + 1) 53 (.int .i64 0)
 rd : OwnCh (w.heap.size + 1 + 1 + 1) (B6 + 1 + 1 + 1) 67 Ws noCH (.slice none 0 0) (.slice none 0 0) (.slice none 0 0) (.slice none 0 0) [] []
 map : Ws.ownsMap Tryz.prog 9 fR (w.heap.size + 1 + 1 + 1 + 1) 14 fnD
 b6 : Boxed Ws B6 68 (.map (some (w.heap.size + 1 + 1 + 1 + 1)))
 b7 : Boxed Ws (B6 + 1) 3 (.int .i64 1)
 bs : Boxed Ws (B6 + 1 + 1) 9 (.string s)
 below : Below w.heap.size w Ws
theorem heap_at {W : World} {B : Nat} {o : Obj} (hB : W.heap.size = B) : (W.alloc o).heap[B]? = some o := hB ▸ World.alloc_heap_new W o
theorem heap_old {W : World} {B : Nat} {o o' : Obj} (h : W.heap[B]? = some o) : (W.alloc o').heap[B]? = some o := (Below.heap_alloc W _ _ (lt_of_heap h)).trans h
theorem boxed_at {W : World} {B : Nat} {t : TypeId} {v : Value} (hB : W.heap.size = B) : Boxed (W.alloc (.cells #[v] t)) B t v := hB ▸ Boxed.new W t v
theorem prs_start {w w4 w1 Ws : World} {s : ByteArray} (hw4 : w4 = (((w.alloc (.cells #[.string ⟨#[]⟩, .slice none 0 0, .slice none 0 0, .slice none 0 0, .slice none 0 0] 27)).alloc (.cells #[.int .i64 0] 3)).alloc (.cells #[.int .i64 0] 53)).alloc (.cells #[.string ⟨#[]⟩, .slice none 0 0, .slice none 0 0, .slice none 0 0, .slice none 0 0] 67))
 (ho : w1.ownsMap Tryz.prog 9 fR (w.heap.size + 1 + 1 + 1 + 1) 14 fnD) (hb : Below w4.heap.size w4 w1)
 (hWs : Ws = ((w1.alloc (.cells #[.map (some (w.heap.size + 1 + 1 + 1 + 1))] 68)).alloc (.cells #[.int .i64 1] 3)).alloc (.cells #[.string s] 9)) : PrsS w Ws s w1.heap.size := by
 have hz4 : w4.heap.size = w.heap.size + 4 := by rw [hw4]; simp
 have hlt := ho.lt;have kp : ∀ {B : Nat} {o : Obj}, w4.heap[B]? = some o -> Ws.heap[B]? = some o := fun {B o} h => by
  have h1 := (hb.block B (lt_of_heap h)).trans h;rw [hWs];exact heap_old (heap_old (heap_old h1))
 have hr2 : w4.heap[w.heap.size]? = some (.cells #[.string ⟨#[]⟩, .slice none 0 0, .slice none 0 0, .slice none 0 0, .slice none 0 0] 27 (0, 0)) := by rw [hw4]; exact heap_old (heap_old (heap_old (heap_at rfl)))
 have hr3 : w4.heap[w.heap.size + 1]? = some (.cells #[.int .i64 0] 3 (0, 0)) := by rw [hw4]; exact heap_old (heap_old (heap_at (by simp)))
 have hr4 : w4.heap[w.heap.size + 1 + 1]? = some (.cells #[.int .i64 0] 53 (0, 0)) := by rw [hw4]; exact heap_old (heap_at (by simp))
 have hrb : w4.heap[w.heap.size + 1 + 1 + 1]? = some (.cells #[.string ⟨#[]⟩, .slice none 0 0, .slice none 0 0, .slice none 0 0, .slice none 0 0] 67 (0, 0)) := by rw [hw4]; exact heap_at (by simp)
 have hzs : Ws.heap.size = w1.heap.size + 1 + 1 + 1 := by rw [hWs]; simp
 have hb4 : Below w.heap.size w w4 := by rw [hw4]; exact ((((Below.refl _ _).alloc (Nat.le_refl _) _).alloc (by simp) _).alloc (by simp; omega) _).alloc (by simp; omega) _
 have hbs : Below w.heap.size w Ws := by
  have h1 := hb4.trans (hb.mono hb4.size);rw [hWs];exact ((h1.alloc h1.size _).alloc (by simp; have := h1.size; omega) _).alloc (by simp; have := h1.size; omega) _
 refine ⟨hzs, by omega, kp hr2, kp hr3, kp hr4, ⟨kp hrb, by omega, by omega, World.ownsRow_nil _ _ _ _, World.ownsRow_nil _ _ _ _, rfl, World.ownsRow_nil _ _ _ _, rfl, World.ownsRow_nil _ _ _ _, fun p hp => (by cases hp), fun p hp => (by cases hp)⟩, ?_, ?_, ?_, ?_, hbs⟩
 ·rw [hWs]; exact ((ho.alloc _).alloc _).alloc _
 ·rw [hWs]; exact ((boxed_at rfl).alloc _).alloc _
 ·rw [hWs]; exact (boxed_at (by simp)).alloc _
 ·rw [hWs]; exact boxed_at (by simp)
theorem PrsS.start {w Ws : World} {s : ByteArray} {B6 : Nat} (h : PrsS w Ws s B6) : PcI w Ws (w.heap.size + 1 + 1 + 1) (B6 + 1) (B6 + 1 + 1) (B6 + 1 + 1 + 1) [] noCH Ws :=
 ⟨rfl, ⟨by decide, by decide, by decide, by decide, fun s hs => (by cases hs)⟩, Or.inl ⟨rfl, rfl⟩, ⟨_, _, _, _, _, _, h.rd⟩, h.b7, fun _ _ _ _ _ => rfl, h.below⟩
structure PrsX (w : World) (pre : List Pc) (W : World) : Prop where
 r2 : W.heap[w.heap.size]? = some (.cells #[.string ⟨#[]⟩, .slice none 0 0, .slice none 0 0, .slice none 0 0, .slice none 0 0] 27 (0, 0))
 r3 : Boxed W (w.heap.size + 1) 3 (.int .i64 pre.length)
 r4 : Boxed W (w.heap.size + 1 + 1) 53 (.int .i64 1)
 why : ∃ pre' x c, pre = pre' ++ [x] /\ foldC noCH (pre'.map trL) = some c /\ lineC c (trL x) = none
 below : Below w.heap.size w W
theorem prs_left {w Ws W Y : World} {s : ByteArray} {B6 : Nat} {pre : List Pc} {x : Pc} {c : CH} {I : List Pc -> World -> Prop} {eV vV sV tV : Value} {sp : List SP} {tp : List TP} (hS : PrsS w Ws s B6) (hI : PcI w Ws (w.heap.size + 1 + 1 + 1) (B6 + 1) (B6 + 1 + 1) Ws.heap.size pre c W) (_hO : OwnCh (w.heap.size + 1 + 1 + 1) Ws.heap.size 67 W c eV vV sV tV sp tp) (hK : KeptB (w.heap.size + 1 + 1 + 1) Ws.heap.size W Y) (hx : lineC c (trL x) = none) (a : Act) :
 LeftS Ws.heap.size (B6 + 1 + 1) I (fun pre W => PrsX w pre W) (pre ++ [x]) W Exit.ret a (outW Y w.heap.size (.string ⟨#[]⟩) (.slice none 0 0) (.slice none 0 0) (.slice none 0 0) (.slice none 0 0) (.int .i64 ((pre.length : Int) + 1)) (.int .i64 1)).drew := by
 have hz := hS.z;have hlo := hS.lo;have e2 := (hK.block w.heap.size (by omega) (by omega)).trans ((hI.keep w.heap.size (by omega) (by omega) (by omega) (by omega)).trans hS.r2);have e3 : Boxed Y (w.heap.size + 1) 3 (.int .i64 0) := (hK.block _ (by omega) (by omega)).trans ((hI.keep _ (by omega) (by omega) (by omega) (by omega)).trans hS.r3);have e4 : Boxed Y (w.heap.size + 1 + 1) 53 (.int .i64 0) := (hK.block _ (by omega) (by omega)).trans ((hI.keep _ (by omega) (by omega) (by omega) (by omega)).trans hS.r4);obtain ⟨q2, q3, q4⟩ := out_boxes e2 e3 e4 (.string ⟨#[]⟩) (.slice none 0 0) (.slice none 0 0) (.slice none 0 0) (.slice none 0 0) (.int .i64 ((pre.length : Int) + 1)) (.int .i64 1);have hb := out_below (hI.below.trans (hK.below (B0 := w.heap.size) (by omega) (by omega))) (.string ⟨#[]⟩) (.slice none 0 0) (.slice none 0 0) (.slice none 0 0) (.slice none 0 0) (.int .i64 ((pre.length : Int) + 1)) (.int .i64 1);have hsz := out_size Y w.heap.size (.string ⟨#[]⟩) (.slice none 0 0) (.slice none 0 0) (.slice none 0 0) (.slice none 0 0) (.int .i64 ((pre.length : Int) + 1)) (.int .i64 1);have hoh : ∀ k, w.heap.size + 3 <= k -> _ := fun k hk => out_heap Y w.heap.size (.string ⟨#[]⟩) (.slice none 0 0) (.slice none 0 0) (.slice none 0 0) (.slice none 0 0) (.int .i64 ((pre.length : Int) + 1)) (.int .i64 1) (k := k) (by omega) (by omega) (by omega)
 generalize outW Y w.heap.size _ _ _ _ _ _ _ = X at *
 have hsz2 : W.heap.size <= X.heap.size := by rw [hsz]; exact hK.size
 have hl : ((pre ++ [x]).length : Int) = (pre.length : Int) + 1 := by simp
 refine ⟨⟨hsz2, fun k o hk h1 h2 => (hoh k (by omega)).trans (hK.others k o h1 h2)⟩, ⟨q2, ?_, q4, ⟨pre, x, c, rfl, hI.fold, hx⟩, ⟨hb.os, hb.tape, hb.output, hb.size, hb.block⟩⟩⟩;rw [hl];exact q3
theorem prs_on {w Ws W Y : World} {s : ByteArray} {B6 : Nat} {pre : List Pc} {x : Pc} {c c' : CH} {Ix : List Pc -> World -> Prop} {F : List UInt8} {g : StepS} {d : Nat} {r : List (List UInt8)} (hS : PrsS w Ws s B6) (hI : PcI w Ws (w.heap.size + 1 + 1 + 1) (B6 + 1) (B6 + 1 + 1) Ws.heap.size pre c W) (hK : KeptB (w.heap.size + 1 + 1 + 1) Ws.heap.size W Y) (hx : lineC c (trL x) = some c') (hg : g c d r = some c') (hf : stepF F = some g) (hd : d <= 6000) (hR : Rdr (w.heap.size + 1 + 1 + 1) Ws.heap.size 67 Y c') (a : Act) :
 LeftS Ws.heap.size (B6 + 1 + 1) (fun pre W => ∃ c, PcI w Ws (w.heap.size + 1 + 1 + 1) (B6 + 1) (B6 + 1 + 1) Ws.heap.size pre c W) Ix (pre ++ [x]) W Exit.normal a (Y.setCell ⟨B6 + 1, 0, none⟩ (.int .i64 ((pre.length : Int) + 1 + 1))) := by
 have hz := hS.z;have hlo := hS.lo;obtain ⟨eV, vV, sV, tV, sp, tp, hO⟩ := hR;have hgr := grownBy_setCell' Y (B6 + 1) (.int .i64 ((pre.length : Int) + 1 + 1));have hb7 : Boxed Y (B6 + 1) 3 (.int .i64 ((pre.length : Int) + 1)) := (hK.block _ (by omega) (by omega)).trans hI.num;have hne : ∀ k, k ≠ B6 + 1 -> (Y.setCell ⟨B6 + 1, 0, none⟩ (.int .i64 ((pre.length : Int) + 1 + 1))).heap[k]? = Y.heap[k]? := fun k hk => Below.heap_setCell _ _ _ k hk
 have hs7 := hb7.set (.int .i64 ((pre.length : Int) + 1 + 1));have hO7 := hO.bear hgr (BS := B6 + 1) (fun k hk => Or.inl (by cases hk; rfl)) (by omega) (by omega);have hb := (hI.below.trans (hK.below (B0 := w.heap.size) (by omega) (by omega))).setCell (p := ⟨B6 + 1, 0, none⟩) (show w.heap.size <= B6 + 1 by omega) (.int .i64 ((pre.length : Int) + 1 + 1));have hsz := hgr.size;generalize Y.setCell ⟨B6 + 1, 0, none⟩ _ = X at *
 have hl : ((pre ++ [x]).length : Int) = (pre.length : Int) + 1 := by simp
 have hl' : (pre ++ [x]).length = pre.length + 1 := by simp
 have hnm : Nmd c := by
  rcases hI.nmd with ⟨_, h⟩ | ⟨_, h⟩
  ·exact Or.inl h
  ·exact Or.inr h
 refine ⟨⟨Nat.le_trans hK.size hsz, fun k o hk h1 h2 => (hne k (by omega)).trans (hK.others k o h1 h2)⟩, (hne _ (by omega)).trans (hK.block _ (by omega) (by omega)), c', ?_, ?_, Or.inr ⟨by simp, lineC_nm hnm hx⟩, ⟨_, _, _, _, _, _, hO7⟩, ?_, ?_, hb⟩
 ·rw [List.map_append, foldC_append hI.fold];show (match lineC c (trL x) with | none => none | some c' => foldC c' []) = _;rw [hx]; rfl
 ·rw [hl']; exact step_bdd hf hI.bdd hd hg
 ·rw [hl]; exact hs7
 ·intro k hk k1 k2 k3;exact (hne k k2).trans ((hK.block k hk k1).trans (hI.keep k hk k1 k2 k3))
theorem PrsX.no {w W : World} {s : ByteArray} {pre : List Pc} (h : PrsX w pre W) (hs : s.size <= 6000) (hp : pre.map pcL <+: cutsL s.data.toList) : parseC s.data.toList = (noCH, (pre.length : Nat), 1) := by
 obtain ⟨pre', x, c, rfl, hc, hx⟩ := h.why;obtain ⟨rest, hr⟩ := hp;have hl : linesL s.data.toList = pre'.map trL ++ (trL x :: rest.map fun p => Lib.trimSuffix p [10]) := by
  rw [lines_cuts, <- hr];simp [trL, Function.comp_def]
 have hne : s.data.toList ≠ [] := by
  intro e;rw [e] at hl;simp [linesL] at hl
 have hlen : ¬ 6000 < s.data.toList.length := by rw [<- Lib.size_eq]; omega
 unfold parseC;rw [if_neg hlen, if_neg hne, hl, runC_split hc];unfold runC;rw [hx];simp [Nat.add_comm]
theorem PcI.yes {w Ws W : World} {b B7 BS B : Nat} {s : ByteArray} {xs : List Pc} {c : CH} (h : PcI w Ws b B7 BS B xs c W) (hs : s.size <= 6000) (hp : xs.map pcL = cutsL s.data.toList) : (c.nm = [] /\ parseC s.data.toList = (noCH, 1, 1)) \/ (c.nm ≠ [] /\ parseC s.data.toList = (c, 0, 0)) := by
 have hl : linesL s.data.toList = xs.map trL ++ [] := by
  rw [lines_cuts, <- hp];simp [trL, Function.comp_def]
 have hlen : ¬ 6000 < s.data.toList.length := by rw [<- Lib.size_eq]; omega
 rcases h.nmd with ⟨rfl, rfl⟩ | ⟨hn, hc⟩
 ·left;refine ⟨rfl, ?_⟩;have he : s.data.toList = [] := by
   cases hq : s.data.toList with
   | nil => rfl
   | cons a r => rw [hq] at hl; exact absurd hl (linesL_ne (by simp))
  unfold parseC;rw [if_neg hlen, if_pos he]
 ·right;refine ⟨hc, ?_⟩;have hne : s.data.toList ≠ [] := by
   intro e;rw [e] at hl;cases xs with
   | nil => exact hn rfl
   | cons a r => simp [linesL] at hl
  unfold parseC;rw [if_neg hlen, if_neg hne, hl, runC_split h.fold];rfl
theorem mem_cut {s : ByteArray} {pre : List Pc} {x : Pc} (h : (pre ++ [x]).map pcL <+: cutsL s.data.toList) : trL x ∈ linesL s.data.toList := by
 rw [lines_cuts];obtain ⟨r, hr⟩ := h;refine List.mem_map.2 ⟨pcL x, ?_, rfl⟩;rw [<- hr];simp
set_option maxRecDepth 100000 in
set_option maxHeartbeats 8000000 in
theorem parse_of (s : ByteArray) (w : World) (hE : Env w) (hK : ∀ l ∈ linesL s.data.toList, ∀ F r, lineW l = F :: r -> Known F r) : Calls Tryz.prog 30 #[.string s] w (PrsPost s.data.toList w) := by
 have HR := Lib.hid readings_any;have HL := Lib.hid lines_any;have HE := Lib.hid hE; have HKN := Lib.hid hK;clear hE hK;refine (callsIn_wide (n := 3)).1 ?_;refine callsIn_of_wp_marks Tryz.func30 rfl trivial ?_ rfl;simp only [Tryz.ntmps30, List.size_toArray, List.length_cons, List.length_nil, Nat.reduceAdd, Nat.reduceSub, Array.replicate_succ, Array.replicate_zero, List.push_toArray, List.append_toArray, List.nil_append, List.cons_append];by_cases h6 : (6000 : Int) < (s.size : Int)
 ·have hp : parseC s.data.toList = (noCH, 0, 4) := by unfold parseC; rw [if_pos (by rw [<- Lib.size_eq]; omega)]
  have HP := Lib.hid hp;have hbb : Below w.heap.size w (((w.alloc (.cells #[.string ⟨#[]⟩, .slice none 0 0, .slice none 0 0, .slice none 0 0, .slice none 0 0] 27)).alloc (.cells #[.int .i64 0] 3)).alloc (.cells #[.int .i64 4] 53)) := (((Below.refl _ _).alloc (Nat.le_refl _) _).alloc (by simp) _).alloc (by simp; omega) _;have HBB := Lib.hid hbb;clear hp hbb
  gi_wp2
  refine ⟨_, ?_, PrsPost.no HP.out (k' := 0) rfl HBB.out⟩;simp [results, Tryz.results30, go_sem]
 ·have hs6 : s.size <= 6000 := by omega
  have HS6 := Lib.hid hs6
  gi_wp2_with (refine ⟨trivial, ?_⟩; first | (gi_at_call 45; refine (callsIn_wide.2 (HR.out _)).mono ?_; rintro e w1 ⟨rfl, ho1, hb1⟩) | (gi_at_call 46; refine (callsIn_wide.2 (HL.out _ _)).mono ?_; rintro e w2 ⟨rfl, rfl⟩))
  obtain ⟨Ws, hWs⟩ : ∃ W, W = ((w1.alloc (.cells #[.map (some (w.heap.size + 1 + 1 + 1 + 1))] 68)).alloc (.cells #[.int .i64 1] 3)).alloc (.cells #[.string s] 9) := ⟨_, rfl⟩
  rw [<- hWs];have hS : PrsS w Ws s w1.heap.size := prs_start rfl (by simpa using ho1) hb1 hWs;have HS := Lib.hid hS;have hzs := hS.z;have hlo := hS.lo;have hzl : s.size + 1 <= 6001 := by omega
  clear hS hWs ho1 hb1;refine wpIn_range_own rfl (by decide) (gf := 83) (lb := #[.pointer (some ⟨w1.heap.size + 1 + 1, 0, none⟩)]) rfl trivial (enters_of Tryz.func83 (by kernel_rfl) rfl)
   (lines1_gives s hs6 _ Ws HS.out.bs) (by omega) (fun _ => rfl)
   (fun pre W => ∃ c, PcI w Ws (w.heap.size + 1 + 1 + 1) (w1.heap.size + 1) (w1.heap.size + 1 + 1) Ws.heap.size pre c W)
   (fun pre W => PrsX w pre W) ?bear ?bearx ⟨_, hzs ▸ HS.out.start⟩
   (fun x => { tmps := #[.string s, undef, .pointer (some ⟨w.heap.size, 0, none⟩), .pointer (some ⟨w.heap.size + 1, 0, none⟩), .pointer (some ⟨w.heap.size + 1 + 1, 0, none⟩), .pointer (some ⟨w.heap.size + 1 + 1 + 1, 0, none⟩), .pointer (some ⟨w1.heap.size, 0, none⟩), .pointer (some ⟨w1.heap.size + 1, 0, none⟩), .string x.1, undef, undef, undef, .string s, .int .i64 s.size, .bool false, undef, .map (some (w.heap.size + 1 + 1 + 1 + 1)), .string s, .func (.func 83) #[] #[.pointer (some ⟨w1.heap.size + 1 + 1, 0, none⟩)], .string x.1, undef, undef, undef, undef, undef, undef, undef, undef, undef, undef, undef, undef, undef, undef, undef, undef, undef, undef, undef, undef, undef, undef, undef, undef, undef, undef, undef, undef, undef], defers := [] }) ?assign ?body ?done ?stop
  case bear =>
   rintro pre X Y r ⟨c, hI⟩ hg hr;exact ⟨c, hI.bear (by omega) (by omega) (by omega) (by omega) (by omega) (by omega) hg hr⟩
  case bearx =>
   rintro pre X Y r hX hg hr;have ne : ∀ k, k < w.heap.size + 3 -> some k ≠ r := fun k hk e => by
    rcases hr k e.symm with e1 | ⟨e1, _⟩ <;> omega
   refine ⟨(hg.block _ (lt_of_heap hX.r2) (ne _ (by omega))).trans hX.r2, hX.r3.kept hg (ne _ (by omega)), hX.r4.kept hg (ne _ (by omega)), hX.why, hX.below.grown hg hX.below.size (fun k hk => ?_)⟩;rcases hr k hk with rfl | ⟨e1, _⟩ <;> omega
  case assign =>
   intro l x W K hK
   gi_wp2
   exact hK
  case body =>
   rintro l pre x W ⟨c, hI⟩ hlen hsp;have HMEM := Lib.hid (mem_cut hsp);clear hsp;have hmp : W.ownsMap Tryz.prog 9 fR (w.heap.size + 1 + 1 + 1 + 1) 14 fnD := by
    obtain ⟨es, ck, hb, F, hs, hD⟩ := HS.out.map;exact ⟨es, ck, (hI.keep _ (by omega) (by omega) (by omega) (by omega)).trans hb, F, hs, hD⟩
   have b6 : Boxed W w1.heap.size 68 (.map (some (w.heap.size + 1 + 1 + 1 + 1))) := (hI.keep _ (by omega) (by omega) (by omega) (by omega)).trans HS.out.b6;have hp7 := hI.num;obtain ⟨eV, vV, sV, tV, sp, tp, hO⟩ := hI.rdr;have HLO := Lib.hid (lineOf_any x.1 W (by have := x.2; omega));have hx6 : (trL x).length <= 6000 := by
    have h1 := x.2;unfold trL Lib.trimSuffix pcL;split
    ·rw [List.length_take, <- Lib.size_eq]; omega
    ·rw [<- Lib.size_eq]; exact h1
   have HI := Lib.hid hI;have HMP := Lib.hid hmp; have HB6 := Lib.hid b6; have HP7 := Lib.hid hp7; have HO := Lib.hid hO; have HX6 := Lib.hid hx6;clear hI hmp b6 hp7 hO hx6
   gi_wp2
   refine ⟨trivial, ?_⟩
   gi_at_call 47
   refine (CallsIn.inRound l (callsIn_wide.2 HLO.out)).mono ?_;rintro e w2 ⟨hb2, ⟨hlb, rfl⟩ | ⟨hlb, F, r, A, cp, hlw, rfl, hrr⟩⟩
   ·have c6 := ((box_below HB6.out hb2).alloc (.cells #[.int .i64 0, .string ByteArray.empty, .slice none 0 0] 74)).cell;obtain ⟨v, hlook, hv⟩ := look_of (((ownsMap_below HMP.out hb2).alloc (.cells #[.int .i64 0, .string ByteArray.empty, .slice none 0 0] 74))) ByteArray.empty (by decide) known_nil;have hnone : lineC c (trL x) = none := by unfold lineC; rw [if_neg (by rw [show trL x = Lib.trimSuffix x.1.data.toList [10] from rfl, hlb]; decide)]
    have hv' := Lib.hid hv;clear hv
    gi_wp2
    refine ⟨fun f hf => (by cases hf), ?_⟩;obtain ⟨Y, hY⟩ : ∃ Y, Y = w2.alloc (.cells #[.int .i64 0, .string ByteArray.empty, .slice none 0 0] 74) := ⟨_, rfl⟩
    rw [<- hY];have hbY : Below W.heap.size W Y := hY ▸ hb2.alloc hb2.size _;have HKB := Lib.hid (KeptB.of_below (b := w.heap.size + 1 + 1 + 1) hbY HO.out.le);clear hbY hlook c6 hY;have e2 := ((HKB.out).block w.heap.size (by omega) (by omega)).trans ((HI.out.keep w.heap.size (by omega) (by omega) (by omega) (by omega)).trans HS.out.r2);have e3 : Boxed Y (w.heap.size + 1) 3 (.int .i64 0) := ((HKB.out).block _ (by omega) (by omega)).trans ((HI.out.keep _ (by omega) (by omega) (by omega) (by omega)).trans HS.out.r3);have e4 : Boxed Y (w.heap.size + 1 + 1) 53 (.int .i64 0) := ((HKB.out).block _ (by omega) (by omega)).trans ((HI.out.keep _ (by omega) (by omega) (by omega) (by omega)).trans HS.out.r4);have e7 : Y.cell? ⟨w1.heap.size + 1, 0, none⟩ = some (.int .i64 ((pre.length : Int) + 1)) := Boxed.cell (t := 3) (((HKB.out).block _ (by omega) (by omega)).trans HP7.out);obtain ⟨y0, y1, y2, y3, y4⟩ := cells5 e2;have z0 := frozen5 e2 0; have z1 := frozen5 e2 1; have z2 := frozen5 e2 2; have z3 := frozen5 e2 3; have z4 := frozen5 e2 4;have f3 := e3.frozen; have f4 := e4.frozen; have d3 := e3.cell; have d4 := e4.cell;clear e2 e3 e4
    gi_wp2
    gi_region
    all_goals gi_wp2
    all_goals exact prs_left HS.out HI.out HO.out (HKB.out) hnone _
   ·have hFr := word_le hlw;have hFz : F.size <= 6000 := by have := hFr F.data.toList (by simp); have h2 := HX6.out; rw [<- Lib.size_eq] at this; exact Nat.le_trans this h2
    have c6 := ((box_below HB6.out hb2).alloc (.cells #[.int .i64 (depthL (Lib.trimSuffix x.1.data.toList [10]) : Nat), .string F, .slice A r.length cp] 74)).cell;obtain ⟨v, hlook, hv⟩ := look_of (((ownsMap_below HMP.out hb2).alloc (.cells #[.int .i64 (depthL (Lib.trimSuffix x.1.data.toList [10]) : Nat), .string F, .slice A r.length cp] 74))) F (by unfold maxLen; omega) (HKN.out _ HMEM.out _ _ hlw);obtain ⟨Y, hY⟩ : ∃ Y, Y = w2.alloc (.cells #[.int .i64 (depthL (Lib.trimSuffix x.1.data.toList [10]) : Nat), .string F, .slice A r.length cp] 74) := ⟨_, rfl⟩
    have hbY : Below W.heap.size W Y := hY ▸ hb2.alloc hb2.size _;have HKB := Lib.hid (KeptB.of_below (b := w.heap.size + 1 + 1 + 1) hbY HO.out.le);have HBY := Lib.hid hbY;have hrY : RestR W Y A cp r := hrr.below (hY ▸ (Below.refl w2.heap.size w2).alloc (Nat.le_refl _) _);have HRY := Lib.hid hrY;have hlc : lineC c (trL x) = (match stepF F.data.toList with | none => none | some g => g c (depthL (Lib.trimSuffix x.1.data.toList [10])) r) := by
     unfold lineC;rw [show trL x = Lib.trimSuffix x.1.data.toList [10] from rfl, if_pos hlb, hlw];rfl
    clear hrr hrY hbY;rcases hv with ⟨f, g, rfl, hsf, hm, hent⟩ | ⟨rfl, hsf⟩
    ·have hnil : ∀ w : World, (binOp .eql 78 (.func (.func f) #[] #[]) .nilFunc).run Tryz.prog w = .ok (.bool false) w := fun _ => by kernel_rfl
     rw [hsf] at hlc;have hd6 : depthL (Lib.trimSuffix x.1.data.toList [10]) <= 6000 := Nat.le_trans (depthL_le _) HX6.out;have hrl : r.length <= 1000000 := by
      have h1 := lineW_len (Lib.trimSuffix x.1.data.toList [10]);rw [hlw] at h1;have h2 := HX6.out;unfold trL pcL at h2;simp at h1;omega
     have HM := Lib.hid (hm (w.heap.size + 1 + 1 + 1) Ws.heap.size W Y c eV vV sV tV sp tp (depthL (Lib.trimSuffix x.1.data.toList [10])) F A cp HO.out HBY.out (HI.out.bdd.mono (by omega)) hd6 hrl HRY.out (fun y hy => Nat.le_trans (hFr y (by simp [hy])) HX6.out) (HE.out.below (HI.out.below.trans (HBY.out.mono HI.out.below.size))));have HLC := Lib.hid hlc; have HSF := Lib.hid hsf; have HD6 := Lib.hid hd6;rw [hY] at HM;clear hlc hsf hm hrl hd6
     gi_wp2
     refine ⟨trivial, (CallsIn.inRound l (callsIn_wide.2 HM.out)).mono ?_⟩;rw [<- hY];rintro e w5 ⟨hkb, hmp⟩;have HK5 := Lib.hid (HKB.out.trans hkb);clear hlook c6 hY hnil hkb HM hent;cases hg : g c (depthL (Lib.trimSuffix x.1.data.toList [10])) r with
     | none =>
      rw [hg] at hmp;obtain rfl := hmp;have hnone : lineC c (trL x) = none := HLC.out.trans hg;clear hg;have e2 := ((HK5.out).block w.heap.size (by omega) (by omega)).trans ((HI.out.keep w.heap.size (by omega) (by omega) (by omega) (by omega)).trans HS.out.r2);have e3 : Boxed w5 (w.heap.size + 1) 3 (.int .i64 0) := ((HK5.out).block _ (by omega) (by omega)).trans ((HI.out.keep _ (by omega) (by omega) (by omega) (by omega)).trans HS.out.r3);have e4 : Boxed w5 (w.heap.size + 1 + 1) 53 (.int .i64 0) := ((HK5.out).block _ (by omega) (by omega)).trans ((HI.out.keep _ (by omega) (by omega) (by omega) (by omega)).trans HS.out.r4);have e7 : w5.cell? ⟨w1.heap.size + 1, 0, none⟩ = some (.int .i64 ((pre.length : Int) + 1)) := Boxed.cell (t := 3) (((HK5.out).block _ (by omega) (by omega)).trans HP7.out);obtain ⟨y0, y1, y2, y3, y4⟩ := cells5 e2;have z0 := frozen5 e2 0; have z1 := frozen5 e2 1; have z2 := frozen5 e2 2; have z3 := frozen5 e2 3; have z4 := frozen5 e2 4;have f3 := e3.frozen; have f4 := e4.frozen; have d3 := e3.cell; have d4 := e4.cell;clear e2 e3 e4
      gi_wp2
      gi_region
      all_goals gi_wp2
      all_goals exact prs_left HS.out HI.out HO.out (HK5.out) hnone _
     | some c' =>
      rw [hg] at hmp;obtain ⟨rfl, hr5⟩ := hmp;have hsome : lineC c (trL x) = some c' := HLC.out.trans hg;have b7 : Boxed w5 (w1.heap.size + 1) 3 (.int .i64 ((pre.length : Int) + 1)) := (HK5.out.block _ (by omega) (by omega)).trans HP7.out;have c7 := b7.cell; have f7 := b7.frozen;have hw7 : IntKind.i64.wrap ((pre.length : Int) + 1 + 1) = (pre.length : Int) + 1 + 1 := IntWalk.i64_in _ (by omega);have HB7 := Lib.hid b7; have HR5 := Lib.hid hr5; have HSO := Lib.hid hsome; have HG := Lib.hid hg;clear hg b7 hr5 hsome
      gi_wp2
      exact prs_on HS.out HI.out HK5.out HSO.out HG.out HSF.out HD6.out HR5.out _
    ·have hnone : lineC c (trL x) = none := by rw [hlc, hsf]
     have hnil : ∀ w : World, (binOp .eql 78 .nilFunc .nilFunc).run Tryz.prog w = .ok (.bool true) w := fun _ => by kernel_rfl
     clear hlc hsf
     gi_wp2
     refine ⟨fun f hf => (by cases hf), ?_⟩;rw [<- hY];clear hlook c6 hY hnil;have e2 := ((HKB.out).block w.heap.size (by omega) (by omega)).trans ((HI.out.keep w.heap.size (by omega) (by omega) (by omega) (by omega)).trans HS.out.r2);have e3 : Boxed Y (w.heap.size + 1) 3 (.int .i64 0) := ((HKB.out).block _ (by omega) (by omega)).trans ((HI.out.keep _ (by omega) (by omega) (by omega) (by omega)).trans HS.out.r3);have e4 : Boxed Y (w.heap.size + 1 + 1) 53 (.int .i64 0) := ((HKB.out).block _ (by omega) (by omega)).trans ((HI.out.keep _ (by omega) (by omega) (by omega) (by omega)).trans HS.out.r4);have e7 : Y.cell? ⟨w1.heap.size + 1, 0, none⟩ = some (.int .i64 ((pre.length : Int) + 1)) := Boxed.cell (t := 3) (((HKB.out).block _ (by omega) (by omega)).trans HP7.out);obtain ⟨y0, y1, y2, y3, y4⟩ := cells5 e2;have z0 := frozen5 e2 0; have z1 := frozen5 e2 1; have z2 := frozen5 e2 2; have z3 := frozen5 e2 3; have z4 := frozen5 e2 4;have f3 := e3.frozen; have f4 := e4.frozen; have d3 := e3.cell; have d4 := e4.cell;clear e2 e3 e4
     gi_wp2
     gi_region
     all_goals gi_wp2
     all_goals exact prs_left HS.out HI.out HO.out (HKB.out) hnone _
  case done =>
   rintro D xs W hD hSx ⟨c, hI⟩ hK;have hy := hI.yes hs6 hSx;have hbW := hI.below;have e2 := (hI.keep w.heap.size (by omega) (by omega) (by omega) (by omega)).trans HS.out.r2;have e3 : Boxed W (w.heap.size + 1) 3 (.int .i64 0) := (hI.keep _ (by omega) (by omega) (by omega) (by omega)).trans HS.out.r3;have e4 : Boxed W (w.heap.size + 1 + 1) 53 (.int .i64 0) := (hI.keep _ (by omega) (by omega) (by omega) (by omega)).trans HS.out.r4;obtain ⟨eV, vV, sV, tV, sp, tp, hO⟩ := hI.rdr;have HN := Lib.hid (isNew_any hO);have HO := Lib.hid hO;have HBW := Lib.hid hbW;obtain ⟨y0, y1, y2, y3, y4⟩ := cells5 e2;have z0 := frozen5 e2 0; have z1 := frozen5 e2 1; have z2 := frozen5 e2 2; have z3 := frozen5 e2 3; have z4 := frozen5 e2 4;obtain ⟨o0, o1, o2, o3, o4⟩ := hO.cells;have f3 := e3.frozen; have f4 := e4.frozen; have d3 := e3.cell; have d4 := e4.cell;clear hI hSx hO hbW;rcases hy with ⟨hc, hp⟩ | ⟨hc, hp⟩
   ·have HP := Lib.hid hp;rw [show c.nm.isEmpty = true by rw [hc]; rfl] at HN;clear hp hc;obtain ⟨hq2, hq3, hq4⟩ := out_boxes e2 e3 e4 (.string ⟨#[]⟩) (.slice none 0 0) (.slice none 0 0) (.slice none 0 0) (.slice none 0 0) (.int .i64 1) (.int .i64 1);have hob := out_below HBW.out (.string ⟨#[]⟩) (.slice none 0 0) (.slice none 0 0) (.slice none 0 0) (.slice none 0 0) (.int .i64 1) (.int .i64 1);have hoz := out_size W w.heap.size (.string ⟨#[]⟩) (.slice none 0 0) (.slice none 0 0) (.slice none 0 0) (.slice none 0 0) (.int .i64 1) (.int .i64 1);have hoh : ∀ k, w.heap.size + 3 <= k -> _ := fun k hk => out_heap W w.heap.size (.string ⟨#[]⟩) (.slice none 0 0) (.slice none 0 0) (.slice none 0 0) (.slice none 0 0) (.int .i64 1) (.int .i64 1) (k := k) (by omega) (by omega) (by omega)
    have hK' := (hoh D (by omega)).trans hK;have HQ2 := Lib.hid hq2; have HQ3 := Lib.hid hq3; have HQ4 := Lib.hid hq4; have HOB := Lib.hid hob; have HOH := Lib.hid hoh; have HK' := Lib.hid hK';clear hq2 hq3 hq4 hob hoz hoh hK'
    gi_wp2_with (refine ⟨trivial, ?_⟩; gi_at_call 48; refine (callsIn_wide.2 HN.out).mono ?_; rintro e wx ⟨rfl, hx⟩; obtain rfl := hx)
    obtain ⟨W9, hW9⟩ : ∃ X, X = outW wx w.heap.size (.string ⟨#[]⟩) (.slice none 0 0) (.slice none 0 0) (.slice none 0 0) (.slice none 0 0) (.int .i64 1) (.int .i64 1) := ⟨_, rfl⟩
    rw [<- hW9] at HQ2 HQ3 HQ4 HOB HOH HK';unfold outW at hW9;rw [<- hW9];refine ⟨by simp, .inl ⟨_, _, rfl, run_takeDeferred HK'.out, ?_⟩⟩;have hg := grownBy_putObj' W9 D (.deferred none);have hbl := HOB.out.grown hg HOB.out.size (fun k hk => by cases hk; omega);obtain ⟨c0, c1, c2, c3, c4⟩ := cells5 ((hg.block _ (lt_of_heap HQ2.out) (by simp; omega)).trans HQ2.out);have c5 := (HQ3.out.kept hg (by simp; omega)).cell;have c6 := (HQ4.out.kept hg (by simp; omega)).cell;refine ⟨_, ?_, PrsPost.no HP.out (k' := 1) rfl hbl⟩;clear hg;generalize World.putObj _ D _ = WF at c0 c1 c2 c3 c4 c5 c6 ⊢;simp [results, Tryz.results30, go_sem, c0, c1, c2, c3, c4, c5, c6]
   ·have HP := Lib.hid hp;rw [show c.nm.isEmpty = false by cases hq : c.nm with | nil => exact absurd hq hc | cons _ _ => rfl] at HN;obtain ⟨N, hN, hNl⟩ := bstr_some c.nm;have HCO := Lib.hid HO.out.cho;have HNB := Lib.hid hN;have hle := HO.out.le;obtain ⟨Ae, ce, rfl⟩ := own_slice HO.out.es;obtain ⟨Av, cv, rfl⟩ := own_slice HO.out.vs;obtain ⟨As, cs, rfl⟩ := own_slice HO.out.ss;obtain ⟨At, ct, rfl⟩ := own_slice HO.out.ts;rw [hN] at o0;clear HO;generalize hne : c.es.length = ne at *
    generalize hnv : c.vs.length = nv at *
    generalize hns : sp.length = ns at *
    generalize hnt : tp.length = nt at *
    have HL4 := Lib.hid (And.intro hne (And.intro hnv (And.intro hns hnt)));clear hp hc hN hNl hne hnv hns hnt;obtain ⟨hq2, hq3, hq4⟩ := out_boxes e2 e3 e4 (.string N) (.slice Ae ne ce) (.slice Av nv cv) (.slice As ns cs) (.slice At nt ct) (.int .i64 0) (.int .i64 0);have hob := out_below HBW.out (.string N) (.slice Ae ne ce) (.slice Av nv cv) (.slice As ns cs) (.slice At nt ct) (.int .i64 0) (.int .i64 0);have hoz := out_size W w.heap.size (.string N) (.slice Ae ne ce) (.slice Av nv cv) (.slice As ns cs) (.slice At nt ct) (.int .i64 0) (.int .i64 0);have hoh : ∀ k, w.heap.size + 3 <= k -> _ := fun k hk => out_heap W w.heap.size (.string N) (.slice Ae ne ce) (.slice Av nv cv) (.slice As ns cs) (.slice At nt ct) (.int .i64 0) (.int .i64 0) (k := k) (by omega) (by omega) (by omega)
    have hK' := (hoh D (by omega)).trans hK;have HQ2 := Lib.hid hq2; have HQ3 := Lib.hid hq3; have HQ4 := Lib.hid hq4; have HOB := Lib.hid hob; have HOH := Lib.hid hoh; have HK' := Lib.hid hK';clear hq2 hq3 hq4 hob hoz hoh hK'
    gi_wp2_with (refine ⟨trivial, ?_⟩; gi_at_call 48; refine (callsIn_wide.2 HN.out).mono ?_; rintro e wx ⟨rfl, hx⟩; obtain rfl := hx)
    obtain ⟨W9, hW9⟩ : ∃ X, X = outW wx w.heap.size (.string N) (.slice Ae ne ce) (.slice Av nv cv) (.slice As ns cs) (.slice At nt ct) (.int .i64 0) (.int .i64 0) := ⟨_, rfl⟩
    rw [<- hW9] at HQ2 HQ3 HQ4 HOB HOH HK';have hW9s : W9.heap.size = wx.heap.size := by rw [hW9]; exact out_size _ _ _ _ _ _ _ _ _
    unfold outW at hW9;rw [<- hW9];refine ⟨by simp, .inl ⟨_, _, rfl, run_takeDeferred HK'.out, ?_⟩⟩;have hg := grownBy_putObj' W9 D (.deferred none);have hbl := HOB.out.grown hg HOB.out.size (fun k hk => by cases hk; omega);obtain ⟨c0, c1, c2, c3, c4⟩ := cells5 ((hg.block _ (lt_of_heap HQ2.out) (by simp; omega)).trans HQ2.out);have c5 := (HQ3.out.kept hg (by simp; omega)).cell;have c6 := (HQ4.out.kept hg (by simp; omega)).cell;refine ⟨_, ?_, PrsPost.yes HP.out HNB.out ((HCO.out.same (fun k cur t hk he => (hg.block k (by rw [hW9s]; exact lt_of_heap he) (fun e => by cases e; rw [hK] at he; cases he)).trans ((HOH.out k (by omega)).trans he)) (show w.heap.size <= Ws.heap.size by omega))) hbl⟩;clear hg;generalize World.putObj _ D _ = WF at c0 c1 c2 c3 c4 c5 c6 ⊢;simp [results, Tryz.results30, go_sem, c0, c1, c2, c3, c4, c5, c6]
  case stop =>
   rintro D pre W hD hSp hX hK;have hp := hX.no hs6 hSp;have HP := Lib.hid hp; have HX := Lib.hid hX;clear hp hX hSp
   gi_wp2
   refine ⟨by simp, .inl ⟨_, _, rfl, run_takeDeferred hK, ?_⟩⟩;have hg := grownBy_putObj' W D (.deferred none);have hb := HX.out.below.grown hg HX.out.below.size (fun k hk => by cases hk; omega);obtain ⟨c0, c1, c2, c3, c4⟩ := cells5 ((hg.block _ (lt_of_heap HX.out.r2) (by simp; omega)).trans HX.out.r2);have c5 := (HX.out.r3.kept hg (by simp; omega)).cell;have c6 := (HX.out.r4.kept hg (by simp; omega)).cell;refine ⟨_, ?_, PrsPost.no HP.out (k' := (pre.length : Int)) rfl hb⟩;clear hg;generalize World.putObj _ D _ = WF at c0 c1 c2 c3 c4 c5 c6 ⊢;simp [results, Tryz.results30, go_sem, c0, c1, c2, c3, c4, c5, c6]
end Go.Proofs.YtcnfcililiehlaaGreatDoor.Ch
namespace Go.Proofs.YtcnfcililiehlaaGreatDoor.Ch
instance : DecidableEq VM := fun x y => decidable_of_iff (x.nm = y.nm /\ x.kd = y.kd /\ x.lo = y.lo /\ x.hi = y.hi /\ x.ik = y.ik /\ x.ia = y.ia /\ x.ib = y.ib) (by cases x; cases y; simp)
instance : DecidableEq SC := fun x y => decidable_of_iff (x.nm = y.nm /\ x.kd = y.kd /\ x.dp = y.dp /\ x.ini = y.ini /\ x.en = y.en /\ x.ex = y.ex) (by cases x; cases y; simp)
instance : DecidableEq TC := fun x y => decidable_of_iff (x.fr = y.fr /\ x.ev = y.ev /\ x.gd = y.gd /\ x.to = y.to /\ x.ac = y.ac) (by cases x; cases y; simp)
instance : DecidableEq CH := fun x y => decidable_of_iff (x.nm = y.nm /\ x.es = y.es /\ x.vs = y.vs /\ x.ss = y.ss /\ x.ts = y.ts) (by cases x; cases y; simp)
end Go.Proofs.YtcnfcililiehlaaGreatDoor.Ch
