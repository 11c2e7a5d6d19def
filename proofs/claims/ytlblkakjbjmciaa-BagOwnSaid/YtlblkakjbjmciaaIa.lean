/- Layer 17: a bag in memory. -/
import Derived.Test.YtlblkakjbjmciaaCg
import Derived.Test.YtlblkakjbjmciaaProg
import Derived.Lib.AppendStr
import Derived.Laws.OwnMore
import Derived.OneCell
import Derived.Deep.Onto
import Derived.Deep.AppendLies
import Derived.Laws.Rows
import Derived.Deep.Cut
import Derived.Deep.CutRange
import Derived.BigRegion
import Derived.Deep.RegionLaw
import Derived.Lib.Hide
namespace Go.Proofs.Ytlblkakjbjmciaa.Bg
open Go.RowKit Go.Proofs.Ytlblkakjbjmciaa.Wi
set_option maxRecDepth 100000

def bS (l : Bytes) : Value := .string ⟨l.toArray⟩
theorem bS_eq (l : Bytes) : ∃ S : ByteArray, bS l = .string S ∧ S.data.toList = l ∧ S.size = l.length := ⟨⟨l.toArray⟩, rfl, rfl, rfl⟩
theorem bS_of (S : ByteArray) : bS S.data.toList = .string S := rfl
/-- what stands at each place of a bag's box: texts and whether they were turned, one behind the other, and their number -/
def cellB (f : Nat → Bytes × Bool) (n j : Nat) : Value := if j = 32 then .int .i64 (n : Int) else if j % 2 = 0 then bS (f (j / 2)).1 else .bool (f (j / 2)).2
def bagA (f : Nat → Bytes × Bool) (n : Nat) : Array Value := ((List.range 33).map (cellB f n)).toArray
theorem bagA_size (f : Nat → Bytes × Bool) (n : Nat) : (bagA f n).size = 33 := by unfold bagA; simp
theorem bagA_at (f : Nat → Bytes × Bool) (n j : Nat) (h : j < 33) : (bagA f n)[j]? = some (cellB f n j) := by
  unfold bagA
  simp [List.getElem?_range h]
theorem bagA_set {f f' : Nat → Bytes × Bool} {n n' j : Nat} {v : Value} (hv : cellB f' n' j = v) (ho : ∀ k, k < 33 → k ≠ j → cellB f' n' k = cellB f n k) : (bagA f n).setIfInBounds j v = bagA f' n' := by
  apply Array.ext_getElem?
  intro k
  rw [Array.getElem?_setIfInBounds]
  by_cases hk : k < 33
  · rw [bagA_at f' n' k hk]
    by_cases e : j = k
    · subst e
      rw [if_pos rfl, bagA_size, if_pos hk, hv]
    · rw [if_neg e, bagA_at f n k hk, ho k hk (fun h => e h.symm)]
  · have h1 : (bagA f' n')[k]? = none := Array.getElem?_eq_none (by rw [bagA_size]; omega)
    have h2 : (bagA f n)[k]? = none := Array.getElem?_eq_none (by rw [bagA_size]; omega)
    rw [h1, h2, bagA_size]
    split
    · rw [if_neg (by omega)]
    · rfl
def upd (f : Nat → Bytes × Bool) (i : Nat) (x : Bytes × Bool) (j : Nat) : Bytes × Bool := if j = i then x else f j
/-- a bag's box in block K -/
def Box (K : Nat) (f : Nat → Bytes × Bool) (n : Nat) (w : World) : Prop := w.heap[K]? = some (.cells (bagA f n) 44 (0, 0))
section
variable {K n : Nat} {f : Nat → Bytes × Bool} {w w1 : World}
theorem Box.lt (h : Box K f n w) : K < w.heap.size := (Array.getElem?_eq_some_iff.1 h).1
theorem Box.cell (h : Box K f n w) (j : Nat) (hj : j < 33) : w.cell? ⟨K, j, none⟩ = some (cellB f n j) := (cell_of_row w K j _ _ _ h).trans (bagA_at f n j hj)
theorem Box.txt (h : Box K f n w) (i : Nat) (hi : i < 16) : w.cell? ⟨K, i * 2, none⟩ = some (bS (f i).1) := by
  rw [h.cell (i * 2) (by omega)]
  unfold cellB
  rw [if_neg (by omega), if_pos (by omega), show i * 2 / 2 = i by omega]
theorem Box.trn (h : Box K f n w) (i : Nat) (hi : i < 16) : w.cell? ⟨K, i * 2 + 1, none⟩ = some (.bool (f i).2) := by
  rw [h.cell (i * 2 + 1) (by omega)]
  unfold cellB
  rw [if_neg (by omega), if_neg (by omega), show (i * 2 + 1) / 2 = i by omega]
theorem Box.num (h : Box K f n w) : w.cell? ⟨K, 32, none⟩ = some (.int .i64 (n : Int)) := h.cell 32 (by decide)
theorem Box.fro (h : Box K f n w) (j : Nat) : w.frozen? ⟨K, j, none⟩ = false := frozen_of_row w K j _ _ h
theorem Box.set {f' : Nat → Bytes × Bool} {n' j : Nat} {v : Value} (h : Box K f n w) (hv : cellB f' n' j = v) (ho : ∀ k, k < 33 → k ≠ j → cellB f' n' k = cellB f n k) : Box K f' n' (w.setCell ⟨K, j, none⟩ v) := by
  unfold Box
  rw [heap_setCell_same w K j _ _ _ h, bagA_set hv ho]
theorem Box.setTxt (h : Box K f n w) (i : Nat) (hi : i < 16) (x : Bytes) : Box K (upd f i (x, (f i).2)) n (w.setCell ⟨K, i * 2, none⟩ (bS x)) := by
  refine h.set ?_ fun k hk hne => ?_
  · unfold cellB
    rw [if_neg (by omega), if_pos (by omega), show i * 2 / 2 = i by omega]
    unfold upd; rw [if_pos rfl]
  · unfold cellB upd
    by_cases e : k / 2 = i
    · rw [if_pos e]
      split
      · rfl
      · split
        · omega
        · rw [e]
    · rw [if_neg e]
theorem Box.setTrn (h : Box K f n w) (i : Nat) (hi : i < 16) (b : Bool) : Box K (upd f i ((f i).1, b)) n (w.setCell ⟨K, i * 2 + 1, none⟩ (.bool b)) := by
  refine h.set ?_ fun k hk hne => ?_
  · unfold cellB
    rw [if_neg (by omega), if_neg (by omega), show (i * 2 + 1) / 2 = i by omega]
    unfold upd; rw [if_pos rfl]
  · unfold cellB upd
    by_cases e : k / 2 = i
    · rw [if_pos e]
      split
      · rfl
      · split
        · rw [e]
        · omega
    · rw [if_neg e]
theorem Box.setNum (h : Box K f n w) (m : Nat) : Box K f m (w.setCell ⟨K, 32, none⟩ (.int .i64 (m : Int))) := by
  refine h.set ?_ fun k hk hne => ?_
  · unfold cellB; rw [if_pos rfl]
  · unfold cellB; rw [if_neg hne, if_neg hne]
theorem Box.setBoth (h : Box K f n w) (i : Nat) (hi : i < 16) (x : Bytes × Bool) : Box K (upd f i x) n ((w.setCell ⟨K, i * 2, none⟩ (bS x.1)).setCell ⟨K, i * 2 + 1, none⟩ (.bool x.2)) := by
  have h1 := (h.setTxt i hi x.1).setTrn i hi x.2
  have : upd (upd f i (x.1, (f i).2)) i (((upd f i (x.1, (f i).2)) i).1, x.2) = upd f i x := by
    funext j
    unfold upd
    by_cases e : j = i
    · simp [e]
    · simp [e]
  rwa [this] at h1
theorem Box.below (h : Box K f n w) (hb : Below w.heap.size w w1) : Box K f n w1 := (hb.block K h.lt).trans h
theorem Box.alloc (h : Box K f n w) (o : Obj) : Box K f n (w.alloc o) := (Below.heap_alloc w o K h.lt).trans h
end
/-- what calls leave: all but the box lies as it lay -/
def Fr (K : Nat) (w w' : World) : Prop := w.grownBy w' (some K)
theorem Fr.refl (K : Nat) (w : World) : Fr K w w := ⟨rfl, rfl, rfl, Nat.le_refl _, fun _ _ _ => rfl⟩
theorem Fr.trans {K : Nat} {a b c : World} (h : Fr K a b) (k : Fr K b c) : Fr K a c := ⟨k.os.trans h.os, k.tape.trans h.tape, k.output.trans h.output, Nat.le_trans h.size k.size, fun i hi hne => (k.block i (Nat.lt_of_lt_of_le hi h.size) hne).trans (h.block i hi hne)⟩
theorem Fr.below {K : Nat} {w w' : World} (h : Below w.heap.size w w') : Fr K w w' := ⟨h.os, h.tape, h.output, h.size, fun k hk _ => h.block k hk⟩
theorem Fr.set (K j : Nat) (w : World) (v : Value) : Fr K w (w.setCell ⟨K, j, none⟩ v) := ⟨rfl, rfl, rfl, by simp, fun q _ hq => Below.heap_setCell _ _ _ q (fun e => hq (by rw [e]))⟩
theorem Fr.drew {K : Nat} {w w' : World} (h : Fr K w w') : Fr K w w'.drew := ⟨h.os, h.tape, h.output, h.size, h.block⟩
/-- .. seen from a world in which the box wasn't yet -/
theorem Fr.own {K : Nat} {a w w' : World} (h : Below a.heap.size a w) (k : Fr K w w') (hK : a.heap.size ≤ K) : Below a.heap.size a w' := h.grown k h.size (fun i e => by cases e; exact hK)
/-- a bag that holds L -/
def fn (L : Wi.Bag) (i : Nat) : Bytes × Bool := L.getD i ([], false)
structure BagAt (K : Nat) (L : Wi.Bag) (w : World) : Prop where
  box : Box K (fn L) L.length w
  le : L.length ≤ 16
def bp (K : Nat) : Value := .pointer (some ⟨K, 0, none⟩)
theorem fn_put (L : Wi.Bag) (x : Bytes × Bool) : upd (fn L) L.length x = fn (L ++ [x]) := by
  funext j
  unfold upd fn
  simp only [List.getD_eq_getElem?_getD]
  by_cases e : j = L.length
  · rw [if_pos e, e, List.getElem?_append_right (Nat.le_refl _), Nat.sub_self]; rfl
  · rw [if_neg e]
    by_cases h : j < L.length
    · rw [List.getElem?_append_left h]
    · rw [List.getElem?_eq_none (by omega), List.getElem?_eq_none (by rw [List.length_append, List.length_singleton]; omega)]
theorem fn_set (L : Wi.Bag) (i : Nat) (x : Bytes × Bool) (h : i < L.length) : upd (fn L) i x = fn (L.set i x) := by
  funext j
  unfold upd fn
  simp only [List.getD_eq_getElem?_getD]
  by_cases e : j = i
  · subst e
    rw [if_pos rfl, List.getElem?_set_self h]; rfl
  · rw [if_neg e, List.getElem?_set_ne (fun k => e k.symm)]
theorem fn_at {L : Wi.Bag} {i : Nat} (h : i < L.length) : fn L i = L[i] := by unfold fn; rw [List.getD_eq_getElem?_getD, List.getElem?_eq_getElem h]; rfl
theorem lt_heap {w : World} {k : Nat} {o : Obj} (h : w.heap[k]? = some o) : k < w.heap.size := (Array.getElem?_eq_some_iff.1 h).1
theorem own_later {w w1 : World} {base : Nat} {e : TypeId} {size n : Nat} {v : Value} {xs : List Value} (h : w.ownsRow base e size v n xs) (hb : Below w.heap.size w w1) : w1.ownsRow base e size v n xs :=
  h.kept ⟨hb.os, hb.tape, hb.output, hb.size, fun k hk _ => hb.block k hk⟩ (by cases hv : v.ownBlock with
    | none => exact Or.inl rfl
    | some k => exact Or.inr (by simp) : v.ownBlock = none ∨ v.ownBlock ≠ none)
theorem own_shape {w : World} {base : Nat} {e : TypeId} {size n : Nat} {v : Value} {xs : List Value} (h : w.ownsRow base e size v n xs) : ∃ A c, v = .slice A n c := by
  rcases h.2 with ⟨hv, h0⟩ | ⟨g, cap, cur, hv, _⟩
  · exact ⟨_, _, by rw [hv, h0]⟩
  · exact ⟨_, _, hv⟩
theorem row_block {w : World} {base : Nat} {e : TypeId} {size n : Nat} {v : Value} {xs : List Value} (h : w.ownsRow base e size v n xs) : ∀ k, v.ownBlock = some k → base ≤ k := fun k hk => (h.lt k hk).1
end Go.Proofs.Ytlblkakjbjmciaa.Bg
