/- Own texts, joined: Eh, Di, Eo, Eq, Ei, Ej. -/
import Derived.Test.YtkjkcgbmaojpiaaGreatDoorR2
import Derived.Test.YtkjkcgbmaojpiaaGreatDoorR3
import Derived.Test.YtkjkcgbmaojpiaaGreatDoorR4
import Derived.Lib.AppendIntMem
import Derived.Laws.IdiomStrings
import Derived.Laws.Concat
namespace Go.Proofs.YtkjkcgbmaojpiaaGreatDoor
open Go.RowKit
def tabOps : List (Int × List UInt8 × Int) :=
 [(11, [43], 4), (12, [45], 4), (13, [42], 5), (14, [47], 5), (15, [37], 5), (16, [61], 3), (17, [33, 61], 3), (18, [60], 3), (19, [60, 61], 3), (20, [62], 3), (21, [62, 61], 3), (22, [38], 2), (23, [124], 1)]
def opRow (o : Int × List UInt8 × Int) : List Value := [.int .i64 o.1, .string ⟨o.2.1.toArray⟩, .int .i64 o.2.2]
def opsCells : Array Value := (tabOps.flatMap opRow).toArray
def Ops (w : World) : Prop := w.var? Tryz.prog "quintain/expr.operators" = some opsCells
theorem gOps : Tryz.prog.globalNamed "quintain/expr.operators" = some 1 := by kernel_rfl
theorem Ops.at_ {w : World} (h : Ops w) : ∃ t fr, w.heap[1]? = some (.cells opsCells t fr) := by
 unfold Ops World.var? at h
 simp only [gOps, Option.bind_some] at h
 split at h
 ·rename_i cs t fr hh
  injection h with h
  subst h
  exact ⟨_, _, hh⟩
 ·cases h
theorem Ops.lt {w : World} (h : Ops w) : 1 < w.heap.size := by
 obtain ⟨t, fr, hh⟩ := h.at_
 exact lt_of_block hh
theorem Ops.same {w w' : World} (h : Ops w) (hb : w'.heap[1]? = w.heap[1]?) : Ops w' := by
 unfold Ops World.var? at h ⊢
 simp only [gOps, Option.bind_some] at h ⊢
 rw [hb]; exact h
theorem Ops.below {w w' : World} (h : Ops w) (hb : Below w.heap.size w w') : Ops w' := h.same (hb.block _ h.lt)
def tabAt (k : Nat) : Int × List UInt8 × Int := tabOps.getD k (0, [], 0)
theorem index_ops0 (w : World) : (Instr.index 196 (.agg opsCells) (.int .i64 0)).run Tryz.prog w = .ok (.agg (opRow (tabAt 0)).toArray) w := by kernel_rfl
theorem index_ops1 (w : World) : (Instr.index 196 (.agg opsCells) (.int .i64 1)).run Tryz.prog w = .ok (.agg (opRow (tabAt 1)).toArray) w := by kernel_rfl
theorem index_ops2 (w : World) : (Instr.index 196 (.agg opsCells) (.int .i64 2)).run Tryz.prog w = .ok (.agg (opRow (tabAt 2)).toArray) w := by kernel_rfl
theorem index_ops3 (w : World) : (Instr.index 196 (.agg opsCells) (.int .i64 3)).run Tryz.prog w = .ok (.agg (opRow (tabAt 3)).toArray) w := by kernel_rfl
theorem index_ops4 (w : World) : (Instr.index 196 (.agg opsCells) (.int .i64 4)).run Tryz.prog w = .ok (.agg (opRow (tabAt 4)).toArray) w := by kernel_rfl
theorem index_ops5 (w : World) : (Instr.index 196 (.agg opsCells) (.int .i64 5)).run Tryz.prog w = .ok (.agg (opRow (tabAt 5)).toArray) w := by kernel_rfl
theorem index_ops6 (w : World) : (Instr.index 196 (.agg opsCells) (.int .i64 6)).run Tryz.prog w = .ok (.agg (opRow (tabAt 6)).toArray) w := by kernel_rfl
theorem index_ops7 (w : World) : (Instr.index 196 (.agg opsCells) (.int .i64 7)).run Tryz.prog w = .ok (.agg (opRow (tabAt 7)).toArray) w := by kernel_rfl
theorem index_ops8 (w : World) : (Instr.index 196 (.agg opsCells) (.int .i64 8)).run Tryz.prog w = .ok (.agg (opRow (tabAt 8)).toArray) w := by kernel_rfl
theorem index_ops9 (w : World) : (Instr.index 196 (.agg opsCells) (.int .i64 9)).run Tryz.prog w = .ok (.agg (opRow (tabAt 9)).toArray) w := by kernel_rfl
theorem index_ops10 (w : World) : (Instr.index 196 (.agg opsCells) (.int .i64 10)).run Tryz.prog w = .ok (.agg (opRow (tabAt 10)).toArray) w := by kernel_rfl
theorem index_ops11 (w : World) : (Instr.index 196 (.agg opsCells) (.int .i64 11)).run Tryz.prog w = .ok (.agg (opRow (tabAt 11)).toArray) w := by kernel_rfl
theorem index_ops12 (w : World) : (Instr.index 196 (.agg opsCells) (.int .i64 12)).run Tryz.prog w = .ok (.agg (opRow (tabAt 12)).toArray) w := by kernel_rfl
theorem index_ops (k : Nat) (hk : k < 13) (w : World) : (Instr.index 196 (.agg opsCells) (.int .i64 (k : Int))).run Tryz.prog w = .ok (.agg (opRow (tabAt k)).toArray) w := by
 have h : k = 0 ∨ k = 1 ∨ k = 2 ∨ k = 3 ∨ k = 4 ∨ k = 5 ∨ k = 6 ∨ k = 7 ∨ k = 8 ∨ k = 9 ∨ k = 10 ∨ k = 11 ∨ k = 12 := by omega
 rcases h with rfl | rfl | rfl | rfl | rfl | rfl | rfl | rfl | rfl | rfl | rfl | rfl | rfl
 ·exact index_ops0 w
 ·exact index_ops1 w
 ·exact index_ops2 w
 ·exact index_ops3 w
 ·exact index_ops4 w
 ·exact index_ops5 w
 ·exact index_ops6 w
 ·exact index_ops7 w
 ·exact index_ops8 w
 ·exact index_ops9 w
 ·exact index_ops10 w
 ·exact index_ops11 w
 ·exact index_ops12 w
def bestO (l : List UInt8) (p : Nat) : Nat → Int × List UInt8 × Int
 | 0 => (0, [], 0)
 | k + 1 => if Lib.hasPrefix (l.drop p) (tabAt k).2.1 = true ∧ (bestO l p k).2.1.length < (tabAt k).2.1.length then tabAt k else bestO l p k
theorem bestO_succ (l : List UInt8) (p k : Nat) : bestO l p (k + 1) = if Lib.hasPrefix (l.drop p) (tabAt k).2.1 = true ∧ (bestO l p k).2.1.length < (tabAt k).2.1.length then tabAt k else bestO l p k := rfl
theorem pre_two (l : List UInt8) (c d : UInt8) (k : Nat) (hc : c ≠ 0) (hd : d ≠ 0) : Lib.hasPrefix (l.drop k) [c, d] = (nx l k == c && nx l (k + 1) == d) := by
 unfold Lib.hasPrefix
 have bc : ∀ x y : UInt8, (x == y) = (y == x) := fun x y => Bool.eq_iff_iff.2 ⟨fun e => beq_iff_eq.2 (beq_iff_eq.1 e).symm, fun e => beq_iff_eq.2 (beq_iff_eq.1 e).symm⟩
 by_cases h : k < l.length
 ·rw [List.drop_eq_getElem_cons h, nx_at h]
  by_cases h1 : k + 1 < l.length
  ·rw [List.drop_eq_getElem_cons h1, nx_at h1]
   simp only [List.isPrefixOf, Bool.and_true]
   rw [bc c, bc d]
  ·rw [List.drop_of_length_le (by omega), nx_end (by omega)]
   simp [List.isPrefixOf, Ne.symm hd]
 ·rw [List.drop_of_length_le (by omega), nx_end (by omega)]
  simp [List.isPrefixOf, Ne.symm hc]
theorem pre_one' (l : List UInt8) (c : UInt8) (k : Nat) (hc : c ≠ 0) : Lib.hasPrefix (l.drop k) [c] = (nx l k == c) := by
 rw [pre_one]
 by_cases h : k < l.length
 ·simp [h]
 ·rw [nx_end (by omega)]
  simp [Ne.symm hc, h]
def bestB (c : UInt8) (d : Bool) : Nat → Int × List UInt8 × Int
 | 0 => (0, [], 0)
 | k + 1 => if (match (tabAt k).2.1 with | [x] => c == x | [x, _] => c == x && d | _ => false) = true ∧ (bestB c d k).2.1.length < (tabAt k).2.1.length then tabAt k else bestB c d k
theorem best_same (l : List UInt8) (p : Nat) : ∀ k, k ≤ 13 → bestO l p k = bestB (nx l p) (nx l (p + 1) == 61) k := by
 intro k hk
 induction k with
 | zero => rfl
 | succ k ih =>
  have e := ih (by omega)
  have e2 : Lib.hasPrefix (l.drop p) (tabAt k).2.1 = (match (tabAt k).2.1 with | [x] => nx l p == x | [x, _] => nx l p == x && nx l (p + 1) == 61 | _ => false) := by
   match k, (show k < 13 by omega) with
   | 0, _ => exact pre_one' _ _ _ (by decide)
   | 1, _ => exact pre_one' _ _ _ (by decide)
   | 2, _ => exact pre_one' _ _ _ (by decide)
   | 3, _ => exact pre_one' _ _ _ (by decide)
   | 4, _ => exact pre_one' _ _ _ (by decide)
   | 5, _ => exact pre_one' _ _ _ (by decide)
   | 6, _ => exact pre_two _ _ _ _ (by decide) (by decide)
   | 7, _ => exact pre_one' _ _ _ (by decide)
   | 8, _ => exact pre_two _ _ _ _ (by decide) (by decide)
   | 9, _ => exact pre_one' _ _ _ (by decide)
   | 10, _ => exact pre_two _ _ _ _ (by decide) (by decide)
   | 11, _ => exact pre_one' _ _ _ (by decide)
   | 12, _ => exact pre_one' _ _ _ (by decide)
   | k + 13, hk => omega
  show (if _ then _ else _) = (if _ then _ else _)
  rw [e2, e]
theorem best_is : ∀ n : Fin 256, ∀ d : Bool, (bestB (UInt8.ofNat n.val) d 13).1 = (opOf (UInt8.ofNat n.val) (if d then 61 else 0)).1 ∧ (bestB (UInt8.ofNat n.val) d 13).2.1.length = (opOf (UInt8.ofNat n.val) (if d then 61 else 0)).2.1 ∧ (bestB (UInt8.ofNat n.val) d 13).2.2 = ((opOf (UInt8.ofNat n.val) (if d then 61 else 0)).2.2 : Int) := by
 decide +kernel
theorem opOf_two (c d : UInt8) : opOf c d = opOf c (if (d == 61) = true then 61 else 0) := by
 by_cases h : d = 61
 ·simp [h]
 ·simp [h, opOf]
theorem best_op (l : List UInt8) (p : Nat) : (bestO l p 13).1 = (opAt l p).1 ∧ (bestO l p 13).2.1.length = (opAt l p).2.1 ∧ (bestO l p 13).2.2 = ((opAt l p).2.2 : Int) := by
 rw [best_same l p 13 (by omega)]
 unfold opAt
 rw [opOf_two]
 have hc : nx l p = UInt8.ofNat (nx l p).toNat := by simp
 have := best_is ⟨(nx l p).toNat, (nx l p).toNat_lt⟩ (nx l (p + 1) == 61)
 simp only at this
 rw [← hc] at this
 exact this
theorem tab_len (k : Nat) : (tabAt k).2.1.length ≤ 2 := by
 by_cases hk : k < 13
 ·have h : k = 0 ∨ k = 1 ∨ k = 2 ∨ k = 3 ∨ k = 4 ∨ k = 5 ∨ k = 6 ∨ k = 7 ∨ k = 8 ∨ k = 9 ∨ k = 10 ∨ k = 11 ∨ k = 12 := by omega
  rcases h with rfl | rfl | rfl | rfl | rfl | rfl | rfl | rfl | rfl | rfl | rfl | rfl | rfl <;> decide
 ·unfold tabAt
  rw [List.getD_eq_getElem?_getD, List.getElem?_eq_none (by simp [tabOps]; omega)]
  simp
theorem three_at {w : World} {b : Nat} {x y z : Value} {t : TypeId} (h : w.heap[b]? = some (.cells #[x, y, z] t (0, 0))) : w.cell? ⟨b, 0, none⟩ = some x ∧ w.cell? ⟨b, 1, none⟩ = some y ∧ w.cell? ⟨b, 2, none⟩ = some z ∧ w.frozen? ⟨b, 0, none⟩ = false ∧ w.frozen? ⟨b, 1, none⟩ = false ∧ w.frozen? ⟨b, 2, none⟩ = false :=
 ⟨(cell_of_row w b 0 _ _ _ h).trans rfl, (cell_of_row w b 1 _ _ _ h).trans rfl, (cell_of_row w b 2 _ _ _ h).trans rfl, frozen_of_row w b 0 _ _ h, frozen_of_row w b 1 _ _ h, frozen_of_row w b 2 _ _ h⟩
structure OpR (s : ByteArray) (w : World) (p k : Nat) (wr : World) : Prop where
 below : Below w.heap.size w wr
 best : ∃ (li : Int) (lt : ByteArray) (ls : Int), wr.heap[w.heap.size + 1]? = some (.cells #[.int .i64 li, .string lt, .int .i64 ls] 176 (0, 0)) ∧ bestO s.data.toList p k = (li, lt.data.toList, ls)
 res : ∃ x y z, wr.heap[w.heap.size]? = some (.cells #[x, y, z] 176 (0, 0))
theorem OpR.parts {s : ByteArray} {w : World} {p k : Nat} {wr : World} (h : OpR s w p k wr) : Below w.heap.size w wr ∧ (∃ (li : Int) (lt : ByteArray) (ls : Int), wr.heap[w.heap.size + 1]? = some (.cells #[.int .i64 li, .string lt, .int .i64 ls] 176 (0, 0)) ∧ bestO s.data.toList p k = (li, lt.data.toList, ls)) ∧ ∃ x y z, wr.heap[w.heap.size]? = some (.cells #[x, y, z] 176 (0, 0)) := ⟨h.below, h.best, h.res⟩
theorem OpR.start {s : ByteArray} {w : World} {p : Nat} : OpR s w p 0 ((w.alloc (.cells #[.int .i64 0, .string ⟨#[]⟩, .int .i64 0] 176)).alloc (.cells #[.int .i64 0, .string ⟨#[]⟩, .int .i64 0] 176)) := by
 refine ⟨((Below.refl _ _).alloc (Nat.le_refl _) _).alloc (by simp) _, ⟨0, ⟨#[]⟩, 0, ?_, rfl⟩, ⟨_, _, _, (Below.heap_alloc _ _ _ (by simp)).trans (heap_alloc_new w _)⟩⟩
 have := heap_alloc_new (w.alloc (.cells #[.int .i64 0, .string ⟨#[]⟩, .int .i64 0] 176)) (.cells #[.int .i64 0, .string ⟨#[]⟩, .int .i64 0] 176)
 simpa using this
theorem OpR.keep {s : ByteArray} {w : World} {p k : Nat} {wr : World} (h : OpR s w p k wr) (hno : ¬ (Lib.hasPrefix (s.data.toList.drop p) (tabAt k).2.1 = true ∧ (bestO s.data.toList p k).2.1.length < (tabAt k).2.1.length)) (o : Obj) (n : Nat) : OpR s w p (k + 1) ((wr.alloc o).drewN n) := by
 obtain ⟨hb, ⟨li, lt, ls, hlb, he⟩, ⟨x, y, z, hr⟩⟩ := h
 have hl1 := lt_of_block hlb
 have hb2 := hb.alloc hb.size o
 refine ⟨⟨hb2.os, hb2.tape, hb2.output, hb2.size, hb2.block⟩, ⟨li, lt, ls, ?_, ?_⟩, ⟨x, y, z, ?_⟩⟩
 ·exact (Below.heap_alloc wr o _ hl1).trans hlb
 ·rw [← he, bestO_succ, if_neg hno]
 ·exact (Below.heap_alloc wr o _ (lt_of_block hr)).trans hr
theorem set_three {w : World} {b : Nat} {x y z x' y' z' : Value} {t : TypeId} (h : w.heap[b]? = some (.cells #[x, y, z] t (0, 0))) : (((w.setCell ⟨b, 0, none⟩ x').setCell ⟨b, 1, none⟩ y').setCell ⟨b, 2, none⟩ z').heap[b]? = some (.cells #[x', y', z'] t (0, 0)) := by
 have h1 := heap_setCell_same w b 0 _ _ x' h
 have h2 := heap_setCell_same _ b 1 _ _ y' h1
 exact heap_setCell_same _ b 2 _ _ z' h2
theorem OpR.turn {s : ByteArray} {w : World} {p k : Nat} {wr : World} (h : OpR s w p k wr) {oi os : Int} {ot : ByteArray} (ht : tabAt k = (oi, ot.data.toList, os)) (hy : Lib.hasPrefix (s.data.toList.drop p) (tabAt k).2.1 = true ∧ (bestO s.data.toList p k).2.1.length < (tabAt k).2.1.length) (o : Obj) (n : Nat) :
  OpR s w p (k + 1) (((((wr.alloc o).drewN n).setCell ⟨w.heap.size + 1, 0, none⟩ (.int .i64 oi)).setCell ⟨w.heap.size + 1, 1, none⟩ (.string ot)).setCell ⟨w.heap.size + 1, 2, none⟩ (.int .i64 os)) := by
 obtain ⟨hb, ⟨li, lt, ls, hlb, he⟩, ⟨x, y, z, hr⟩⟩ := h
 have hl1 := lt_of_block hlb
 have hb2 := hb.alloc hb.size o
 have hb3 : Below w.heap.size w ((wr.alloc o).drewN n) := ⟨hb2.os, hb2.tape, hb2.output, hb2.size, hb2.block⟩
 have hl2 : ((wr.alloc o).drewN n).heap[w.heap.size + 1]? = some (.cells #[.int .i64 li, .string lt, .int .i64 ls] 176 (0, 0)) := (Below.heap_alloc wr o _ hl1).trans hlb
 have hr2 : ((wr.alloc o).drewN n).heap[w.heap.size]? = some (.cells #[x, y, z] 176 (0, 0)) := (Below.heap_alloc wr o _ (lt_of_block hr)).trans hr
 refine ⟨((hb3.setCell (by simp) _).setCell (by simp) _).setCell (by simp) _, ⟨oi, ot, os, set_three hl2, ?_⟩, ⟨x, y, z, ?_⟩⟩
 ·rw [bestO_succ, if_pos hy, ht]
 ·rw [heap_setCell_other _ _ _ _ (by simp), heap_setCell_other _ _ _ _ (by simp), heap_setCell_other _ _ _ _ (by simp)]
  exact hr2
theorem row_at (k : Nat) (hk : k < 13) : ∃ (oi : Int) (ot : ByteArray) (os : Int), (∀ W : World, (Instr.index 196 (.agg opsCells) (.int .i64 (k : Int))).run Tryz.prog W = .ok (.agg #[.int .i64 oi, .string ot, .int .i64 os]) W) ∧ tabAt k = (oi, ot.data.toList, os) :=
 ⟨(tabAt k).1, ⟨(tabAt k).2.1.toArray⟩, (tabAt k).2.2, fun W => index_ops k hk W, rfl⟩
set_option maxRecDepth 100000 in
set_option maxHeartbeats 4000000 in
theorem operator_any {w0 wa w : World} {g : Nat} {s : ByteArray} {p : Nat} {cs : List CM} (h : St w0 wa g s p cs w) (hO : Ops w) (hp : p ≤ s.size) (_hs : s.size ≤ 600) :
  Calls Tryz.prog 175 #[rp g] w fun e w' => ∃ X : ByteArray, X.size = (opAt s.data.toList p).2.1 ∧ e = .returned (.agg #[.int .i64 (opAt s.data.toList p).1, .string X, .int .i64 (opAt s.data.toList p).2.2]) ∧ Below w.heap.size w w' := by
 have hg := h.lt
 obtain ⟨v, ⟨c0, c1, c2, f1, f2⟩, hbox, hown⟩ := h.at_
 clear hbox hown h
 obtain ⟨tO, frO, hO⟩ := hO.at_
 have hOl := lt_of_block hO
 have hO2 : ∀ o1 o2 : Obj, ((w.alloc o1).alloc o2).heap[1]? = some (.cells opsCells tO frO) := fun o1 o2 => (Below.heap_alloc _ _ _ (by simp <;> omega)).trans ((Below.heap_alloc _ _ _ hOl).trans hO)
 have HO2 := Lib.hid hO2; clear hO hO2
 unfold rp
 go_enter Tryz.func175, Tryz.ntmps175
 go_wp2_with (refine wpList_load_row rfl 196 _ rfl 1 rfl tO _ frO _ (HO2.out _ _) Tryz.underlying196 rfl (by kernel_rfl) ?_)
 go_loopw [7] (fun i wr => ∃ k : Nat, k ≤ 13 ∧ i = .int .i64 k ∧ OpR s w p k wr) (fun i _ => 13 - (intOf i).toNat)
 case atStart => exact ⟨0, by omega, rfl, OpR.start⟩
 case round =>
  obtain ⟨k, hk, rfl, HR⟩ := hrel
  obtain ⟨hb, ⟨li, lt, ls, hlb, he⟩, hrb⟩ := HR.parts
  have hwl := lt_of_block hlb
  have HE := Lib.hid he; clear he
  have hgw : g < wr.heap.size := Nat.lt_of_lt_of_le hg hb.size
  have hgw2 : wr.heap.size ≠ g := by omega
  have hgw3 : wr.heap.size ≠ w.heap.size + 1 := by omega
  have hc0 : wr.cell? ⟨g, 0, none⟩ = some (.string s) := (hb.cell hg).trans c0
  have hc1 : wr.cell? ⟨g, 1, none⟩ = some (.int .i64 p) := (hb.cell hg).trans c1
  obtain ⟨l0, l1, l2, lf0, lf1, lf2⟩ := three_at hlb
  obtain ⟨rx, ry, rz, hrb⟩ := hrb
  obtain ⟨r0, r1, r2, rf0, rf1, rf2⟩ := three_at hrb
  have HLB := Lib.hid hlb; have HB := Lib.hid hb; have HRB := Lib.hid hrb
  clear hlb hb hrb
  by_cases hk13 : k < 13
  ·obtain ⟨oi, ot, os, hix, ht⟩ := row_at k hk13
   have HT := Lib.hid ht; clear ht
   have hpre : ∀ (W : World) (b : Bool), Lib.hasPrefix (s.data.toList.drop p) ot.data.toList = b → Calls Tryz.prog 198 #[.string (s.extract p s.size), .string ot] W fun e w' => e = .returned (.bool b) ∧ W = w' := by
    intro W b hb
    refine (Tryz.strings_HasPrefix _ _ W).mono ?_
    rintro e w' ⟨rfl, rfl⟩
    refine ⟨?_, rfl⟩
    rw [← hb, Lib.extract_data, List.take_of_length_le (by rw [List.length_drop, ← Lib.size_eq]; omega)]
   have HPRE := Lib.hid hpre; clear hpre
   cases hb1 : Lib.hasPrefix (s.data.toList.drop p) ot.data.toList
   ·have HN := Lib.hid (HPRE.out · false hb1)
    have hb1F := Lib.hid hb1
    clear hb1
    go_wp2
    go_quiet ((go_at_call 198; first | exact quiet_at (HN.out _) | exact quiet_on (HN.out _)))
    go_wp2
    go_roundw
    case rel => exact ⟨k + 1, by omega, by go_num, HR.keep (by rw [HT.out]; simp only [hb1F.out]; simp) _ _⟩
    case measure => simp [intOf]; omega
   ·have HN := Lib.hid (HPRE.out · true hb1)
    have hb1T := Lib.hid hb1
    clear hb1
    by_cases hlen : lt.size < ot.size
    ·have hlen' : (lt.size : Int) < (ot.size : Int) := by omega
     go_wp2
     go_quiet ((go_at_call 198; first | exact quiet_at (HN.out _) | exact quiet_on (HN.out _)))
     go_wp2
     go_roundw
     case rel => exact ⟨k + 1, by omega, by go_num, HR.turn HT.out (by rw [HT.out, HE.out]; exact ⟨hb1T.out, by simp only [← Lib.size_eq]; omega⟩) _ _⟩
     case measure => simp [intOf]; omega
    ·have hlen' : decide ((lt.size : Int) < (ot.size : Int)) = false := decide_eq_false (by omega)
     go_wp2
     go_quiet ((go_at_call 198; first | exact quiet_at (HN.out _) | exact quiet_on (HN.out _)))
     go_wp2
     go_roundw
     case rel => exact ⟨k + 1, by omega, by go_num, HR.keep (by rw [HT.out, HE.out]; simp only [← Lib.size_eq]; omega) _ _⟩
     case measure => simp [intOf]; omega
  ·obtain rfl : k = 13 := by omega
   have hfin := best_op s.data.toList p
   rw [HE.out] at hfin
   obtain ⟨hf1, hf2, hf3⟩ := hfin
   have hX : lt.size = (opAt s.data.toList p).2.1 := by rw [← hf2, Lib.size_eq]
   have HF : Hid (li = (opAt s.data.toList p).1 ∧ lt.size = (opAt s.data.toList p).2.1 ∧ ls = ((opAt s.data.toList p).2.2 : Int)) := ⟨hf1, hX, hf3⟩
   have HBS : Hid (Below w.heap.size w (((wr.setCell ⟨w.heap.size, 0, none⟩ (.int .i64 li)).setCell ⟨w.heap.size, 1, none⟩ (.string lt)).setCell ⟨w.heap.size, 2, none⟩ (.int .i64 ls))) := ((HB.out.setCell (Nat.le_refl _) _).setCell (Nat.le_refl _) _).setCell (Nat.le_refl _) _
   clear hf1 hf2 hX hf3
   go_wp2
   exact bodyPost_ret (v := .agg #[.int .i64 li, .string lt, .int .i64 ls]) (by simp [results, Tryz.results175, go_sem, r0, r1, r2]) rfl ⟨lt, HF.out.2.1, by rw [← HF.out.1, ← HF.out.2.2], HBS.out⟩
end Go.Proofs.YtkjkcgbmaojpiaaGreatDoor
namespace Go.Proofs.YtkjkcgbmaojpiaaGreatDoor
open Go.RowKit
def Laid (w : World) : Prop := Lib.TabIs Tryz.prog w "internal/strconv.uint64pow10" .u64 Lib.pow10Tab
theorem gTab : Tryz.prog.globalNamed "internal/strconv.uint64pow10" = some 4 := by kernel_rfl
theorem var_lt {w : World} {n : String} {g : Nat} {cs : Array Value} (hg : Tryz.prog.globalNamed n = some g) (h : w.var? Tryz.prog n = some cs) : g < w.heap.size := by
 unfold World.var? at h
 simp only [hg, Option.bind_some] at h
 rcases Nat.lt_or_ge g w.heap.size with h' | h'
 ·exact h'
 ·rw [Array.getElem?_eq_none h'] at h; cases h
theorem Laid.below {w w' : World} (h : Laid w) (hb : Below w.heap.size w w') : Laid w' := var?_below hb gTab (var_lt gTab h) h
end Go.Proofs.YtkjkcgbmaojpiaaGreatDoor
namespace Go.Proofs.YtkjkcgbmaojpiaaGreatDoor
open Go.RowKit
def operN (op : Int) : Nat := if 1 ≤ op ∧ op ≤ 6 then 0 else if 7 ≤ op ∧ op ≤ 10 then 1 else 2
def formedB (c : CM) : Bool :=
 if c.op = 1 then decide (c.nm = []) && (decide (0 ≤ c.a) && decide (c.a ≤ 1099511627776))
 else if c.op = 2 then decide (c.nm = []) && (decide (0 ≤ c.a) && decide (c.a ≤ 1048576))
 else if c.op = 5 ∨ c.op = 6 then decide (c.a = 0) && nameB c.nm
 else decide (1 ≤ c.op) && (decide (c.op ≤ 23) && (decide (c.a = 0) && decide (c.nm = [])))
theorem op_cases (op : Int) : op = 1 ∨ op = 2 ∨ op = 3 ∨ op = 4 ∨ op = 5 ∨ op = 6 ∨ op = 7 ∨ op = 8 ∨ op = 9 ∨ op = 10 ∨ (¬ (1 ≤ op ∧ op ≤ 10)) := by omega
theorem int_ne {a b : Int} (h : a ≠ b) : (a == b) = false := beq_eq_false_iff_ne.2 h
theorem operands_any (op : Int) (w : World) :
  Calls Tryz.prog 202 #[.int .i64 op] w fun e w' => e = .returned (.int .i64 (operN op)) ∧ w = w' := by
 rcases op_cases op with h | h | h | h | h | h | h | h | h | h | h
 ·subst h
  go_enter Tryz.func202, Tryz.ntmps202
  go_wp2
  go_ret
  exact ⟨rfl, rfl⟩
 ·subst h
  go_enter Tryz.func202, Tryz.ntmps202
  go_wp2
  go_ret
  exact ⟨rfl, rfl⟩
 ·subst h
  go_enter Tryz.func202, Tryz.ntmps202
  go_wp2
  go_ret
  exact ⟨rfl, rfl⟩
 ·subst h
  go_enter Tryz.func202, Tryz.ntmps202
  go_wp2
  go_ret
  exact ⟨rfl, rfl⟩
 ·subst h
  go_enter Tryz.func202, Tryz.ntmps202
  go_wp2
  go_ret
  exact ⟨rfl, rfl⟩
 ·subst h
  go_enter Tryz.func202, Tryz.ntmps202
  go_wp2
  go_ret
  exact ⟨rfl, rfl⟩
 ·subst h
  go_enter Tryz.func202, Tryz.ntmps202
  go_wp2
  go_ret
  exact ⟨rfl, rfl⟩
 ·subst h
  go_enter Tryz.func202, Tryz.ntmps202
  go_wp2
  go_ret
  exact ⟨rfl, rfl⟩
 ·subst h
  go_enter Tryz.func202, Tryz.ntmps202
  go_wp2
  go_ret
  exact ⟨rfl, rfl⟩
 ·subst h
  go_enter Tryz.func202, Tryz.ntmps202
  go_wp2
  go_ret
  exact ⟨rfl, rfl⟩
 have hN : operN op = 2 := by unfold operN; rw [if_neg (by omega), if_neg (by omega)]
 rw [hN]; clear hN
 have t1 := int_ne (a := op) (b := 1) (by omega)
 have t2 := int_ne (a := op) (b := 2) (by omega)
 have t3 := int_ne (a := op) (b := 3) (by omega)
 have t4 := int_ne (a := op) (b := 4) (by omega)
 have t5 := int_ne (a := op) (b := 5) (by omega)
 have t6 := int_ne (a := op) (b := 6) (by omega)
 have t7 := int_ne (a := op) (b := 7) (by omega)
 have t8 := int_ne (a := op) (b := 8) (by omega)
 have t9 := int_ne (a := op) (b := 9) (by omega)
 have t10 := int_ne (a := op) (b := 10) (by omega)
 clear h
 go_enter Tryz.func202, Tryz.ntmps202
 go_wp2
 go_ret
 exact ⟨rfl, rfl⟩
set_option maxHeartbeats 2000000 in
theorem formed_any (c : CM) (w : World) :
  Calls Tryz.prog 203 #[.agg #[.int .i64 c.op, .int .i64 c.a, bstr c.nm]] w fun e w' => e = .returned (.bool (formedB c)) ∧ Below w.heap.size w w' := by
 obtain ⟨op, a, nm⟩ := c
 obtain ⟨X, hX⟩ : ∃ X : ByteArray, X = ⟨nm.toArray⟩ := ⟨_, rfl⟩
 have hXl : X.data.toList = nm := by rw [hX]
 have hb : bstr nm = .string X := by rw [hX]; rfl
 simp only
 rw [hb]
 clear hb hX
 subst hXl
 have HBox : ∀ W : World, ∀ o : Obj, Below W.heap.size W (W.alloc o) := fun W o => (Below.refl _ _).alloc (Nat.le_refl _) o
 have HB := Lib.hid HBox; clear HBox
 by_cases h1 : op = 1
 ·subst h1
  have hF : formedB ⟨1, a, X.data.toList⟩ = (decide (X.data.toList = []) && (decide (0 ≤ a) && decide (a ≤ 1099511627776))) := rfl
  rw [hF]; clear hF
  rw [← Lib.toList_data]
  by_cases hn : X.toList = []
  ·have hne : X.toList.isEmpty = true := by rw [hn]; rfl
   rw [decide_eq_true hn]
   clear hn
   by_cases ha : 0 ≤ a
   ·by_cases hb : a ≤ 1099511627776
    ·rw [decide_eq_true ha, decide_eq_true hb]
     go_enter Tryz.func203, Tryz.ntmps203
     go_wp2
     go_ret
     exact ⟨rfl, HB.out _ _⟩
    ·rw [decide_eq_true ha, decide_eq_false hb]
     have hb' := decide_eq_false hb
     clear hb
     go_enter Tryz.func203, Tryz.ntmps203
     go_wp2
     go_ret
     exact ⟨rfl, HB.out _ _⟩
   ·rw [decide_eq_false ha]
    have ha' := decide_eq_false ha
    clear ha
    go_enter Tryz.func203, Tryz.ntmps203
    go_wp2
    go_ret
    exact ⟨rfl, HB.out _ _⟩
  ·have hne : X.toList.isEmpty = false := by
    cases h : X.toList with
    | nil => exact absurd h hn
    | cons _ _ => rfl
   rw [decide_eq_false hn]
   go_enter Tryz.func203, Tryz.ntmps203
   go_wp2
   go_ret
   exact ⟨rfl, HB.out _ _⟩
 ·by_cases h2 : op = 2
  ·subst h2
   have hF : formedB ⟨2, a, X.data.toList⟩ = (decide (X.data.toList = []) && (decide (0 ≤ a) && decide (a ≤ 1048576))) := rfl
   rw [hF]; clear hF
   rw [← Lib.toList_data]
   by_cases hn : X.toList = []
   ·have hne : X.toList.isEmpty = true := by rw [hn]; rfl
    rw [decide_eq_true hn]
    clear hn
    by_cases ha : 0 ≤ a
    ·by_cases hb : a ≤ 1048576
     ·rw [decide_eq_true ha, decide_eq_true hb]
      go_enter Tryz.func203, Tryz.ntmps203
      go_wp2
      go_ret
      exact ⟨rfl, HB.out _ _⟩
     ·rw [decide_eq_true ha, decide_eq_false hb]
      have hb' := decide_eq_false hb
      clear hb
      go_enter Tryz.func203, Tryz.ntmps203
      go_wp2
      go_ret
      exact ⟨rfl, HB.out _ _⟩
    ·rw [decide_eq_false ha]
     have ha' := decide_eq_false ha
     clear ha
     go_enter Tryz.func203, Tryz.ntmps203
     go_wp2
     go_ret
     exact ⟨rfl, HB.out _ _⟩
   ·have hne : X.toList.isEmpty = false := by
     cases h : X.toList with
     | nil => exact absurd h hn
     | cons _ _ => rfl
    rw [decide_eq_false hn]
    go_enter Tryz.func203, Tryz.ntmps203
    go_wp2
    go_ret
    exact ⟨rfl, HB.out _ _⟩
  ·by_cases h56 : op = 5 ∨ op = 6
   ·have hF : formedB ⟨op, a, X.data.toList⟩ = (decide (a = 0) && nameB X.data.toList) := by
     unfold formedB
     simp only
     rw [if_neg h1, if_neg h2, if_pos h56]
    rw [hF]; clear hF
    have HN := Lib.hid (name_any X)
    by_cases ha : a = 0
    ·subst ha
     cases hn : nameB X.data.toList
     all_goals
      have HNN := Lib.hid hn
      clear hn
      rcases h56 with h | h
     all_goals
      subst h
      clear h1 h2
      go_enter Tryz.func203, Tryz.ntmps203
      go_wp2_with fail
      refine (HN.out _).mono ?_
      rintro e w1 ⟨rfl, rfl⟩
      rw [HNN.out]
      go_wp2
      go_ret
      exact ⟨rfl, HB.out _ _⟩
    ·have ha' := int_ne ha
     rw [decide_eq_false ha]
     clear ha
     rcases h56 with h | h
     all_goals
      subst h
      clear h1 h2
      go_enter Tryz.func203, Tryz.ntmps203
      go_wp2
      go_ret
      exact ⟨rfl, HB.out _ _⟩
   ·have hF : formedB ⟨op, a, X.data.toList⟩ = (decide (1 ≤ op) && (decide (op ≤ 23) && (decide (a = 0) && decide (X.data.toList = [])))) := by
     unfold formedB
     simp only
     rw [if_neg h1, if_neg h2, if_neg h56]
    rw [hF]; clear hF
    rw [← Lib.toList_data]
    have t1 := int_ne h1
    have t2 := int_ne h2
    have t5 := int_ne (a := op) (b := 5) (fun e => h56 (Or.inl e))
    have t6 := int_ne (a := op) (b := 6) (fun e => h56 (Or.inr e))
    clear h1 h2 h56
    by_cases h1 : 1 ≤ op
    ·rw [decide_eq_true h1]
     by_cases h23 : op ≤ 23
     ·rw [decide_eq_true h23]
      by_cases ha : a = 0
      ·subst ha
       by_cases hn : X.toList = []
       ·have hne : X.toList.isEmpty = true := by rw [hn]; rfl
        rw [decide_eq_true hn]
        clear hn
        go_enter Tryz.func203, Tryz.ntmps203
        go_wp2
        go_ret
        exact ⟨rfl, HB.out _ _⟩
       ·have hne : X.toList.isEmpty = false := by
         cases h : X.toList with
         | nil => exact absurd h hn
         | cons _ _ => rfl
        rw [decide_eq_false hn]
        go_enter Tryz.func203, Tryz.ntmps203
        go_wp2
        go_ret
        exact ⟨rfl, HB.out _ _⟩
      ·have ha' := int_ne ha
       rw [decide_eq_false ha]
       clear ha
       go_enter Tryz.func203, Tryz.ntmps203
       go_wp2
       go_ret
       exact ⟨rfl, HB.out _ _⟩
     ·have h23' := decide_eq_false h23
      rw [h23']
      clear h23
      go_enter Tryz.func203, Tryz.ntmps203
      go_wp2
      go_ret
      exact ⟨rfl, HB.out _ _⟩
    ·have h1' := decide_eq_false h1
     rw [h1']
     clear h1
     go_enter Tryz.func203, Tryz.ntmps203
     go_wp2
     go_ret
     exact ⟨rfl, HB.out _ _⟩
end Go.Proofs.YtkjkcgbmaojpiaaGreatDoor
namespace Go.Proofs.YtkjkcgbmaojpiaaGreatDoor
open Go.RowKit
def inP (x : List UInt8) (st k : Int) : List UInt8 := if st < k then [40] ++ x ++ [41] else x
theorem sz0 (s : ByteArray) : s.data.toList.length = s.size := (Lib.size_eq s).symm
def betP (ot : List UInt8) (os : Int) (l r : List UInt8 × Int) : List UInt8 × Int := (inP l.1 l.2 (if os = 3 then os + 1 else os) ++ ot ++ inP r.1 r.2 (os + 1), os)
theorem inP_len (x : List UInt8) (st k : Int) : (inP x st k).length ≤ x.length + 2 := by
 unfold inP; split
 ·simp
 ·omega
def cur (w : World) (a : Addr) : Value := (w.cell? a).getD undef
end Go.Proofs.YtkjkcgbmaojpiaaGreatDoor
namespace Go.Proofs.YtkjkcgbmaojpiaaGreatDoor
def Few (p : Nat) (cs : List CM) (r : Rs) : Prop := r.1 = true → r.2.2.length + p ≤ cs.length + r.2.1
theorem few_close {s : List UInt8} {p : Nat} {cs : List CM} {r : Rs} (h : Few p cs r) : Few p cs (closeD s r) := by
 unfold closeD
 split
 ·rename_i hr
  split
  ·intro _; have := h hr; simp only; omega
  ·intro h'; simp at h'
 ·exact h
theorem few_add {o : Int} {p : Nat} {cs : List CM} {r : Rs} (h : Few (p + 1) cs r) : Few p cs (addD o r) := by
 unfold addD
 split
 ·rename_i hr
  intro _; have := h hr; simp only [List.length_append, List.length_singleton]; omega
 ·rename_i hr; intro h'; exact absurd h' hr
theorem few_less {p p' : Nat} {cs : List CM} {r : Rs} (h : Few p' cs r) (hp : p ≤ p') : Few p cs r := fun h' => by have := h h'; omega
theorem few_no {p q : Nat} {cs cs' : List CM} : Few p cs (false, q, cs') := fun h => by simp at h
theorem few_one {p q : Nat} {cs : List CM} {c : CM} (h : p < q) : Few p cs (true, q, cs ++ [c]) := fun _ => by simp; omega
theorem few_state {s : List UInt8} {p : Nat} {cs : List CM} : Few p cs (stateD s p cs) := by
 unfold stateD
 split
 ·exact few_close (few_one (by omega))
 ·exact few_no
theorem few_num {s : List UInt8} {p : Nat} {cs : List CM} (h : p < s.length) (hd : isD (nx s p) = true) : Few p cs (numD s p cs) := by
 have h2 := num_pos h hd
 unfold numD
 split
 ·exact few_no
 ·split
  ·split
   ·exact few_one (by omega)
   ·exact few_no
  ·exact few_one (by omega)
theorem name_pos {w : List UInt8} (h : nameB w = true) : 0 < w.length := by
 rcases Nat.eq_zero_or_pos w.length with h0 | h0
 ·rw [List.eq_nil_of_length_eq_zero h0] at h; simp [nameB] at h
 ·exact h0
theorem few_word {s : List UInt8} {p : Nat} {cs : List CM} {w : List UInt8} {inner : Rs} (hi : p + 3 ≤ s.length → Few (p + 3) cs inner) : Few p cs (wordD s p cs w inner) := by
 unfold wordD
 split
 ·exact few_one (by omega)
 ·split
  ·exact few_one (by omega)
  ·split
   ·rename_i hn; have := name_pos hn; exact few_one (by omega)
   ·split
    ·exact few_no
    ·rename_i h40
     have h3 := nx_lt (s := s) (p := p + w.length) (by rw [Decidable.not_not.1 h40]; decide)
     split
     ·exact few_state
     ·split
      ·rename_i e
       rw [e] at h3; simp [wRe] at h3
       exact few_add (few_close (few_less (hi (by omega)) (by omega)))
      ·split
       ·rename_i e
        rw [e] at h3; simp [wIm] at h3
        exact few_add (few_close (few_less (hi (by omega)) (by omega)))
       ·exact few_no
theorem few (s : List UInt8) : ∀ (n : Nat) (q : Q) (p : Nat) (cs : List CM), p ≤ s.length → (match q with | .loop k _ => 1 ≤ k | .joins k => 1 ≤ k | .ahead => True) → Few p cs (D s n q p cs) := by
 intro n
 induction n with
 | zero => intro q p cs hp _ h; simp [D] at h
 | succ n ih =>
  intro q p cs hp hq
  cases q with
  | joins k =>
   simp only at hq
   rw [D_joins]
   split
   ·exact ih .ahead p cs hp trivial
   ·have h1 := ih (.joins (k + 1)) p cs hp (by simp)
    split
    ·rename_i hr
     have hg := goes s n (.joins (k + 1)) p cs hp
     have h2 := ih (.loop k false) _ (D s n (.joins (k + 1)) p cs).2.2 hg.le hq
     intro h'; have := h2 h'; have := h1 hr; omega
    ·exact h1
  | loop k cmp =>
   simp only at hq
   rw [D_loop]
   split
   ·intro _; simp
   ·rename_i hk
    have hk := Decidable.not_not.1 hk
    split
    ·exact few_no
    ·have ho := opAt_some (s := s) (p := p) (by omega)
     have h1 := ih (.joins (k + 1)) (p + (opAt s p).2.1) cs ho.2 (by simp)
     have hg := goes s n (.joins (k + 1)) (p + (opAt s p).2.1) cs ho.2
     split
     ·rename_i hr
      have h2 := ih (.loop k (k == 3)) _ ((D s n (.joins (k + 1)) (p + (opAt s p).2.1) cs).2.2 ++ [opC (opAt s p).1]) hg.le hq
      intro h'
      have h3 := h2 h'
      have h4 := h1 hr
      rw [List.length_append, List.length_singleton] at h3
      omega
     ·intro h'; have := h1 h'; omega
  | ahead =>
   rw [D_ahead]
   split
   ·rename_i h
    have := nx_lt (s := s) (p := p) (by rw [h]; decide)
    exact few_add (ih .ahead (p + 1) cs (by omega) trivial)
   ·split
    ·rename_i h
     have := nx_lt (s := s) (p := p) (by rw [h]; decide)
     exact few_add (ih .ahead (p + 1) cs (by omega) trivial)
    ·split
     ·rename_i h
      have := nx_lt (s := s) (p := p) (by rw [h]; decide)
      exact few_close (few_less (ih (.joins 1) (p + 1) cs (by omega) (by simp)) (by omega))
     ·split
      ·rename_i hd
       have := nx_lt (s := s) (p := p) (by intro e; rw [e] at hd; exact absurd hd (by decide))
       exact few_num this hd
      ·exact few_word (fun h3 => ih (.joins 1) (p + 3) cs h3 (by simp))
end Go.Proofs.YtkjkcgbmaojpiaaGreatDoor
namespace Go.Proofs.YtkjkcgbmaojpiaaGreatDoor
open Go.RowKit
def JH (s : ByteArray) (n : Nat) : Prop := ∀ (w0 wa w : World) (g p : Nat) (cs : List CM) (k : Nat), St w0 wa g s p cs w → Ops w0 → 1 ≤ k → k ≤ 6 → p ≤ s.size → cs.length ≤ p → need s.data.toList (.joins k) p ≤ n →
 Calls Tryz.prog 148 #[rp g, .int .i64 k] w (RPost w0 wa g s (D s.data.toList n (.joins k) p cs))
def AH (s : ByteArray) (n : Nat) : Prop := ∀ (w0 wa w : World) (g p : Nat) (cs : List CM), St w0 wa g s p cs w → Ops w0 → p ≤ s.size → cs.length ≤ p → need s.data.toList .ahead p ≤ n →
 Calls Tryz.prog 174 #[rp g] w (RPost w0 wa g s (D s.data.toList n .ahead p cs))
theorem sz (s : ByteArray) : s.data.toList.length = s.size := (Lib.size_eq s).symm
theorem inside_any {s : ByteArray} {n : Nat} (hJ : JH s n) {w0 wa w : World} {g p : Nat} {cs : List CM} (h : St w0 wa g s p cs w) (hO : Ops w0) (hp : p + 1 ≤ s.size) (hs : s.size ≤ 600) (hc : cs.length ≤ p) (hn : need s.data.toList (.joins 1) (p + 1) ≤ n) :
  Calls Tryz.prog 221 #[rp g] w (RPost w0 wa g s (closeD s.data.toList (D s.data.toList n (.joins 1) (p + 1) cs))) := by
 have HS := Lib.hid (h.setAt ((p : Int) + 1) (p' := p + 1) (by omega))
 have HJ := Lib.hid (hJ w0 wa _ g (p + 1) cs 1 HS.out hO (by omega) (by omega) hp (by omega) hn)
 have hgo := goes s.data.toList n (.joins 1) (p + 1) cs (by rw [sz]; exact hp)
 obtain ⟨b, p1, cs1, hr⟩ : ∃ b p1 cs1, D s.data.toList n (.joins 1) (p + 1) cs = (b, p1, cs1) := ⟨_, _, _, rfl⟩
 rw [hr] at HJ hgo ⊢
 have hp1 : p1 ≤ s.size := by have := hgo.le; rw [sz] at this; exact this
 obtain ⟨v, ⟨c0, c1, c2, f1, f2⟩, hbox, hown⟩ := h.at_
 clear hbox hown h hr hgo hJ
 unfold rp at *
 cases b
 ·go_enter Tryz.func221, Tryz.ntmps221
  go_wp2_with fail
  refine HJ.out.mono ?_
  rintro e w1 ⟨rfl, h1⟩
  have H1 := Lib.hid h1; clear h1
  go_wp2
  go_ret
  exact ⟨rfl, H1.out⟩
 ·go_enter Tryz.func221, Tryz.ntmps221
  go_wp2_with fail
  refine HJ.out.mono ?_
  rintro e w1 ⟨rfl, h1⟩
  have H1 := Lib.hid h1; clear h1
  go_wp2_with fail
  refine (closed_any H1.out hp1 hs).mono ?_
  rintro e w2 ⟨rfl, h2⟩
  have H2 := Lib.hid h2; clear h2
  go_wp2
  go_ret
  exact ⟨rfl, H2.out⟩
theorem push_far {w w1 : World} {g b : Nat} {x v : Value} {o : Array Value} (hgrow : (w.alloc (.cells o b)).grownBy w1 v.ownBlock) (hg : g < w.heap.size) (hne : v.ownBlock ≠ some g) (hc : w.cell? ⟨g, 2, none⟩ = some x) (hf : w.frozen? ⟨g, 2, none⟩ = false) :
  w1.cell? ⟨g, 2, none⟩ = some x ∧ w1.frozen? ⟨g, 2, none⟩ = false :=
 ⟨(hgrow.cell_far ⟨g, 2, none⟩ (by simp; omega) (Ne.symm hne)).trans ((World.cell?_alloc_lt w _ _ hg).trans hc), (hgrow.frozen_far ⟨g, 2, none⟩ (by simp; omega) (Ne.symm hne)).trans ((World.frozen?_alloc_past _ g 2 hg).trans hf)⟩
set_option maxHeartbeats 1000000 in
set_option maxRecDepth 100000 in
theorem part_any {s : ByteArray} {n : Nat} (hJ : JH s n) {w0 wa w : World} {g p : Nat} {cs : List CM} (h : St w0 wa g s p cs w) (hO : Ops w0) (wd : ByteArray) (o : Int) (hwd : wd.size = 2) (hp : p + 3 ≤ s.size) (hs : s.size ≤ 600) (hc : cs.length ≤ p) (hn : need s.data.toList (.joins 1) (p + 3) ≤ n) :
  Calls Tryz.prog 227 #[rp g, .string wd, .int .i64 o] w (RPost w0 wa g s (addD o (closeD s.data.toList (D s.data.toList n (.joins 1) (p + 3) cs)))) := by
 have HS := Lib.hid (h.setAt ((p : Int) + 2) (p' := p + 2) (by omega))
 have HJ := Lib.hid (inside_any hJ HS.out hO (p := p + 2) hp hs (by omega) hn)
 have hgo := goes s.data.toList n (.joins 1) (p + 3) cs (by rw [sz]; exact hp)
 have hfew := few s.data.toList n (.joins 1) (p + 3) cs (by rw [sz]; exact hp) (by simp)
 have hgc := goes_close (s := s.data.toList) (p := p) (r := D s.data.toList n (.joins 1) (p + 3) cs) (by have := hgo.ge; omega) hgo.le
 have hfc := few_close (s := s.data.toList) hfew
 obtain ⟨b, p1, cs1, hr⟩ : ∃ b p1 cs1, closeD s.data.toList (D s.data.toList n (.joins 1) (p + 3) cs) = (b, p1, cs1) := ⟨_, _, _, rfl⟩
 rw [hr] at HJ hgc hfc ⊢
 have hp1 : p1 ≤ s.size := by have := hgc.le; rw [sz] at this; exact this
 obtain ⟨v, ⟨c0, c1, c2, f1, f2⟩, hbox, hown⟩ := h.at_
 obtain ⟨i0, hi0, hz0, hz1, hz2⟩ := info_parts Tryz.infoCell
 have HI := Lib.hid hi0; have HZ0 := Lib.hid hz0; have HZ1 := Lib.hid hz1; have HZ2 := Lib.hid hz2
 clear hi0 hz0 hz1 hz2 hbox hown h hr hgo hJ hfew hgc
 unfold rp at *
 cases b
 ·clear hfc
  go_enter Tryz.func227, Tryz.ntmps227
  go_wp2_with fail
  refine HJ.out.mono ?_
  rintro e w1 ⟨rfl, h1⟩
  have H1 := Lib.hid h1; clear h1
  go_wp2
  go_ret
  exact ⟨rfl, H1.out⟩
 ·have hfc : cs1.length ≤ 600 := by have := hfc rfl; simp only at this; omega
  go_enter Tryz.func227, Tryz.ntmps227
  go_wp2_with fail
  refine HJ.out.mono ?_
  rintro e w1 ⟨rfl, h1⟩
  clear c0 c1 c2 f1 f2
  obtain ⟨v1, ⟨c0, c1, c2, f1, f2⟩, hbox, hown⟩ := h1.at_
  have H1 := Lib.hid h1; have HBX := Lib.hid hbox; have HOWN := Lib.hid hown; have HNE := Lib.hid (own_ne hown hbox)
  have hgl := h1.lt
  have hWs := h1.size
  clear h1 hbox hown
  go_wp2_with (at_builtin; refine wpList_append_own _ rfl _ _ 40 rfl w0.heap.size 144 i0 _ 3 32 Tryz.underlying40 HI.out HZ0.out HZ1.out HZ2.out rfl (by decide) v1 cs1.length (flat cs1) rfl (HOWN.out.alloc _) ⟨w1.heap.size, 0, none⟩ 1 1 (cellV (opC o)) rfl rfl (one_wide w1 _ _ _ _) (one_vals (opC o)) (by unfold maxLen; omega) (by omega) (by simp; omega) ?_)
  intro v' w2 hown' hgrow _
  obtain ⟨gg, cap, rfl, _, _⟩ := hown'.form (by omega)
  obtain ⟨k2, kf2⟩ := push_far hgrow hgl HNE.out c2 f2
  have HH : Hid (St w0 wa g s p1 (cs1 ++ [opC o]) (w2.setCell ⟨g, 2, none⟩ (.slice (some ⟨gg, 0, none⟩) (cs1.length + 1) cap))) := by
   refine H1.out.push HBX.out HOWN.out (w1 := w1.alloc (.cells #[.int .i64 (opC o).op, .int .i64 (opC o).a, bstr (opC o).nm] 144)) ((Below.refl _ _).alloc (Nat.le_refl _) _) ?_ hgrow
   rw [flat_append, flat_one, List.length_append]
   exact hown'
  clear hown' hgrow
  go_wp2
  go_ret
  exact ⟨rfl, HH.out⟩
end Go.Proofs.YtkjkcgbmaojpiaaGreatDoor
