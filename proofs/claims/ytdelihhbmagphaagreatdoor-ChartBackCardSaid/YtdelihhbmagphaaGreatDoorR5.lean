/- Own texts, joined: Eo, Eq, Ei, Ej. -/
import Derived.Test.YtdelihhbmagphaaGreatDoorR2
import Derived.Test.YtdelihhbmagphaaGreatDoorR3
import Derived.Test.YtdelihhbmagphaaGreatDoorR4
namespace Go.Proofs.YtdelihhbmagphaaGreatDoor
open Go.RowKit
def operN (op : Int) : Nat := if 1 ≤ op ∧ op ≤ 6 then 0 else if 7 ≤ op ∧ op ≤ 10 then 1 else 2
def formedB (c : CM) : Bool :=
 if c.op = 1 then decide (c.nm = []) && (decide (0 ≤ c.a) && decide (c.a ≤ 1099511627776))
 else if c.op = 2 then decide (c.nm = []) && (decide (0 ≤ c.a) && decide (c.a ≤ 1048576))
 else if c.op = 5 ∨ c.op = 6 then decide (c.a = 0) && nameB c.nm
 else decide (1 ≤ c.op) && (decide (c.op ≤ 23) && (decide (c.a = 0) && decide (c.nm = [])))
theorem op_cases (op : Int) : op = 1 ∨ op = 2 ∨ op = 3 ∨ op = 4 ∨ op = 5 ∨ op = 6 ∨ op = 7 ∨ op = 8 ∨ op = 9 ∨ op = 10 ∨ (¬ (1 ≤ op ∧ op ≤ 10)) := by omega
theorem int_ne {a b : Int} (h : a ≠ b) : (a == b) = false := beq_eq_false_iff_ne.2 h
theorem operands_any (op : Int) (w : World) :
  Calls Tryz.prog 137 #[.int .i64 op] w fun e w' => e = .returned (.int .i64 (operN op)) ∧ w = w' := by
 rcases op_cases op with h | h | h | h | h | h | h | h | h | h | h
 ·subst h
  go_enter Tryz.func137, Tryz.ntmps137
  go_wp2
  go_ret
  exact ⟨rfl, rfl⟩
 ·subst h
  go_enter Tryz.func137, Tryz.ntmps137
  go_wp2
  go_ret
  exact ⟨rfl, rfl⟩
 ·subst h
  go_enter Tryz.func137, Tryz.ntmps137
  go_wp2
  go_ret
  exact ⟨rfl, rfl⟩
 ·subst h
  go_enter Tryz.func137, Tryz.ntmps137
  go_wp2
  go_ret
  exact ⟨rfl, rfl⟩
 ·subst h
  go_enter Tryz.func137, Tryz.ntmps137
  go_wp2
  go_ret
  exact ⟨rfl, rfl⟩
 ·subst h
  go_enter Tryz.func137, Tryz.ntmps137
  go_wp2
  go_ret
  exact ⟨rfl, rfl⟩
 ·subst h
  go_enter Tryz.func137, Tryz.ntmps137
  go_wp2
  go_ret
  exact ⟨rfl, rfl⟩
 ·subst h
  go_enter Tryz.func137, Tryz.ntmps137
  go_wp2
  go_ret
  exact ⟨rfl, rfl⟩
 ·subst h
  go_enter Tryz.func137, Tryz.ntmps137
  go_wp2
  go_ret
  exact ⟨rfl, rfl⟩
 ·subst h
  go_enter Tryz.func137, Tryz.ntmps137
  go_wp2
  go_ret
  exact ⟨rfl, rfl⟩
 have hN : operN op = 2 := by unfold operN; rw [if_neg (by omega), if_neg (by omega)]
 rw [hN]; clear hN
 have t1 := int_ne (a := op) (b := 1) (by omega)
 have t2 := int_ne (a := op) (b := 2) (by omega)
 have t3 := int_ne (a := op) (b := 3) (by omega)
 have t4 := int_ne (a := op) (b := 4) (by omega)
 have t5 := int_ne (a := op) (b := 5) (by omega)
 have t6 := int_ne (a := op) (b := 6) (by omega)
 have t7 := int_ne (a := op) (b := 7) (by omega)
 have t8 := int_ne (a := op) (b := 8) (by omega)
 have t9 := int_ne (a := op) (b := 9) (by omega)
 have t10 := int_ne (a := op) (b := 10) (by omega)
 clear h
 go_enter Tryz.func137, Tryz.ntmps137
 go_wp2
 go_ret
 exact ⟨rfl, rfl⟩
set_option maxHeartbeats 2000000 in
theorem formed_any (c : CM) (w : World) :
  Calls Tryz.prog 171 #[.agg #[.int .i64 c.op, .int .i64 c.a, bstr c.nm]] w fun e w' => e = .returned (.bool (formedB c)) ∧ Below w.heap.size w w' := by
 obtain ⟨op, a, nm⟩ := c
 obtain ⟨X, hX⟩ : ∃ X : ByteArray, X = ⟨nm.toArray⟩ := ⟨_, rfl⟩
 have hXl : X.data.toList = nm := by rw [hX]
 have hb : bstr nm = .string X := by rw [hX]; rfl
 simp only
 rw [hb]
 clear hb hX
 subst hXl
 have HBox : ∀ W : World, ∀ o : Obj, Below W.heap.size W (W.alloc o) := fun W o => (Below.refl _ _).alloc (Nat.le_refl _) o
 have HB := Lib.hid HBox; clear HBox
 by_cases h1 : op = 1
 ·subst h1
  have hF : formedB ⟨1, a, X.data.toList⟩ = (decide (X.data.toList = []) && (decide (0 ≤ a) && decide (a ≤ 1099511627776))) := rfl
  rw [hF]; clear hF
  rw [← Lib.toList_data]
  by_cases hn : X.toList = []
  ·have hne : X.toList.isEmpty = true := by rw [hn]; rfl
   rw [decide_eq_true hn]
   clear hn
   by_cases ha : 0 ≤ a
   ·by_cases hb : a ≤ 1099511627776
    ·rw [decide_eq_true ha, decide_eq_true hb]
     go_enter Tryz.func171, Tryz.ntmps171
     go_wp2
     go_ret
     exact ⟨rfl, HB.out _ _⟩
    ·rw [decide_eq_true ha, decide_eq_false hb]
     have hb' := decide_eq_false hb
     clear hb
     go_enter Tryz.func171, Tryz.ntmps171
     go_wp2
     go_ret
     exact ⟨rfl, HB.out _ _⟩
   ·rw [decide_eq_false ha]
    have ha' := decide_eq_false ha
    clear ha
    go_enter Tryz.func171, Tryz.ntmps171
    go_wp2
    go_ret
    exact ⟨rfl, HB.out _ _⟩
  ·have hne : X.toList.isEmpty = false := by
    cases h : X.toList with
    | nil => exact absurd h hn
    | cons _ _ => rfl
   rw [decide_eq_false hn]
   go_enter Tryz.func171, Tryz.ntmps171
   go_wp2
   go_ret
   exact ⟨rfl, HB.out _ _⟩
 ·by_cases h2 : op = 2
  ·subst h2
   have hF : formedB ⟨2, a, X.data.toList⟩ = (decide (X.data.toList = []) && (decide (0 ≤ a) && decide (a ≤ 1048576))) := rfl
   rw [hF]; clear hF
   rw [← Lib.toList_data]
   by_cases hn : X.toList = []
   ·have hne : X.toList.isEmpty = true := by rw [hn]; rfl
    rw [decide_eq_true hn]
    clear hn
    by_cases ha : 0 ≤ a
    ·by_cases hb : a ≤ 1048576
     ·rw [decide_eq_true ha, decide_eq_true hb]
      go_enter Tryz.func171, Tryz.ntmps171
      go_wp2
      go_ret
      exact ⟨rfl, HB.out _ _⟩
     ·rw [decide_eq_true ha, decide_eq_false hb]
      have hb' := decide_eq_false hb
      clear hb
      go_enter Tryz.func171, Tryz.ntmps171
      go_wp2
      go_ret
      exact ⟨rfl, HB.out _ _⟩
    ·rw [decide_eq_false ha]
     have ha' := decide_eq_false ha
     clear ha
     go_enter Tryz.func171, Tryz.ntmps171
     go_wp2
     go_ret
     exact ⟨rfl, HB.out _ _⟩
   ·have hne : X.toList.isEmpty = false := by
     cases h : X.toList with
     | nil => exact absurd h hn
     | cons _ _ => rfl
    rw [decide_eq_false hn]
    go_enter Tryz.func171, Tryz.ntmps171
    go_wp2
    go_ret
    exact ⟨rfl, HB.out _ _⟩
  ·by_cases h56 : op = 5 ∨ op = 6
   ·have hF : formedB ⟨op, a, X.data.toList⟩ = (decide (a = 0) && nameB X.data.toList) := by
     unfold formedB
     simp only
     rw [if_neg h1, if_neg h2, if_pos h56]
    rw [hF]; clear hF
    have HN := Lib.hid (name_any X)
    by_cases ha : a = 0
    ·subst ha
     cases hn : nameB X.data.toList
     all_goals
      have HNN := Lib.hid hn
      clear hn
      rcases h56 with h | h
     all_goals
      subst h
      clear h1 h2
      go_enter Tryz.func171, Tryz.ntmps171
      go_wp2_with fail
      refine (HN.out _).mono ?_
      rintro e w1 ⟨rfl, rfl⟩
      rw [HNN.out]
      go_wp2
      go_ret
      exact ⟨rfl, HB.out _ _⟩
    ·have ha' := int_ne ha
     rw [decide_eq_false ha]
     clear ha
     rcases h56 with h | h
     all_goals
      subst h
      clear h1 h2
      go_enter Tryz.func171, Tryz.ntmps171
      go_wp2
      go_ret
      exact ⟨rfl, HB.out _ _⟩
   ·have hF : formedB ⟨op, a, X.data.toList⟩ = (decide (1 ≤ op) && (decide (op ≤ 23) && (decide (a = 0) && decide (X.data.toList = [])))) := by
     unfold formedB
     simp only
     rw [if_neg h1, if_neg h2, if_neg h56]
    rw [hF]; clear hF
    rw [← Lib.toList_data]
    have t1 := int_ne h1
    have t2 := int_ne h2
    have t5 := int_ne (a := op) (b := 5) (fun e => h56 (Or.inl e))
    have t6 := int_ne (a := op) (b := 6) (fun e => h56 (Or.inr e))
    clear h1 h2 h56
    by_cases h1 : 1 ≤ op
    ·rw [decide_eq_true h1]
     by_cases h23 : op ≤ 23
     ·rw [decide_eq_true h23]
      by_cases ha : a = 0
      ·subst ha
       by_cases hn : X.toList = []
       ·have hne : X.toList.isEmpty = true := by rw [hn]; rfl
        rw [decide_eq_true hn]
        clear hn
        go_enter Tryz.func171, Tryz.ntmps171
        go_wp2
        go_ret
        exact ⟨rfl, HB.out _ _⟩
       ·have hne : X.toList.isEmpty = false := by
         cases h : X.toList with
         | nil => exact absurd h hn
         | cons _ _ => rfl
        rw [decide_eq_false hn]
        go_enter Tryz.func171, Tryz.ntmps171
        go_wp2
        go_ret
        exact ⟨rfl, HB.out _ _⟩
      ·have ha' := int_ne ha
       rw [decide_eq_false ha]
       clear ha
       go_enter Tryz.func171, Tryz.ntmps171
       go_wp2
       go_ret
       exact ⟨rfl, HB.out _ _⟩
     ·have h23' := decide_eq_false h23
      rw [h23']
      clear h23
      go_enter Tryz.func171, Tryz.ntmps171
      go_wp2
      go_ret
      exact ⟨rfl, HB.out _ _⟩
    ·have h1' := decide_eq_false h1
     rw [h1']
     clear h1
     go_enter Tryz.func171, Tryz.ntmps171
     go_wp2
     go_ret
     exact ⟨rfl, HB.out _ _⟩
end Go.Proofs.YtdelihhbmagphaaGreatDoor
namespace Go.Proofs.YtdelihhbmagphaaGreatDoor
open Go.RowKit
def inP (x : List UInt8) (st k : Int) : List UInt8 := if st < k then [40] ++ x ++ [41] else x
theorem sz0 (s : ByteArray) : s.data.toList.length = s.size := (Lib.size_eq s).symm
theorem ret_s {a b : ByteArray} (h : a = b) : Ending.returned (.string a) = .returned (.string b) := by rw [h]
theorem within_any (x : List UInt8) (st k : Int) (w : World) (hx : x.length ≤ 100000) :
  Calls Tryz.prog 172 #[.agg #[.string ⟨x.toArray⟩, .int .i64 st], .int .i64 k] w fun e w' => e = .returned (.string ⟨(inP x st k).toArray⟩) ∧ Below w.heap.size w w' := by
 obtain ⟨X, hX⟩ : ∃ X : ByteArray, (⟨x.toArray⟩ : ByteArray) = X := ⟨_, rfl⟩
 have hXs : X.size ≤ 100000 := by rw [← hX, size_list]; exact hx
 have HX := Lib.hid hX
 rw [hX]; clear hX
 by_cases h : st < k
 ·have hI : inP x st k = [40] ++ x ++ [41] := by unfold inP; rw [if_pos h]
  rw [hI]; clear hI
  have h1 : ((⟨#[40]⟩ : ByteArray).size : Int) + (X.size : Int) ≤ 9223372036854775807 := by
   show ((1 : Nat) : Int) + _ ≤ _; omega
  have h2 : (((⟨#[40]⟩ : ByteArray) ++ X).size : Int) + ((⟨#[41]⟩ : ByteArray).size : Int) ≤ 9223372036854775807 := by
   rw [ByteArray.size_append]
   show ((((1 : Nat) + X.size : Nat)) : Int) + ((1 : Nat) : Int) ≤ _; omega
  go_enter Tryz.func172, Tryz.ntmps172
  go_wp2
  go_ret
  refine ⟨ret_s ?_, (Below.refl _ _).alloc (Nat.le_refl _) _⟩
  rw [← HX.out]
  show ((⟨[40].toArray⟩ : ByteArray) ++ _) ++ (⟨[41].toArray⟩ : ByteArray) = _
  rw [bytes_join, bytes_join]
  simp
 ·have hI : inP x st k = x := by unfold inP; rw [if_neg h]
  rw [hI]; clear hI
  have h' := decide_eq_false h
  clear h
  go_enter Tryz.func172, Tryz.ntmps172
  go_wp2
  go_ret
  exact ⟨ret_s HX.out.symm, (Below.refl _ _).alloc (Nat.le_refl _) _⟩
def betP (ot : List UInt8) (os : Int) (l r : List UInt8 × Int) : List UInt8 × Int := (inP l.1 l.2 (if os = 3 then os + 1 else os) ++ ot ++ inP r.1 r.2 (os + 1), os)
theorem inP_len (x : List UInt8) (st k : Int) : (inP x st k).length ≤ x.length + 2 := by
 unfold inP; split
 ·simp
 ·omega
theorem two_at {w : World} {b : Nat} {x y : Value} {t : TypeId} (h : w.heap[b]? = some (.cells #[x, y] t (0, 0))) : w.cell? ⟨b, 0, none⟩ = some x ∧ w.cell? ⟨b, 1, none⟩ = some y ∧ w.frozen? ⟨b, 0, none⟩ = false ∧ w.frozen? ⟨b, 1, none⟩ = false :=
 ⟨(cell_of_row w b 0 _ _ _ h).trans rfl, (cell_of_row w b 1 _ _ _ h).trans rfl, frozen_of_row w b 0 _ _ h, frozen_of_row w b 1 _ _ h⟩
theorem four_at (w : World) (a b c d : Obj) : Below w.heap.size w ((((w.alloc a).alloc b).alloc c).alloc d) ∧ ((((w.alloc a).alloc b).alloc c).alloc d).heap.size = w.heap.size + 4 ∧
  ((((w.alloc a).alloc b).alloc c).alloc d).heap[w.heap.size]? = some a ∧ ((((w.alloc a).alloc b).alloc c).alloc d).heap[w.heap.size + 1]? = some b ∧ ((((w.alloc a).alloc b).alloc c).alloc d).heap[w.heap.size + 1 + 1]? = some c ∧
  ((((w.alloc a).alloc b).alloc c).alloc d).heap[w.heap.size + 1 + 1 + 1]? = some d := by
 refine ⟨((((Below.refl _ _).alloc (Nat.le_refl _) _).alloc (by simp) _).alloc (by simp; omega) _).alloc (by simp; omega) _, by simp, ?_, ?_, ?_, ?_⟩
 ·exact (Below.heap_alloc _ _ _ (by simp; omega)).trans ((Below.heap_alloc _ _ _ (by simp; omega)).trans ((Below.heap_alloc _ _ _ (by simp)).trans (heap_alloc_new w a)))
 ·have := heap_alloc_new (w.alloc a) b
  rw [show (w.alloc a).heap.size = w.heap.size + 1 by simp] at this
  exact (Below.heap_alloc _ _ _ (by simp)).trans ((Below.heap_alloc _ _ _ (by simp)).trans this)
 ·have := heap_alloc_new ((w.alloc a).alloc b) c
  rw [show ((w.alloc a).alloc b).heap.size = w.heap.size + 1 + 1 by simp] at this
  exact (Below.heap_alloc _ _ _ (by simp)).trans this
 ·have := heap_alloc_new (((w.alloc a).alloc b).alloc c) d
  rw [show (((w.alloc a).alloc b).alloc c).heap.size = w.heap.size + 1 + 1 + 1 by simp] at this
  exact this
def cur (w : World) (a : Addr) : Value := (w.cell? a).getD undef
theorem cur_of {w : World} {a : Addr} {u : Value} (h : w.cell? a = some u) : w.cell? a = some (cur w a) := by unfold cur; rw [h]; rfl
theorem bt_keep {w w1 : World} {bo N : Nat} {x1 x2 x3 x4 x5 x6 : Value} (hb : Below w.heap.size w w1) (h0 : N ≤ w.heap.size) (hN : bo + 3 < N)
  (c1 : w.cell? ⟨bo, 1, none⟩ = some x1) (c2 : w.cell? ⟨bo, 2, none⟩ = some x2) (c3 : w.cell? ⟨bo + 1, 0, none⟩ = some x3) (c4 : w.cell? ⟨bo + 1, 1, none⟩ = some x4) (c5 : w.cell? ⟨bo + 1 + 1, 0, none⟩ = some x5) (c6 : w.cell? ⟨bo + 1 + 1, 1, none⟩ = some x6)
  (s1 : w.cell? ⟨bo + 1 + 1 + 1, 0, none⟩ = some (cur w ⟨bo + 1 + 1 + 1, 0, none⟩)) (s2 : w.cell? ⟨bo + 1 + 1 + 1, 1, none⟩ = some (cur w ⟨bo + 1 + 1 + 1, 1, none⟩)) (f1 : w.frozen? ⟨bo + 1 + 1 + 1, 0, none⟩ = false) (f2 : w.frozen? ⟨bo + 1 + 1 + 1, 1, none⟩ = false) :
  N ≤ w1.heap.size ∧ w1.cell? ⟨bo, 1, none⟩ = some x1 ∧ w1.cell? ⟨bo, 2, none⟩ = some x2 ∧ w1.cell? ⟨bo + 1, 0, none⟩ = some x3 ∧ w1.cell? ⟨bo + 1, 1, none⟩ = some x4 ∧ w1.cell? ⟨bo + 1 + 1, 0, none⟩ = some x5 ∧ w1.cell? ⟨bo + 1 + 1, 1, none⟩ = some x6 ∧
   w1.cell? ⟨bo + 1 + 1 + 1, 0, none⟩ = some (cur w1 ⟨bo + 1 + 1 + 1, 0, none⟩) ∧ w1.cell? ⟨bo + 1 + 1 + 1, 1, none⟩ = some (cur w1 ⟨bo + 1 + 1 + 1, 1, none⟩) ∧ w1.frozen? ⟨bo + 1 + 1 + 1, 0, none⟩ = false ∧ w1.frozen? ⟨bo + 1 + 1 + 1, 1, none⟩ = false := by
 have k : ∀ b o, b < w.heap.size → w1.cell? ⟨b, o, none⟩ = w.cell? ⟨b, o, none⟩ := fun b o h => hb.cell (p := ⟨b, o, none⟩) h
 have f : ∀ b o, b < w.heap.size → w1.frozen? ⟨b, o, none⟩ = w.frozen? ⟨b, o, none⟩ := fun b o h => hb.frozen (p := ⟨b, o, none⟩) h
 have := hb.size
 exact ⟨by omega, (k _ _ (by omega)).trans c1, (k _ _ (by omega)).trans c2, (k _ _ (by omega)).trans c3, (k _ _ (by omega)).trans c4, (k _ _ (by omega)).trans c5, (k _ _ (by omega)).trans c6, cur_of ((k _ _ (by omega)).trans s1), cur_of ((k _ _ (by omega)).trans s2), (f _ _ (by omega)).trans f1, (f _ _ (by omega)).trans f2⟩
theorem bt_set {w : World} {bo N : Nat} {x1 x2 x3 x4 x5 x6 u v : Value} (h0 : N ≤ w.heap.size)
  (c1 : w.cell? ⟨bo, 1, none⟩ = some x1) (c2 : w.cell? ⟨bo, 2, none⟩ = some x2) (c3 : w.cell? ⟨bo + 1, 0, none⟩ = some x3) (c4 : w.cell? ⟨bo + 1, 1, none⟩ = some x4) (c5 : w.cell? ⟨bo + 1 + 1, 0, none⟩ = some x5) (c6 : w.cell? ⟨bo + 1 + 1, 1, none⟩ = some x6)
  (s1 : w.cell? ⟨bo + 1 + 1 + 1, 0, none⟩ = some (cur w ⟨bo + 1 + 1 + 1, 0, none⟩)) (s2 : w.cell? ⟨bo + 1 + 1 + 1, 1, none⟩ = some (cur w ⟨bo + 1 + 1 + 1, 1, none⟩)) (f1 : w.frozen? ⟨bo + 1 + 1 + 1, 0, none⟩ = false) (f2 : w.frozen? ⟨bo + 1 + 1 + 1, 1, none⟩ = false) :
  N ≤ ((w.setCell ⟨bo + 1 + 1 + 1, 0, none⟩ u).setCell ⟨bo + 1 + 1 + 1, 1, none⟩ v).heap.size ∧ ((w.setCell ⟨bo + 1 + 1 + 1, 0, none⟩ u).setCell ⟨bo + 1 + 1 + 1, 1, none⟩ v).cell? ⟨bo, 1, none⟩ = some x1 ∧ ((w.setCell ⟨bo + 1 + 1 + 1, 0, none⟩ u).setCell ⟨bo + 1 + 1 + 1, 1, none⟩ v).cell? ⟨bo, 2, none⟩ = some x2 ∧
   ((w.setCell ⟨bo + 1 + 1 + 1, 0, none⟩ u).setCell ⟨bo + 1 + 1 + 1, 1, none⟩ v).cell? ⟨bo + 1, 0, none⟩ = some x3 ∧ ((w.setCell ⟨bo + 1 + 1 + 1, 0, none⟩ u).setCell ⟨bo + 1 + 1 + 1, 1, none⟩ v).cell? ⟨bo + 1, 1, none⟩ = some x4 ∧
   ((w.setCell ⟨bo + 1 + 1 + 1, 0, none⟩ u).setCell ⟨bo + 1 + 1 + 1, 1, none⟩ v).cell? ⟨bo + 1 + 1, 0, none⟩ = some x5 ∧ ((w.setCell ⟨bo + 1 + 1 + 1, 0, none⟩ u).setCell ⟨bo + 1 + 1 + 1, 1, none⟩ v).cell? ⟨bo + 1 + 1, 1, none⟩ = some x6 ∧
   ((w.setCell ⟨bo + 1 + 1 + 1, 0, none⟩ u).setCell ⟨bo + 1 + 1 + 1, 1, none⟩ v).cell? ⟨bo + 1 + 1 + 1, 0, none⟩ = some (cur ((w.setCell ⟨bo + 1 + 1 + 1, 0, none⟩ u).setCell ⟨bo + 1 + 1 + 1, 1, none⟩ v) ⟨bo + 1 + 1 + 1, 0, none⟩) ∧
   ((w.setCell ⟨bo + 1 + 1 + 1, 0, none⟩ u).setCell ⟨bo + 1 + 1 + 1, 1, none⟩ v).cell? ⟨bo + 1 + 1 + 1, 1, none⟩ = some (cur ((w.setCell ⟨bo + 1 + 1 + 1, 0, none⟩ u).setCell ⟨bo + 1 + 1 + 1, 1, none⟩ v) ⟨bo + 1 + 1 + 1, 1, none⟩) ∧
   ((w.setCell ⟨bo + 1 + 1 + 1, 0, none⟩ u).setCell ⟨bo + 1 + 1 + 1, 1, none⟩ v).frozen? ⟨bo + 1 + 1 + 1, 0, none⟩ = false ∧ ((w.setCell ⟨bo + 1 + 1 + 1, 0, none⟩ u).setCell ⟨bo + 1 + 1 + 1, 1, none⟩ v).frozen? ⟨bo + 1 + 1 + 1, 1, none⟩ = false := by
 have k : ∀ b o, b ≠ bo + 1 + 1 + 1 → ((w.setCell ⟨bo + 1 + 1 + 1, 0, none⟩ u).setCell ⟨bo + 1 + 1 + 1, 1, none⟩ v).cell? ⟨b, o, none⟩ = w.cell? ⟨b, o, none⟩ := by
  intro b o h
  rw [World.cell?_setCell_other _ _ _ _ (by intro e; injection e with e; omega), World.cell?_setCell_other _ _ _ _ (by intro e; injection e with e; omega)]
 have e1 : (w.setCell ⟨bo + 1 + 1 + 1, 0, none⟩ u).cell? ⟨bo + 1 + 1 + 1, 0, none⟩ = some u := World.cell?_setCell_same _ _ _ s1
 have e2 : (w.setCell ⟨bo + 1 + 1 + 1, 0, none⟩ u).cell? ⟨bo + 1 + 1 + 1, 1, none⟩ = some (cur w ⟨bo + 1 + 1 + 1, 1, none⟩) := by
  rw [World.cell?_setCell_other _ _ _ _ (by intro e; injection e with _ e; omega)]; exact s2
 refine ⟨by simpa using h0, (k _ _ (by omega)).trans c1, (k _ _ (by omega)).trans c2, (k _ _ (by omega)).trans c3, (k _ _ (by omega)).trans c4, (k _ _ (by omega)).trans c5, (k _ _ (by omega)).trans c6, ?_, ?_, by simpa using f1, by simpa using f2⟩
 ·refine cur_of (u := u) ?_
  rw [World.cell?_setCell_other _ _ _ _ (by intro e; injection e with _ e; omega)]; exact e1
 ·exact cur_of (World.cell?_setCell_same _ _ _ e2)
theorem within_bytes (X : ByteArray) (st k : Int) (w : World) (hx : X.size ≤ 100000) :
  Calls Tryz.prog 172 #[.agg #[.string X, .int .i64 st], .int .i64 k] w fun e w' => e = .returned (.string ⟨(inP X.data.toList st k).toArray⟩) ∧ Below w.heap.size w w' :=
 within_any X.data.toList st k w (by rw [sz0]; exact hx)
set_option maxRecDepth 100000 in
set_option maxHeartbeats 4000000 in
theorem between_any (oi os : Int) (OT LB RB : ByteArray) (ls rs : Int) (w : World) (hot : OT.size ≤ 2) (hl : LB.size ≤ 10000) (hr : RB.size ≤ 10000) (h0 : 0 ≤ os) (h5 : os ≤ 5) :
  Calls Tryz.prog 173 #[.agg #[.int .i64 oi, .string OT, .int .i64 os], .agg #[.string LB, .int .i64 ls], .agg #[.string RB, .int .i64 rs]] w
   fun e w' => e = .returned (.agg #[.string ⟨(betP OT.data.toList os (LB.data.toList, ls) (RB.data.toList, rs)).1.toArray⟩, .int .i64 os]) ∧ Below w.heap.size w w' := by
 obtain ⟨hW, hWs, ha, hb, hc, hd⟩ := four_at w (.cells #[.int .i64 oi, .string OT, .int .i64 os] 198) (.cells #[.string LB, .int .i64 ls] 183) (.cells #[.string RB, .int .i64 rs] 183) (.cells #[.string ⟨#[]⟩, .int .i64 0] 183)
 have HW := Lib.hid hW; have HWS := Lib.hid hWs; have HA := Lib.hid ha; have HB := Lib.hid hb; have HC := Lib.hid hc; have HD := Lib.hid hd
 clear hW hWs ha hb hc hd
 have hll := inP_len LB.data.toList ls (if os = 3 then os + 1 else os)
 have hrl := inP_len RB.data.toList rs (os + 1)
 rw [sz0] at hll hrl
 have hbet : (⟨(betP OT.data.toList os (LB.data.toList, ls) (RB.data.toList, rs)).1.toArray⟩ : ByteArray) = (⟨(inP LB.data.toList ls (if os = 3 then os + 1 else os)).toArray⟩ ++ OT) ++ ⟨(inP RB.data.toList rs (os + 1)).toArray⟩ := by
  apply ByteArray.ext
  simp [betP]
 rw [hbet]
 clear hbet
 by_cases h3 : os = 3
 ·subst h3
  rw [if_pos rfl] at hll ⊢
  rw [show (3 : Int) + 1 = 4 from rfl] at hll hrl ⊢
  have HCL := Lib.hid (within_bytes LB ls 4 · (by omega))
  have HCR := Lib.hid (within_bytes RB rs 4 · (by omega))
  obtain ⟨L2, hL2⟩ : ∃ L2 : ByteArray, ⟨(inP LB.data.toList ls 4).toArray⟩ = L2 := ⟨_, rfl⟩
  obtain ⟨R2, hR2⟩ : ∃ R2 : ByteArray, ⟨(inP RB.data.toList rs 4).toArray⟩ = R2 := ⟨_, rfl⟩
  rw [hL2] at HCL ⊢
  rw [hR2] at HCR ⊢
  have hls : L2.size ≤ 10002 := by rw [← hL2, size_list]; omega
  have hrs : R2.size ≤ 10002 := by rw [← hR2, size_list]; omega
  clear hL2 hR2 hll hrl
  have k1 : ∀ W : World, (Op.stringOp .add L2 OT).run Tryz.prog W = .ok (.string (L2 ++ OT)) W := fun W => run_string_add_sum (P := Tryz.prog) (w := W) L2 OT (by omega)
  have k2 : ∀ W : World, (Op.stringOp .add (L2 ++ OT) R2).run Tryz.prog W = .ok (.string (L2 ++ OT ++ R2)) W := fun W => run_string_add_sum (P := Tryz.prog) (w := W) (L2 ++ OT) R2 (by rw [ByteArray.size_append]; omega)
  clear hls hrs hot hl hr h0 h5
  go_enter Tryz.func173, Tryz.ntmps173
  go_wp2
  generalize hg : (((w.alloc (.cells #[.int .i64 oi, .string OT, .int .i64 3] 198)).alloc (.cells #[.string LB, .int .i64 ls] 183)).alloc (.cells #[.string RB, .int .i64 rs] 183)).alloc (.cells #[.string ⟨#[]⟩, .int .i64 0] 183) = W at HW HWS HA HB HC HD ⊢
  clear hg
  have hsz := HWS.out
  obtain ⟨a0, a1, a2, _, _, _⟩ := three_at HA.out
  obtain ⟨b0, b1, _, _⟩ := two_at HB.out
  obtain ⟨c0, c1, _, _⟩ := two_at HC.out
  obtain ⟨d0, d1, df0, df1⟩ := two_at HD.out
  generalize hbo : w.heap.size = bo at *
  have hWb : bo + 3 < W.heap.size := by omega
  clear hsz
  have hwr : IntKind.i64.wrap 4 = 4 := IntWalk.i64_in _ (by omega)
  have ds0 := cur_of d0
  have ds1 := cur_of d1
  clear d0 d1
  go_region_held3 (fun w' => W.heap.size ≤ w'.heap.size ∧ w'.cell? ⟨bo, 1, none⟩ = some (.string OT) ∧ w'.cell? ⟨bo, 2, none⟩ = some (.int .i64 3) ∧ w'.cell? ⟨bo + 1, 0, none⟩ = some (.string LB) ∧ w'.cell? ⟨bo + 1, 1, none⟩ = some (.int .i64 ls) ∧
    w'.cell? ⟨bo + 1 + 1, 0, none⟩ = some (.string RB) ∧ w'.cell? ⟨bo + 1 + 1, 1, none⟩ = some (.int .i64 rs) ∧ w'.cell? ⟨bo + 1 + 1 + 1, 0, none⟩ = some (cur w' ⟨bo + 1 + 1 + 1, 0, none⟩) ∧ w'.cell? ⟨bo + 1 + 1 + 1, 1, none⟩ = some (cur w' ⟨bo + 1 + 1 + 1, 1, none⟩) ∧ w'.frozen? ⟨bo + 1 + 1 + 1, 0, none⟩ = false ∧ w'.frozen? ⟨bo + 1 + 1 + 1, 1, none⟩ = false)
   (first
    | (go_split_ands; exact bt_keep hb1 (by assumption) hWb (by assumption) (by assumption) (by assumption) (by assumption) (by assumption) (by assumption) (by assumption) (by assumption) (by assumption) (by assumption))
    | (go_split_ands; exact bt_set (by assumption) (by assumption) (by assumption) (by assumption) (by assumption) (by assumption) (by assumption) (by assumption) (by assumption) (by assumption) (by assumption))
    | (go_split_ands; exact ⟨Nat.le_refl _, by assumption, by assumption, by assumption, by assumption, by assumption, by assumption, by assumption, by assumption, by assumption, by assumption⟩)
    | go_keep)
   ((first | (go_at_call 172; (with_reducible refine (HCL.out _).mono ?_); rintro e w1 ⟨rfl, hb1⟩) | (go_at_call 172; (with_reducible refine (HCR.out _).mono ?_); rintro e w1 ⟨rfl, hb1⟩)))
  all_goals
   go_wp2
   have hA := ‹Below W.drew.heap.size W.drew _›
   have hDW : W.drew.heap[bo + 1 + 1 + 1]? = some (.cells #[.string ⟨#[]⟩, .int .i64 0] 183 (0, 0)) := HD.out
   have hlw : bo + 1 + 1 + 1 < W.drew.heap.size := lt_of_block hDW
   have hD1 := (hA.block _ hlw).trans hDW
   have hD2 := (hb1.block _ (lt_of_block hD1)).trans hD1
   have hD3 := heap_setCell_same _ _ 0 _ _ (.string (L2 ++ OT ++ R2)) hD2
   have hD4 := heap_setCell_same _ _ 1 _ _ (.int .i64 3) hD3
   obtain ⟨r0, r1, _, _⟩ := two_at (x := .string (L2 ++ OT ++ R2)) (y := .int .i64 3) hD4
   have hsA := hA.size
   have hsW : bo ≤ W.drew.heap.size := by omega
   have hBB : Below bo w ((w1.setCell ⟨bo + 1 + 1 + 1, 0, none⟩ (.string (L2 ++ OT ++ R2))).setCell ⟨bo + 1 + 1 + 1, 1, none⟩ (.int .i64 3)) :=
    (((HW.out.drew.trans (hA.mono hsW)).trans (hb1.mono (by omega))).setCell (by simp; omega) _).setCell (by simp; omega) _
   exact bodyPost_ret (v := .agg #[.string (L2 ++ OT ++ R2), .int .i64 3]) (by simp [results, Tryz.results173, go_sem, r0, r1]) rfl ⟨rfl, by rw [hbo]; exact hBB⟩
 ·have t3 := int_ne h3
  rw [if_neg h3] at hll ⊢
  clear h3
  have HCL := Lib.hid (within_bytes LB ls os · (by omega))
  have HCR := Lib.hid (within_bytes RB rs (os + 1) · (by omega))
  obtain ⟨L2, hL2⟩ : ∃ L2 : ByteArray, ⟨(inP LB.data.toList ls os).toArray⟩ = L2 := ⟨_, rfl⟩
  obtain ⟨R2, hR2⟩ : ∃ R2 : ByteArray, ⟨(inP RB.data.toList rs (os + 1)).toArray⟩ = R2 := ⟨_, rfl⟩
  rw [hL2] at HCL ⊢
  rw [hR2] at HCR ⊢
  have hls : L2.size ≤ 10002 := by rw [← hL2, size_list]; omega
  have hrs : R2.size ≤ 10002 := by rw [← hR2, size_list]; omega
  clear hL2 hR2 hll hrl
  have k1 : ∀ W : World, (Op.stringOp .add L2 OT).run Tryz.prog W = .ok (.string (L2 ++ OT)) W := fun W => run_string_add_sum (P := Tryz.prog) (w := W) L2 OT (by omega)
  have k2 : ∀ W : World, (Op.stringOp .add (L2 ++ OT) R2).run Tryz.prog W = .ok (.string (L2 ++ OT ++ R2)) W := fun W => run_string_add_sum (P := Tryz.prog) (w := W) (L2 ++ OT) R2 (by rw [ByteArray.size_append]; omega)
  clear hls hrs hot hl hr
  go_enter Tryz.func173, Tryz.ntmps173
  go_wp2
  generalize hg : (((w.alloc (.cells #[.int .i64 oi, .string OT, .int .i64 os] 198)).alloc (.cells #[.string LB, .int .i64 ls] 183)).alloc (.cells #[.string RB, .int .i64 rs] 183)).alloc (.cells #[.string ⟨#[]⟩, .int .i64 0] 183) = W at HW HWS HA HB HC HD ⊢
  clear hg
  have hsz := HWS.out
  obtain ⟨a0, a1, a2, _, _, _⟩ := three_at HA.out
  obtain ⟨b0, b1, _, _⟩ := two_at HB.out
  obtain ⟨c0, c1, _, _⟩ := two_at HC.out
  obtain ⟨d0, d1, df0, df1⟩ := two_at HD.out
  generalize hbo : w.heap.size = bo at *
  have hWb : bo + 3 < W.heap.size := by omega
  clear hsz
  have ds0 := cur_of d0
  have ds1 := cur_of d1
  clear d0 d1
  have hwr : IntKind.i64.wrap (os + 1) = os + 1 := IntWalk.i64_in _ (by omega)
  go_region_held3 (fun w' => W.heap.size ≤ w'.heap.size ∧ w'.cell? ⟨bo, 1, none⟩ = some (.string OT) ∧ w'.cell? ⟨bo, 2, none⟩ = some (.int .i64 os) ∧ w'.cell? ⟨bo + 1, 0, none⟩ = some (.string LB) ∧ w'.cell? ⟨bo + 1, 1, none⟩ = some (.int .i64 ls) ∧
    w'.cell? ⟨bo + 1 + 1, 0, none⟩ = some (.string RB) ∧ w'.cell? ⟨bo + 1 + 1, 1, none⟩ = some (.int .i64 rs) ∧ w'.cell? ⟨bo + 1 + 1 + 1, 0, none⟩ = some (cur w' ⟨bo + 1 + 1 + 1, 0, none⟩) ∧ w'.cell? ⟨bo + 1 + 1 + 1, 1, none⟩ = some (cur w' ⟨bo + 1 + 1 + 1, 1, none⟩) ∧ w'.frozen? ⟨bo + 1 + 1 + 1, 0, none⟩ = false ∧ w'.frozen? ⟨bo + 1 + 1 + 1, 1, none⟩ = false)
   (first
    | (go_split_ands; exact bt_keep hb1 (by assumption) hWb (by assumption) (by assumption) (by assumption) (by assumption) (by assumption) (by assumption) (by assumption) (by assumption) (by assumption) (by assumption))
    | (go_split_ands; exact bt_set (by assumption) (by assumption) (by assumption) (by assumption) (by assumption) (by assumption) (by assumption) (by assumption) (by assumption) (by assumption) (by assumption))
    | (go_split_ands; exact ⟨Nat.le_refl _, by assumption, by assumption, by assumption, by assumption, by assumption, by assumption, by assumption, by assumption, by assumption, by assumption⟩)
    | go_keep)
   ((first | (go_at_call 172; (with_reducible refine (HCL.out _).mono ?_); rintro e w1 ⟨rfl, hb1⟩) | (go_at_call 172; (with_reducible refine (HCR.out _).mono ?_); rintro e w1 ⟨rfl, hb1⟩)))
  all_goals
   go_wp2
   have hA := ‹Below W.drew.heap.size W.drew _›
   have hDW : W.drew.heap[bo + 1 + 1 + 1]? = some (.cells #[.string ⟨#[]⟩, .int .i64 0] 183 (0, 0)) := HD.out
   have hlw : bo + 1 + 1 + 1 < W.drew.heap.size := lt_of_block hDW
   have hD1 := (hA.block _ hlw).trans hDW
   have hD2 := (hb1.block _ (lt_of_block hD1)).trans hD1
   have hD3 := heap_setCell_same _ _ 0 _ _ (.string (L2 ++ OT ++ R2)) hD2
   have hD4 := heap_setCell_same _ _ 1 _ _ (.int .i64 os) hD3
   obtain ⟨r0, r1, _, _⟩ := two_at (x := .string (L2 ++ OT ++ R2)) (y := .int .i64 os) hD4
   have hsA := hA.size
   have hsW : bo ≤ W.drew.heap.size := by omega
   have hBB : Below bo w ((w1.setCell ⟨bo + 1 + 1 + 1, 0, none⟩ (.string (L2 ++ OT ++ R2))).setCell ⟨bo + 1 + 1 + 1, 1, none⟩ (.int .i64 os)) :=
    (((HW.out.drew.trans (hA.mono hsW)).trans (hb1.mono (by omega))).setCell (by simp; omega) _).setCell (by simp; omega) _
   exact bodyPost_ret (v := .agg #[.string (L2 ++ OT ++ R2), .int .i64 os]) (by simp [results, Tryz.results173, go_sem, r0, r1]) rfl ⟨rfl, by rw [hbo]; exact hBB⟩
end Go.Proofs.YtdelihhbmagphaaGreatDoor
namespace Go.Proofs.YtdelihhbmagphaaGreatDoor
def Few (p : Nat) (cs : List CM) (r : Rs) : Prop := r.1 = true → r.2.2.length + p ≤ cs.length + r.2.1
theorem few_close {s : List UInt8} {p : Nat} {cs : List CM} {r : Rs} (h : Few p cs r) : Few p cs (closeD s r) := by
 unfold closeD
 split
 ·rename_i hr
  split
  ·intro _; have := h hr; simp only; omega
  ·intro h'; simp at h'
 ·exact h
theorem few_add {o : Int} {p : Nat} {cs : List CM} {r : Rs} (h : Few (p + 1) cs r) : Few p cs (addD o r) := by
 unfold addD
 split
 ·rename_i hr
  intro _; have := h hr; simp only [List.length_append, List.length_singleton]; omega
 ·rename_i hr; intro h'; exact absurd h' hr
theorem few_less {p p' : Nat} {cs : List CM} {r : Rs} (h : Few p' cs r) (hp : p ≤ p') : Few p cs r := fun h' => by have := h h'; omega
theorem few_no {p q : Nat} {cs cs' : List CM} : Few p cs (false, q, cs') := fun h => by simp at h
theorem few_one {p q : Nat} {cs : List CM} {c : CM} (h : p < q) : Few p cs (true, q, cs ++ [c]) := fun _ => by simp; omega
theorem few_state {s : List UInt8} {p : Nat} {cs : List CM} : Few p cs (stateD s p cs) := by
 unfold stateD
 split
 ·exact few_close (few_one (by omega))
 ·exact few_no
theorem few_num {s : List UInt8} {p : Nat} {cs : List CM} (h : p < s.length) (hd : isD (nx s p) = true) : Few p cs (numD s p cs) := by
 have h2 := num_pos h hd
 unfold numD
 split
 ·exact few_no
 ·split
  ·split
   ·exact few_one (by omega)
   ·exact few_no
  ·exact few_one (by omega)
theorem name_pos {w : List UInt8} (h : nameB w = true) : 0 < w.length := by
 rcases Nat.eq_zero_or_pos w.length with h0 | h0
 ·rw [List.eq_nil_of_length_eq_zero h0] at h; simp [nameB] at h
 ·exact h0
theorem few_word {s : List UInt8} {p : Nat} {cs : List CM} {w : List UInt8} {inner : Rs} (hi : p + 3 ≤ s.length → Few (p + 3) cs inner) : Few p cs (wordD s p cs w inner) := by
 unfold wordD
 split
 ·exact few_one (by omega)
 ·split
  ·exact few_one (by omega)
  ·split
   ·rename_i hn; have := name_pos hn; exact few_one (by omega)
   ·split
    ·exact few_no
    ·rename_i h40
     have h3 := nx_lt (s := s) (p := p + w.length) (by rw [Decidable.not_not.1 h40]; decide)
     split
     ·exact few_state
     ·split
      ·rename_i e
       rw [e] at h3; simp [wRe] at h3
       exact few_add (few_close (few_less (hi (by omega)) (by omega)))
      ·split
       ·rename_i e
        rw [e] at h3; simp [wIm] at h3
        exact few_add (few_close (few_less (hi (by omega)) (by omega)))
       ·exact few_no
theorem few (s : List UInt8) : ∀ (n : Nat) (q : Q) (p : Nat) (cs : List CM), p ≤ s.length → (match q with | .loop k _ => 1 ≤ k | .joins k => 1 ≤ k | .ahead => True) → Few p cs (D s n q p cs) := by
 intro n
 induction n with
 | zero => intro q p cs hp _ h; simp [D] at h
 | succ n ih =>
  intro q p cs hp hq
  cases q with
  | joins k =>
   simp only at hq
   rw [D_joins]
   split
   ·exact ih .ahead p cs hp trivial
   ·have h1 := ih (.joins (k + 1)) p cs hp (by simp)
    split
    ·rename_i hr
     have hg := goes s n (.joins (k + 1)) p cs hp
     have h2 := ih (.loop k false) _ (D s n (.joins (k + 1)) p cs).2.2 hg.le hq
     intro h'; have := h2 h'; have := h1 hr; omega
    ·exact h1
  | loop k cmp =>
   simp only at hq
   rw [D_loop]
   split
   ·intro _; simp
   ·rename_i hk
    have hk := Decidable.not_not.1 hk
    split
    ·exact few_no
    ·have ho := opAt_some (s := s) (p := p) (by omega)
     have h1 := ih (.joins (k + 1)) (p + (opAt s p).2.1) cs ho.2 (by simp)
     have hg := goes s n (.joins (k + 1)) (p + (opAt s p).2.1) cs ho.2
     split
     ·rename_i hr
      have h2 := ih (.loop k (k == 3)) _ ((D s n (.joins (k + 1)) (p + (opAt s p).2.1) cs).2.2 ++ [opC (opAt s p).1]) hg.le hq
      intro h'
      have h3 := h2 h'
      have h4 := h1 hr
      rw [List.length_append, List.length_singleton] at h3
      omega
     ·intro h'; have := h1 h'; omega
  | ahead =>
   rw [D_ahead]
   split
   ·rename_i h
    have := nx_lt (s := s) (p := p) (by rw [h]; decide)
    exact few_add (ih .ahead (p + 1) cs (by omega) trivial)
   ·split
    ·rename_i h
     have := nx_lt (s := s) (p := p) (by rw [h]; decide)
     exact few_add (ih .ahead (p + 1) cs (by omega) trivial)
    ·split
     ·rename_i h
      have := nx_lt (s := s) (p := p) (by rw [h]; decide)
      exact few_close (few_less (ih (.joins 1) (p + 1) cs (by omega) (by simp)) (by omega))
     ·split
      ·rename_i hd
       have := nx_lt (s := s) (p := p) (by intro e; rw [e] at hd; exact absurd hd (by decide))
       exact few_num this hd
      ·exact few_word (fun h3 => ih (.joins 1) (p + 3) cs h3 (by simp))
end Go.Proofs.YtdelihhbmagphaaGreatDoor
namespace Go.Proofs.YtdelihhbmagphaaGreatDoor
open Go.RowKit
def JH (s : ByteArray) (n : Nat) : Prop := ∀ (w0 wa w : World) (g p : Nat) (cs : List CM) (k : Nat), St w0 wa g s p cs w → Ops w0 → 1 ≤ k → k ≤ 6 → p ≤ s.size → cs.length ≤ p → need s.data.toList (.joins k) p ≤ n →
 Calls Tryz.prog 114 #[rp g, .int .i64 k] w (RPost w0 wa g s (D s.data.toList n (.joins k) p cs))
def AH (s : ByteArray) (n : Nat) : Prop := ∀ (w0 wa w : World) (g p : Nat) (cs : List CM), St w0 wa g s p cs w → Ops w0 → p ≤ s.size → cs.length ≤ p → need s.data.toList .ahead p ≤ n →
 Calls Tryz.prog 150 #[rp g] w (RPost w0 wa g s (D s.data.toList n .ahead p cs))
theorem sz (s : ByteArray) : s.data.toList.length = s.size := (Lib.size_eq s).symm
theorem inside_any {s : ByteArray} {n : Nat} (hJ : JH s n) {w0 wa w : World} {g p : Nat} {cs : List CM} (h : St w0 wa g s p cs w) (hO : Ops w0) (hp : p + 1 ≤ s.size) (hs : s.size ≤ 600) (hc : cs.length ≤ p) (hn : need s.data.toList (.joins 1) (p + 1) ≤ n) :
  Calls Tryz.prog 207 #[rp g] w (RPost w0 wa g s (closeD s.data.toList (D s.data.toList n (.joins 1) (p + 1) cs))) := by
 have HS := Lib.hid (h.setAt ((p : Int) + 1) (p' := p + 1) (by omega))
 have HJ := Lib.hid (hJ w0 wa _ g (p + 1) cs 1 HS.out hO (by omega) (by omega) hp (by omega) hn)
 have hgo := goes s.data.toList n (.joins 1) (p + 1) cs (by rw [sz]; exact hp)
 obtain ⟨b, p1, cs1, hr⟩ : ∃ b p1 cs1, D s.data.toList n (.joins 1) (p + 1) cs = (b, p1, cs1) := ⟨_, _, _, rfl⟩
 rw [hr] at HJ hgo ⊢
 have hp1 : p1 ≤ s.size := by have := hgo.le; rw [sz] at this; exact this
 obtain ⟨v, ⟨c0, c1, c2, f1, f2⟩, hbox, hown⟩ := h.at_
 clear hbox hown h hr hgo hJ
 unfold rp at *
 cases b
 ·go_enter Tryz.func207, Tryz.ntmps207
  go_wp2_with fail
  refine HJ.out.mono ?_
  rintro e w1 ⟨rfl, h1⟩
  have H1 := Lib.hid h1; clear h1
  go_wp2
  go_ret
  exact ⟨rfl, H1.out⟩
 ·go_enter Tryz.func207, Tryz.ntmps207
  go_wp2_with fail
  refine HJ.out.mono ?_
  rintro e w1 ⟨rfl, h1⟩
  have H1 := Lib.hid h1; clear h1
  go_wp2_with fail
  refine (closed_any H1.out hp1 hs).mono ?_
  rintro e w2 ⟨rfl, h2⟩
  have H2 := Lib.hid h2; clear h2
  go_wp2
  go_ret
  exact ⟨rfl, H2.out⟩
theorem push_far {w w1 : World} {g b : Nat} {x v : Value} {o : Array Value} (hgrow : (w.alloc (.cells o b)).grownBy w1 v.ownBlock) (hg : g < w.heap.size) (hne : v.ownBlock ≠ some g) (hc : w.cell? ⟨g, 2, none⟩ = some x) (hf : w.frozen? ⟨g, 2, none⟩ = false) :
  w1.cell? ⟨g, 2, none⟩ = some x ∧ w1.frozen? ⟨g, 2, none⟩ = false :=
 ⟨(hgrow.cell_far ⟨g, 2, none⟩ (by simp; omega) (Ne.symm hne)).trans ((World.cell?_alloc_lt w _ _ hg).trans hc), (hgrow.frozen_far ⟨g, 2, none⟩ (by simp; omega) (Ne.symm hne)).trans ((World.frozen?_alloc_past _ g 2 hg).trans hf)⟩
set_option maxHeartbeats 1000000 in
set_option maxRecDepth 100000 in
theorem part_any {s : ByteArray} {n : Nat} (hJ : JH s n) {w0 wa w : World} {g p : Nat} {cs : List CM} (h : St w0 wa g s p cs w) (hO : Ops w0) (wd : ByteArray) (o : Int) (hwd : wd.size = 2) (hp : p + 3 ≤ s.size) (hs : s.size ≤ 600) (hc : cs.length ≤ p) (hn : need s.data.toList (.joins 1) (p + 3) ≤ n) :
  Calls Tryz.prog 213 #[rp g, .string wd, .int .i64 o] w (RPost w0 wa g s (addD o (closeD s.data.toList (D s.data.toList n (.joins 1) (p + 3) cs)))) := by
 have HS := Lib.hid (h.setAt ((p : Int) + 2) (p' := p + 2) (by omega))
 have HJ := Lib.hid (inside_any hJ HS.out hO (p := p + 2) hp hs (by omega) hn)
 have hgo := goes s.data.toList n (.joins 1) (p + 3) cs (by rw [sz]; exact hp)
 have hfew := few s.data.toList n (.joins 1) (p + 3) cs (by rw [sz]; exact hp) (by simp)
 have hgc := goes_close (s := s.data.toList) (p := p) (r := D s.data.toList n (.joins 1) (p + 3) cs) (by have := hgo.ge; omega) hgo.le
 have hfc := few_close (s := s.data.toList) hfew
 obtain ⟨b, p1, cs1, hr⟩ : ∃ b p1 cs1, closeD s.data.toList (D s.data.toList n (.joins 1) (p + 3) cs) = (b, p1, cs1) := ⟨_, _, _, rfl⟩
 rw [hr] at HJ hgc hfc ⊢
 have hp1 : p1 ≤ s.size := by have := hgc.le; rw [sz] at this; exact this
 obtain ⟨v, ⟨c0, c1, c2, f1, f2⟩, hbox, hown⟩ := h.at_
 obtain ⟨i0, hi0, hz0, hz1, hz2⟩ := info_parts Tryz.infoCell
 have HI := Lib.hid hi0; have HZ0 := Lib.hid hz0; have HZ1 := Lib.hid hz1; have HZ2 := Lib.hid hz2
 clear hi0 hz0 hz1 hz2 hbox hown h hr hgo hJ hfew hgc
 unfold rp at *
 cases b
 ·clear hfc
  go_enter Tryz.func213, Tryz.ntmps213
  go_wp2_with fail
  refine HJ.out.mono ?_
  rintro e w1 ⟨rfl, h1⟩
  have H1 := Lib.hid h1; clear h1
  go_wp2
  go_ret
  exact ⟨rfl, H1.out⟩
 ·have hfc : cs1.length ≤ 600 := by have := hfc rfl; simp only at this; omega
  go_enter Tryz.func213, Tryz.ntmps213
  go_wp2_with fail
  refine HJ.out.mono ?_
  rintro e w1 ⟨rfl, h1⟩
  clear c0 c1 c2 f1 f2
  obtain ⟨v1, ⟨c0, c1, c2, f1, f2⟩, hbox, hown⟩ := h1.at_
  have H1 := Lib.hid h1; have HBX := Lib.hid hbox; have HOWN := Lib.hid hown; have HNE := Lib.hid (own_ne hown hbox)
  have hgl := h1.lt
  have hWs := h1.size
  clear h1 hbox hown
  go_wp2_with (at_builtin; refine wpList_append_own _ rfl _ _ 69 rfl w0.heap.size 96 i0 _ 3 32 Tryz.underlying69 HI.out HZ0.out HZ1.out HZ2.out rfl (by decide) v1 cs1.length (flat cs1) rfl (HOWN.out.alloc _) ⟨w1.heap.size, 0, none⟩ 1 1 (cellV (opC o)) rfl rfl (one_wide w1 _ _ _ _) (one_vals (opC o)) (by unfold maxLen; omega) (by omega) (by simp; omega) ?_)
  intro v' w2 hown' hgrow _
  obtain ⟨gg, cap, rfl, _, _⟩ := hown'.form (by omega)
  obtain ⟨k2, kf2⟩ := push_far hgrow hgl HNE.out c2 f2
  have HH : Hid (St w0 wa g s p1 (cs1 ++ [opC o]) (w2.setCell ⟨g, 2, none⟩ (.slice (some ⟨gg, 0, none⟩) (cs1.length + 1) cap))) := by
   refine H1.out.push HBX.out HOWN.out (w1 := w1.alloc (.cells #[.int .i64 (opC o).op, .int .i64 (opC o).a, bstr (opC o).nm] 96)) ((Below.refl _ _).alloc (Nat.le_refl _) _) ?_ hgrow
   rw [flat_append, flat_one, List.length_append]
   exact hown'
  clear hown' hgrow
  go_wp2
  go_ret
  exact ⟨rfl, HH.out⟩
end Go.Proofs.YtdelihhbmagphaaGreatDoor
