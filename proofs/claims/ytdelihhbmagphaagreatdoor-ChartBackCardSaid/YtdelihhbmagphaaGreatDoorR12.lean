/- Own texts, joined: Ip, Va, Fl, Vb, Vg, Oq, F9, Ev. -/
import Derived.Test.YtdelihhbmagphaaGreatDoorR2
import Derived.Test.YtdelihhbmagphaaGreatDoorR3
import Derived.Test.YtdelihhbmagphaaGreatDoorR10
import Derived.Test.YtdelihhbmagphaaGreatDoorR11
import Derived.WalkLawsBesides
import Derived.KernelRfl
namespace Go.Proofs.YtdelihhbmagphaaGreatDoor
open Go.RowKit
def ixP {α : Type} (p : α → Bool) : List α → Nat → Int
 | [], _ => -1
 | x :: r, i => if p x = true then i else ixP p r (i + 1)
theorem ix_step {α : Type} {p : α → Bool} {l : List α} {k : Nat} (hk : k < l.length) : ixP p (l.drop k) k = if p l[k] = true then (k : Int) else ixP p (l.drop (k + 1)) (k + 1) := by
 rw [List.drop_eq_getElem_cons hk]; rfl
theorem ix_end {α : Type} {p : α → Bool} {l : List α} {k : Nat} (hk : ¬ k < l.length) : ixP p (l.drop k) k = -1 := by
 rw [List.drop_of_length_le (by omega)]; rfl
theorem ix_find {α : Type} (p : α → Bool) : ∀ (l : List α) (i : Nat), (ixP p l i = -1 ∧ l.find? p = none) ∨ ∃ j, ∃ h : j < l.length, ixP p l i = ((i + j : Nat) : Int) ∧ l.find? p = some l[j]
 | [], i => Or.inl ⟨rfl, rfl⟩
 | x :: r, i => by
  by_cases hx : p x = true
  ·refine Or.inr ⟨0, by simp, ?_, ?_⟩
   ·unfold ixP; rw [if_pos hx]; rfl
   ·simp [hx]
  ·have e1 : ixP p (x :: r) i = ixP p r (i + 1) := if_neg hx
   have e2 : (x :: r).find? p = r.find? p := by simp [hx]
   rw [e1, e2]
   rcases ix_find p r (i + 1) with h | ⟨j, hj, h1, h2⟩
   ·exact Or.inl h
   ·exact Or.inr ⟨j + 1, by simp; omega, by rw [h1]; congr 1; omega, by rw [h2]; rfl⟩
theorem str_ne {X Y : ByteArray} (h : X.data.toList ≠ Y.data.toList) : (X.toList == Y.toList) = false := by
 rw [Lib.toList_data, Lib.toList_data]; exact beq_eq_false_iff_ne.2 h
theorem str_eq {X Y : ByteArray} (h : X.data.toList = Y.data.toList) : X = Y := by apply ByteArray.ext; exact Array.toList_inj.1 h
theorem bstr_some (l : List UInt8) : ∃ X : ByteArray, bstr l = .string X ∧ X.data.toList = l := ⟨⟨l.toArray⟩, rfl, rfl⟩
end Go.Proofs.YtdelihhbmagphaaGreatDoor
namespace Go.Proofs.YtdelihhbmagphaaGreatDoor
structure VA where
 kd : Int
 a : Int
 b : Int
def inB (n : Int) : Bool := decide (-1048576 ≤ n ∧ n ≤ 1048576)
theorem inB_iff {n : Int} : inB n = true ↔ -1048576 ≤ n ∧ n ≤ 1048576 := decide_eq_true_iff
def inL (n : Int) : Bool := decide (-9223372036854775808 ≤ n ∧ n ≤ 9223372036854775807)
theorem inL_iff {n : Int} : inL n = true ↔ -9223372036854775808 ≤ n ∧ n ≤ 9223372036854775807 := decide_eq_true_iff
def rightV (v : VA) : Bool :=
 if v.kd = 1 then decide (v.b = 0) else if v.kd = 2 then decide (v.b = 0) && (decide (v.a = 0) || decide (v.a = 1)) else if v.kd = 3 then inB v.a && inB v.b else false
def VA.zero : VA := ⟨0, 0, 0⟩
def erV (e : Int) : VA × Int := (VA.zero, e)
def numV (n : Int) : VA := ⟨1, n, 0⟩
def numE (n : Int) : VA × Int := if inL n = true then (numV n, 0) else erV 7
def truV (b : Bool) : VA := ⟨2, if b = true then 1 else 0, 0⟩
def ptV (a b : Int) : VA := ⟨3, a, b⟩
def ptE (a b : Int) : VA × Int := if (inB a && inB b) = true then (ptV a b, 0) else erV 5
def isV (n : List UInt8) (v : VM) : Bool := decide (v.nm = n)
def varE (vs : List VM) (xs : List VA) (n : List UInt8) : VA × Int :=
 if ixP (isV n) vs 0 < 0 then erV 2 else (xs.getD (ixP (isV n) vs 0).toNat VA.zero, 0)
def leafE (vs : List VM) (xs : List VA) (ss : List (List UInt8)) (c : CM) : VA × Int :=
 if c.op = 1 then (numV c.a, 0) else if c.op = 2 then (ptV 0 c.a, 0) else if c.op = 5 then varE vs xs c.nm else if c.op = 6 then (truV (decide (c.nm ∈ ss)), 0) else (truV (decide (c.op = 3)), 0)
def unE (o : Int) (v : VA) : VA × Int :=
 if o = 7 then (if v.kd = 1 then numE (-v.a) else if v.kd = 3 then (ptV (-v.a) (-v.b), 0) else erV 8)
 else if o = 8 then (if v.kd = 2 then (truV (decide (v.a = 0)), 0) else erV 8)
 else if o = 9 then (if v.kd = 3 then (numV v.a, 0) else erV 8)
 else (if v.kd = 3 then (numV v.b, 0) else erV 8)
def numbersE (o a b : Int) : VA × Int :=
 if o = 11 then numE (a + b) else if o = 12 then numE (a - b) else if o = 13 then numE (a * b)
 else if o = 14 then (if b = 0 then erV 6 else numE (a.tdiv b))
 else if o = 15 then (if b = 0 then erV 6 else (numV (a.tmod b), 0))
 else if o = 18 then (truV (decide (a < b)), 0) else if o = 19 then (truV (decide (a ≤ b)), 0)
 else if o = 20 then (truV (decide (b < a)), 0) else if o = 21 then (truV (decide (b ≤ a)), 0) else erV 8
def truthsE (o : Int) (a b : Bool) : VA × Int := if o = 22 then (truV (a && b), 0) else if o = 23 then (truV (a || b), 0) else erV 8
def pointsE (o a b c d : Int) : VA × Int :=
 if o = 11 then ptE (a + c) (b + d) else if o = 12 then ptE (a - c) (b - d) else if o = 13 then ptE (a * c - b * d) (a * d + b * c) else erV 8
def joinE (o : Int) (x y : VA) : VA × Int :=
 if x.kd ≠ y.kd then erV 8
 else if o = 16 then (truV (decide (x.a = y.a ∧ x.b = y.b)), 0)
 else if o = 17 then (truV (!decide (x.a = y.a ∧ x.b = y.b)), 0)
 else if x.kd = 1 then numbersE o x.a y.a
 else if x.kd = 2 then truthsE o (decide (x.a = 1)) (decide (y.a = 1))
 else pointsE o x.a x.b y.a y.b
def OkV (v : VA) : Prop := rightV v = true ∧ inL v.a = true
theorem ok_num {n : Int} (h : inL n = true) : OkV (numV n) := ⟨rfl, h⟩
theorem ok_tru (b : Bool) : OkV (truV b) := by cases b <;> exact ⟨rfl, rfl⟩
theorem ok_pt {a b : Int} (h : (inB a && inB b) = true) : OkV (ptV a b) := by
 refine ⟨h, ?_⟩
 simp only [Bool.and_eq_true, inB_iff] at h
 exact inL_iff.2 (by show -9223372036854775808 ≤ a ∧ a ≤ 9223372036854775807; omega)
def Fin (p : VA × Int) : Prop := (p.2 = 0 ∧ OkV p.1) ∨ (p.2 ≠ 0 ∧ p.1 = VA.zero)
theorem fin_er {e : Int} (h : e ≠ 0) : Fin (erV e) := Or.inr ⟨h, rfl⟩
theorem fin_ok {v : VA} (h : OkV v) : Fin (v, 0) := Or.inl ⟨rfl, h⟩
theorem fin_num (n : Int) : Fin (numE n) := by
 unfold numE
 split
 ·exact fin_ok (ok_num (by assumption))
 ·exact fin_er (by decide)
theorem fin_pt (a b : Int) : Fin (ptE a b) := by
 unfold ptE
 split
 ·exact fin_ok (ok_pt (by assumption))
 ·exact fin_er (by decide)
theorem tmod_in {a b : Int} (h : inL a = true) : inL (a.tmod b) = true := by
 rw [inL_iff] at *
 have h1 := Int.natAbs_tmod a b
 by_cases hb : b = 0
 ·subst hb; rw [Int.tmod_zero]; exact h
 ·have h2 : a.natAbs % b.natAbs ≤ a.natAbs := Nat.mod_le _ _
  rcases Int.lt_or_le a 0 with hn | hn
  ·have h3 : a.tmod b ≤ 0 := by
    have := Int.tmod_nonneg (-b) (a := -a) (by omega)
    rw [Int.neg_tmod, Int.tmod_neg] at this; omega
   omega
  ·have := Int.tmod_nonneg b (a := a) hn
   omega
section
variable {vs : List VM} {xs : List VA} {ss : List (List UInt8)}
theorem fin_var (hx : ∀ v ∈ xs, OkV v) (hl : vs.length = xs.length) (n : List UInt8) : Fin (varE vs xs n) := by
 unfold varE
 rcases ix_find (isV n) vs 0 with ⟨h, _⟩ | ⟨j, hj, h, _⟩
 ·rw [h, if_pos (by decide)]; exact fin_er (by decide)
 ·rw [h, if_neg (by omega)]
  have e : ((0 + j : Nat) : Int).toNat = j := by omega
  rw [e]
  have : j < xs.length := by omega
  rw [List.getD_eq_getElem?_getD, List.getElem?_eq_getElem this]
  exact fin_ok (hx _ (List.getElem_mem _))
theorem fin_leaf (hx : ∀ v ∈ xs, OkV v) (hl : vs.length = xs.length) {c : CM} (hc : formedB c = true) : Fin (leafE vs xs ss c) := by
 unfold leafE
 unfold formedB at hc
 by_cases h1 : c.op = 1
 ·rw [if_pos h1] at hc ⊢
  simp at hc
  exact fin_ok (ok_num (inL_iff.2 (by omega)))
 ·rw [if_neg h1] at hc ⊢
  by_cases h2 : c.op = 2
  ·rw [if_pos h2] at hc ⊢
   simp at hc
   exact fin_ok (ok_pt (by simp only [Bool.and_eq_true, inB_iff]; omega))
  ·rw [if_neg h2]
   split
   ·exact fin_var hx hl _
   ·split
    ·exact fin_ok (ok_tru _)
    ·exact fin_ok (ok_tru _)
theorem fin_un {o : Int} {v : VA} (hv : OkV v) : Fin (unE o v) := by
 obtain ⟨h1, h2⟩ := hv
 unfold unE
 have h3 : v.kd = 3 → inB v.a = true ∧ inB v.b = true := fun h => by
  unfold rightV at h1
  rw [h] at h1
  simpa using h1
 repeat' split
 all_goals first
  | exact fin_num _
  | exact fin_er (by decide)
  | exact fin_ok (ok_tru _)
  | skip
 ·obtain ⟨h4, h5⟩ := h3 (by assumption)
  refine fin_ok (ok_pt ?_)
  simp only [Bool.and_eq_true, inB_iff] at *
  omega
 ·exact fin_ok (ok_num h2)
 ·obtain ⟨h4, h5⟩ := h3 (by assumption)
  refine fin_ok (ok_num ?_)
  rw [inB_iff] at h5
  exact inL_iff.2 (by omega)
theorem fin_ite {c : Prop} [Decidable c] {a b : VA × Int} (h1 : Fin a) (h2 : Fin b) : Fin (if c then a else b) := by
 by_cases h : c
 ·rw [if_pos h]; exact h1
 ·rw [if_neg h]; exact h2
theorem fin_join {o : Int} {x y : VA} (hx : OkV x) : Fin (joinE o x y) := by
 unfold joinE numbersE truthsE pointsE
 repeat' first | exact fin_num _ | exact fin_pt _ _ | refine fin_ite ?_ ?_
 all_goals first
  | exact fin_num _
  | exact fin_pt _ _
  | exact fin_er (by decide)
  | exact fin_ok (ok_tru _)
  | exact fin_ok (ok_num (tmod_in hx.2))
end
section
variable (vs : List VM) (xs : List VA) (ss : List (List UInt8))
def eT : T → VA × Int
 | .leaf c => leafE vs xs ss c
 | .un o t => if (eT t).2 ≠ 0 then erV (eT t).2 else unE o (eT t).1
 | .bin o l r => if (eT l).2 ≠ 0 then erV (eT l).2 else if (eT r).2 ≠ 0 then erV (eT r).2 else joinE o (eT l).1 (eT r).1
def madeE (c : CM) (st : List VA) : VA × Int :=
 match operN c.op with
 | 0 => leafE vs xs ss c
 | 1 => unE c.op (st.headD VA.zero)
 | _ => joinE c.op (st.headD VA.zero) ((st.drop 1).headD VA.zero)
def eRun : List CM → List VA → VA × Int
 | [], st => (st.headD VA.zero, 0)
 | c :: r, st => if (madeE vs xs ss c (st.drop (st.length - operN c.op))).2 ≠ 0 then erV (madeE vs xs ss c (st.drop (st.length - operN c.op))).2
  else eRun r (st.take (st.length - operN c.op) ++ [(madeE vs xs ss c (st.drop (st.length - operN c.op))).1])
def worldB : Bool := decide (xs.length = vs.length) && xs.all rightV
def evP (cs : List CM) : VA × Int := if rightB cs = true then (if worldB vs xs = true then eRun vs xs ss cs [] else erV 12) else erV 1
end
section
variable {vs : List VM} {xs : List VA} {ss : List (List UInt8)}
theorem fin_eT (hx : ∀ v ∈ xs, OkV v) (hl : vs.length = xs.length) {t : T} (h : OkT t) : Fin (eT vs xs ss t) := by
 induction t with
 | leaf c => exact fin_leaf hx hl h.1
 | un o t ih =>
  unfold eT
  rcases ih h.2.2 with ⟨h1, h2⟩ | ⟨h1, h2⟩
  ·rw [if_neg (by simp [h1])]; exact fin_un h2
  ·rw [if_pos h1]; exact fin_er h1
 | bin o l r ihl ihr =>
  unfold eT
  rcases ihl h.2.2.1 with ⟨h1, h2⟩ | ⟨h1, h2⟩
  ·rw [if_neg (by simp [h1])]
   rcases ihr h.2.2.2 with ⟨h3, h4⟩ | ⟨h3, h4⟩
   ·rw [if_neg (by simp [h3])]; exact fin_join h2
   ·rw [if_pos h3]; exact fin_er h3
  ·rw [if_pos h1]; exact fin_er h1
theorem run_eT {t : T} (h : OkT t) : ∀ (r : List CM) (st : List VA), eRun vs xs ss (post t ++ r) st = if (eT vs xs ss t).2 ≠ 0 then erV (eT vs xs ss t).2 else eRun vs xs ss r (st ++ [(eT vs xs ss t).1]) := by
 induction t with
 | leaf c =>
  intro r st
  show eRun vs xs ss (c :: r) st = _
  have h0 : operN c.op = 0 := h.2
  have hm : madeE vs xs ss c (st.drop (st.length - operN c.op)) = leafE vs xs ss c := by unfold madeE; rw [h0]; rfl
  rw [eRun, hm, h0, Nat.sub_zero, List.take_length]
  rfl
 | un o t ih =>
  intro r st
  show eRun vs xs ss (post t ++ [opC o] ++ r) st = _
  rw [List.append_assoc, ih h.2.2]
  by_cases h1 : (eT vs xs ss t).2 = 0
  ·have h1' : ¬ (eT vs xs ss t).2 ≠ 0 := fun e => e h1
   have e : eT vs xs ss (.un o t) = unE o (eT vs xs ss t).1 := if_neg h1'
   rw [if_neg h1', e]
   show eRun vs xs ss (opC o :: r) _ = _
   have hn : operN (opC o).op = 1 := operN_un ⟨h.1, h.2.1⟩
   have hl : (st ++ [(eT vs xs ss t).1]).length - 1 = st.length := by simp
   have hm : madeE vs xs ss (opC o) [(eT vs xs ss t).1] = unE o (eT vs xs ss t).1 := by
    unfold madeE; rw [hn]; rfl
   rw [eRun, hn, hl, List.drop_left, List.take_left, hm]
  ·have e : eT vs xs ss (.un o t) = erV (eT vs xs ss t).2 := if_pos h1
   rw [if_pos h1, e]
   rw [if_pos (show (erV (eT vs xs ss t).2).2 ≠ 0 from h1)]
   rfl
 | bin o l r' ihl ihr =>
  intro r st
  show eRun vs xs ss (post l ++ post r' ++ [opC o] ++ r) st = _
  rw [List.append_assoc, List.append_assoc, ihl h.2.2.1]
  by_cases h1 : (eT vs xs ss l).2 = 0
  ·have h1' : ¬ (eT vs xs ss l).2 ≠ 0 := fun e => e h1
   rw [if_neg h1', ihr h.2.2.2]
   by_cases h2 : (eT vs xs ss r').2 = 0
   ·have h2' : ¬ (eT vs xs ss r').2 ≠ 0 := fun e => e h2
    have e : eT vs xs ss (.bin o l r') = joinE o (eT vs xs ss l).1 (eT vs xs ss r').1 := (if_neg h1').trans (if_neg h2')
    rw [if_neg h2', e]
    show eRun vs xs ss (opC o :: r) _ = _
    have hn : operN (opC o).op = 2 := operN_bin ⟨h.1, h.2.1⟩
    have hl : (st ++ [(eT vs xs ss l).1] ++ [(eT vs xs ss r').1]).length - 2 = st.length := by simp
    have hd : (st ++ [(eT vs xs ss l).1] ++ [(eT vs xs ss r').1]).drop st.length = [(eT vs xs ss l).1, (eT vs xs ss r').1] := by
     rw [List.append_assoc, List.drop_left]; rfl
    have ht : (st ++ [(eT vs xs ss l).1] ++ [(eT vs xs ss r').1]).take st.length = st := by
     rw [List.append_assoc, List.take_left]
    have hm : madeE vs xs ss (opC o) [(eT vs xs ss l).1, (eT vs xs ss r').1] = joinE o (eT vs xs ss l).1 (eT vs xs ss r').1 := by
     unfold madeE; rw [hn]; rfl
    rw [eRun, hn, hl, hd, hm, ht]
   ·have e : eT vs xs ss (.bin o l r') = erV (eT vs xs ss r').2 := (if_neg h1').trans (if_pos h2)
    rw [if_pos h2, e, if_pos (show (erV (eT vs xs ss r').2).2 ≠ 0 from h2)]
    rfl
  ·have e : eT vs xs ss (.bin o l r') = erV (eT vs xs ss l).2 := if_pos h1
   rw [if_pos h1, e, if_pos (show (erV (eT vs xs ss l).2).2 ≠ 0 from h1)]
   rfl
theorem fin_eq {p : VA × Int} (h : Fin p) : (if p.2 ≠ 0 then erV p.2 else (p.1, 0)) = p := by
 rcases h with ⟨h1, _⟩ | ⟨h1, h2⟩
 ·rw [if_neg (by simp [h1]), ← h1]
 ·rw [if_pos h1, erV, ← h2]
theorem ev_tree (hx : ∀ v ∈ xs, OkV v) (hl : vs.length = xs.length) {t : T} (h : OkT t) : eRun vs xs ss (post t) [] = eT vs xs ss t := by
 have := run_eT (vs := vs) (xs := xs) (ss := ss) h [] []
 rw [List.append_nil] at this
 rw [this]
 exact fin_eq (fin_eT hx hl h)
end
end Go.Proofs.YtdelihhbmagphaaGreatDoor
namespace Go.Proofs.YtdelihhbmagphaaGreatDoor
open Ieee
theorem log2_bd (m : Nat) (h0 : m ≠ 0) (h : m < 2 ^ 53) : m.log2 ≤ 52 := by
 have := Nat.log2_lt h0 |>.2 h; omega
theorem cut_zero (s : Bool) (n : Nat) : Toward.even.cut s n 0 = n := by
 simp [Toward.cut, Nat.mod_one]
theorem read_word (s : Bool) (L K : Nat) (hl : L ≤ 52) (h1 : 4503599627370496 ≤ K) (h2 : K < 9007199254740992) :
  double.read (double.word s ((L + 1022) * 4503599627370496 + K)) = .number s K ((L : Int) - 52) := by
 have hlp : double.leastPlace = -1074 := by kernel_rfl
 have hbi : double.binade = 4503599627370496 := by kernel_rfl
 have hsw : double.signWeight = 9223372036854775808 := by kernel_rfl
 have hir : double.infRung = 9218868437227405312 := by kernel_rfl
 obtain ⟨R, hR⟩ : ∃ R, R = (L + 1022) * 4503599627370496 + K := ⟨_, rfl⟩
 rw [← hR]
 have e6 : double.word s R % double.signWeight = R := by
  unfold Format.word; rw [hsw]; split <;> omega
 have e7 : (double.word s R / double.signWeight % 2 == 1) = s := by
  unfold Format.word; rw [hsw]
  cases s
  ·rw [if_neg (by decide)]; exact beq_eq_false_iff_ne.2 (by omega)
  ·rw [if_pos rfl]; exact beq_iff_eq.2 (by omega)
 unfold Format.read
 simp only [e6, e7]
 rw [if_neg (by rw [hbi]; omega), if_pos (by rw [hir]; omega), hbi, hlp]
 have e8 : 4503599627370496 + R % 4503599627370496 = K := by omega
 have e9 : R / 4503599627370496 - 1 = L + 1022 := by omega
 rw [e8, e9, show (-1074 : Int) + ((L + 1022 : Nat) : Int) = (L : Int) - 52 by omega]
theorem nearest_int (s : Bool) (m : Nat) (h0 : m ≠ 0) (h : m < 2 ^ 53) :
  double.nearest s m 0 = double.word s ((m.log2 + 1022) * 4503599627370496 + m <<< (52 - m.log2)) ∧ m.log2 ≤ 52 ∧ 4503599627370496 ≤ m <<< (52 - m.log2) ∧ m <<< (52 - m.log2) < 9007199254740992 := by
 have hl := log2_bd m h0 h
 have hlo : 2 ^ m.log2 ≤ m := Nat.log2_self_le h0
 have hhi : m < 2 ^ (m.log2 + 1) := Nat.lt_log2_self
 have hlp : double.leastPlace = -1074 := by kernel_rfl
 have hbi : double.binade = 4503599627370496 := by kernel_rfl
 have hir : double.infRung = 9218868437227405312 := by kernel_rfl
 have hfb : double.fractionBits = 52 := rfl
 unfold Format.nearest
 rw [if_neg h0]
 simp only [hlp, hfb, hbi, hir]
 generalize m.log2 = L at *
 have e1 : max ((0 : Int) + (L : Int) - ((52 : Nat) : Int)) (-1074) = (L : Int) - 52 := by omega
 have e2 : ((0 : Int) - ((L : Int) - 52)).toNat = 52 - L := by omega
 have e3 : ((L : Int) - 52 - 0).toNat = 0 := by omega
 have e4 : ((L : Int) - 52 - -1074).toNat = L + 1022 := by omega
 rw [e1, e2, e3, e4, cut_zero]
 have hk1 : 4503599627370496 ≤ m <<< (52 - L) := by
  rw [Nat.shiftLeft_eq]
  have hh : (4503599627370496 : Nat) = 2 ^ L * 2 ^ (52 - L) := by
   rw [← Nat.pow_add, show L + (52 - L) = 52 by omega]
  rw [hh]
  exact Nat.mul_le_mul_right _ hlo
 have hk2 : m <<< (52 - L) < 9007199254740992 := by
  rw [Nat.shiftLeft_eq]
  have hh : (9007199254740992 : Nat) = 2 ^ (L + 1) * 2 ^ (52 - L) := by
   rw [← Nat.pow_add, show L + 1 + (52 - L) = 53 by omega]
  rw [hh]
  exact Nat.mul_lt_mul_of_pos_right hhi (Nat.two_pow_pos _)
 refine ⟨?_, hl, hk1, hk2⟩
 rw [Nat.min_eq_left (by omega)]
theorem read_int (s : Bool) (m : Nat) (h0 : m ≠ 0) (h : m < 2 ^ 53) :
  double.read (double.nearest s m 0) = .number s (m <<< (52 - m.log2)) ((m.log2 : Int) - 52) := by
 obtain ⟨e, hl, h1, h2⟩ := nearest_int s m h0 h
 rw [e, read_word s _ _ hl h1 h2]
theorem read_zero : double.read (double.nearest false 0 0) = .number false 0 (-1074) := by kernel_rfl
def Rep (x : Nat) (a : Int) : Prop := ∃ s m p, double.read x = .number s m p ∧ p ≤ 0 ∧ signed s m 0 = a * 2 ^ (-p).toNat
theorem signed_scale (s : Bool) (m k : Nat) : signed s m k = signed s m 0 * 2 ^ k := by
 cases s <;> simp [signed, Nat.shiftLeft_eq]
 rw [Int.neg_mul]
theorem rep_int (a : Int) (h : a.natAbs < 2 ^ 53) : Rep (floatOfInt .f64 a) a := by
 unfold floatOfInt FloatKind.nearest FloatKind.encode
 show Rep (double.nearest (decide (a < 0)) a.natAbs 0) a
 by_cases h0 : a.natAbs = 0
 ·have : a = 0 := by omega
  subst this
  exact ⟨false, 0, -1074, read_zero, by omega, by simp only [signed, Int.zero_mul]; rfl⟩
 ·have hl := log2_bd _ h0 h
  refine ⟨_, _, _, read_int _ _ h0 h, by omega, ?_⟩
  have e : (-(((a.natAbs).log2 : Int) - 52)).toNat = 52 - a.natAbs.log2 := by omega
  rw [e]
  generalize 52 - a.natAbs.log2 = k
  simp only [signed, Nat.shiftLeft_eq, Nat.pow_zero, Nat.mul_one]
  by_cases hn : a < 0
  ·simp only [hn, decide_true, if_true]
   rw [Int.natCast_mul, ← Int.neg_mul]
   rw [show -((a.natAbs : Nat) : Int) = a by omega, Int.natCast_pow]
   rfl
  ·simp only [hn, decide_false]
   rw [if_neg (by decide), Int.natCast_mul, show ((a.natAbs : Nat) : Int) = a by omega, Int.natCast_pow]
   rfl
theorem compare_scale (a b : Int) (k : Nat) : compare (a * 2 ^ k) (b * 2 ^ k) = compare a b := by
 have hp : (0 : Int) < 2 ^ k := Int.pow_pos (by decide)
 simp only [compare, compareOfLessAndEq]
 have h1 : (a * 2 ^ k < b * 2 ^ k) ↔ a < b := ⟨fun h => Int.lt_of_mul_lt_mul_right h (Int.le_of_lt hp), fun h => Int.mul_lt_mul_of_pos_right h hp⟩
 have h2 : (a * 2 ^ k = b * 2 ^ k) ↔ a = b := ⟨fun h => Int.eq_of_mul_eq_mul_right (by omega) h, fun h => by rw [h]⟩
 simp only [h1, h2]
theorem rep_order {x y : Nat} {a b : Int} (hx : Rep x a) (hy : Rep y b) : double.order x y = some (compare a b) := by
 obtain ⟨s, m, p, rx, hp2, hv⟩ := hx
 obtain ⟨t, n, q, ry, hq2, hw⟩ := hy
 simp only [Format.order, rx, ry, Datum.order]
 rw [signed_scale, signed_scale (s := t), hv, hw, Int.mul_assoc, Int.mul_assoc, ← Int.pow_add, ← Int.pow_add]
 have e : (-q).toNat + (q - min p q).toNat = (-p).toNat + (p - min p q).toNat := by omega
 rw [e, compare_scale]
theorem rep_toInt {x : Nat} {a : Int} (hx : Rep x a) : (double.read x).toInt .zero = some a := by
 obtain ⟨s, m, p, rx, hp2, hv⟩ := hx
 rw [rx]
 have e1 : p.toNat = 0 := by omega
 have hm : m = a.natAbs * 2 ^ (-p).toNat := by
  have := congrArg Int.natAbs hv
  rw [Int.natAbs_mul, Int.natAbs_pow] at this
  cases s <;> simpa [signed] using this
 have hcut : Toward.zero.cut s (m <<< 0) (-p).toNat = a.natAbs := by
  rw [Nat.shiftLeft_zero]
  by_cases h0 : a.natAbs = 0
  ·simp [Toward.cut, hm, h0]
  ·have hlog : (-p).toNat ≤ m.log2 := by
    rw [Nat.le_log2 (by rw [hm]; exact Nat.mul_ne_zero h0 (Nat.pos_iff_ne_zero.1 (Nat.two_pow_pos _)))]
    rw [hm]
    exact Nat.le_mul_of_pos_left _ (Nat.pos_of_ne_zero h0)
   simp only [Toward.cut]
   rw [Nat.min_eq_left (by omega), Nat.shiftLeft_eq, Nat.one_mul, hm, Nat.mul_div_cancel _ (Nat.two_pow_pos _)]
   rfl
 simp only [Datum.toInt, Datum.integral, e1, hcut]
 congr 1
 have hk : (0 : Int) < 2 ^ (-p).toNat := Int.pow_pos (by decide)
 generalize (2 : Int) ^ (-p).toNat = k at *
 cases s
 ·simp only [signed, if_neg (show ¬ (false = true) by decide)] at hv ⊢
  have : 0 ≤ a := by
   rcases Int.lt_or_le a 0 with h | h
   ·have := Int.mul_neg_of_neg_of_pos h hk
    rw [← hv] at this; omega
   ·exact h
  simp; omega
 ·simp only [signed, if_pos] at hv ⊢
  have : a ≤ 0 := by
   rcases Int.lt_or_le 0 a with h | h
   ·have := Int.mul_pos h hk
    rw [← hv] at this; omega
   ·exact h
  simp; omega
end Go.Proofs.YtdelihhbmagphaaGreatDoor
namespace Go.Proofs.YtdelihhbmagphaaGreatDoor
open Go.RowKit
@[go_sem] theorem run_store_complex (P : Program) (w : World) (a : Addr) (m : Mode) (k : FloatKind) (x y : Nat) : (store a (.complex k x y) m).run P w = stored P w a (.complex k x y) m := run_store P w a _ m rfl
def fl (a : Int) : Nat := floatOfInt .f64 a
end Go.Proofs.YtdelihhbmagphaaGreatDoor
namespace Go.Proofs.YtdelihhbmagphaaGreatDoor
open Go.RowKit
def cellsV (v : VA) : List Value := [.int .i64 v.kd, .int .i64 v.a, .int .i64 v.b]
def flatX (xs : List VA) : List Value := xs.flatMap cellsV
def RdX (w : World) (v : Value) (xs : List VA) : Prop := Inn w 3 v xs.length (flatX xs)
theorem RdX.below {w w' : World} {v : Value} {xs : List VA} (h : RdX w v xs) (hb : Below w.heap.size w w') : RdX w' v xs := Inn.below h hb
end Go.Proofs.YtdelihhbmagphaaGreatDoor
namespace Go.Proofs.YtdelihhbmagphaaGreatDoor
open Go.RowKit Go.ChangeShapes Go.WideShapes Go.ChangeAt
section
variable {H : Type} {enc : TypeId × Value → H} {P : Program} {W : World}
theorem flat_len {size : Nat} : ∀ (rows : List (List Value)), (∀ r ∈ rows, r.length = size) → rows.flatten.length = rows.length * size
 | [], _ => by simp
 | x :: rs, h => by
  rw [List.flatten_cons, List.length_append, h x (by simp), flat_len rs (fun r hr => h r (by simp [hr]))]
  simp [Nat.succ_mul]; omega
theorem open_rows {t e : TypeId} {size n : Nat} {v : Value} {y : DataW H × List MemPlace} (ht : P.underlying t = some (.slice e)) (hC : P.cellsOf e = size) (h0 : 0 < size)
  (h : DataW.trod enc P W 0 (fun _ => true) true n t [v] = some y) :
  ∃ rows : List (List Value), Inn W size v rows.length rows.flatten ∧
   ((y.1 = .nil ∧ rows = []) ∨ ∃ es sp, y.1 = .slice es sp ∧ rows.length = es.length ∧ ∀ (i : Nat) r, rows[i]? = some r → ∃ (k : Nat) (d : DataW H) (q : List MemPlace), es[i]? = some d ∧ DataW.trod enc P W 0 (fun _ => true) true k e r = some (d, q)) ∧ ∀ A m c, v = .slice A m c → m ≤ c := by
 rcases Go.Deep.open_slice ht h with ⟨hcs, hx⟩ | ⟨a, len, cap, m, k, D, Pl, hcs, _, hl, hm, hmm, hx, hi⟩
 ·simp at hcs
  subst hcs
  exact ⟨[], Inn.nil _ _, Or.inl ⟨by rw [hx], rfl⟩, fun A m c e => by injection e; omega⟩
 ·simp at hcs
  subst hcs
  rw [if_pos rfl] at hmm
  subst hmm
  rw [hC] at hi
  have hall : ∀ q, q ≤ len → ∃ rows : List (List Value), rows.length = q ∧ (∀ (i : Nat) r, rows[i]? = some r → r.length = size ∧ DataW.trod enc P W 0 (fun _ => true) true k e r = some (D i, Pl i)) ∧ ∀ j u, rows.flatten[j]? = some u → W.cell? (a.add j) = some u := by
   intro q
   induction q with
   | zero => intro _; exact ⟨[], rfl, (by intro i r hr; simp at hr), fun j u hu => by simp at hu⟩
   | succ q ih =>
    intro hq
    obtain ⟨rows, h1, h2, h3⟩ := ih (by omega)
    obtain ⟨r, hr1, hr2⟩ := hi q (by omega)
    obtain ⟨_, hrl, hat⟩ := World.cells?_some hr1
    have hfl : rows.flatten.length = q * size := by
     rw [flat_len rows (fun r hr => by obtain ⟨i, hi'⟩ := List.getElem?_of_mem hr; exact (h2 i r hi').1), h1]
    refine ⟨rows ++ [r], by simp [h1], fun i r' hr' => ?_, fun j u hu => ?_⟩
    ·by_cases hi' : i < rows.length
     ·rw [List.getElem?_append_left hi'] at hr'
      exact h2 i r' hr'
     ·rw [List.getElem?_append_right (by omega)] at hr'
      have h0 : i - rows.length = 0 := by
       have := (List.getElem?_eq_some_iff.1 hr').1
       simp at this; omega
      rw [h0] at hr'
      simp at hr'
      subst hr'
      have : i = q := by omega
      subst this
      exact ⟨hrl, hr2⟩
    ·rw [List.flatten_append] at hu
     by_cases hj : j < q * size
     ·rw [List.getElem?_append_left (by omega)] at hu
      exact h3 j u hu
     ·rw [List.getElem?_append_right (by omega), hfl] at hu
      simp only [List.flatten_cons, List.flatten_nil, List.append_nil] at hu
      have hjl := (List.getElem?_eq_some_iff.1 hu).1
      have h4 := hat (j - q * size) (by omega)
      rw [Go.Deep.add_add, hu] at h4
      rw [show q * size + (j - q * size) = j by omega] at h4
      exact h4
  obtain ⟨rows, h1, h2, h3⟩ := hall len (Nat.le_refl _)
  have hfl : rows.flatten.length = len * size := by
   rw [flat_len rows (fun r hr => by obtain ⟨i, hi'⟩ := List.getElem?_of_mem hr; exact (h2 i r hi').1), h1]
  refine ⟨rows, Or.inr ⟨a, m, by rw [h1], by rw [hfl, h1], fun hn => ?_⟩, Or.inr ⟨_, _, by rw [hx], by simp [h1], fun i r hr => ?_⟩, fun A q c e => by injection e; omega⟩
  ·rw [h1] at hn
   have hlt : 0 < rows.flatten.length := by rw [hfl]; exact Nat.mul_pos hn h0
   have hc0 := h3 0 _ (List.getElem?_eq_getElem hlt)
   obtain ⟨bl, off, spot⟩ := a
   have hc0' : W.cell? ⟨bl, off, spot⟩ = some (rows.flatten[0]'hlt) := by simpa [Addr.add] using hc0
   have := Go.Proofs.cell_spot hc0'
   subst this
   exact ⟨bl, off, rfl, cell_lt hc0', fun j u hu => by have := h3 j u hu; rw [add_lit'] at this; exact this⟩
  ·have hil : i < len := by rw [← h1]; exact (List.getElem?_eq_some_iff.1 hr).1
   exact ⟨k, D i, Pl i, by simp [hil], (h2 i r hr).2⟩
theorem rows_at {α : Type} (f : α → List Value) (q : Nat → α → Prop) : ∀ (rows : List (List Value)) (o : Nat), (∀ (i : Nat) r, rows[i]? = some r → ∃ a, r = f a ∧ q (o + i) a) → ∃ l : List α, rows = l.map f ∧ ∀ (i : Nat) a, l[i]? = some a → q (o + i) a
 | [], _, _ => ⟨[], rfl, fun i a h => by simp at h⟩
 | r :: rs, o, h => by
  obtain ⟨a, ha, hq⟩ := h 0 r rfl
  obtain ⟨l, hl, hql⟩ := rows_at f q rs (o + 1) (fun i r hr => by
   obtain ⟨a, h1, h2⟩ := h (i + 1) r hr
   exact ⟨a, h1, by rw [show o + 1 + i = o + (i + 1) by omega]; exact h2⟩)
  refine ⟨a :: l, by rw [ha, hl]; rfl, fun i b hb => ?_⟩
  cases i with
  | zero => simp at hb; subst hb; exact hq
  | succ i => have := hql i b (by simpa using hb); rw [show o + (i + 1) = o + 1 + i by omega]; exact this
theorem weights_all {e : TypeId} : ∀ (es : List (DataW H)) (i : Nat) (d : DataW H), es[i]? = some d → ∀ x ∈ d.weights P e, x ∈ DataW.weightsAll P e es
 | [], i, d, h, _, _ => by simp at h
 | d0 :: r, 0, d, h, x, hx => by
  simp at h; subst h
  simp only [DataW.weightsAll, List.mem_append]; exact Or.inl hx
 | d0 :: r, i + 1, d, h, x, hx => by
  simp only [DataW.weightsAll, List.mem_append]
  exact Or.inr (weights_all r i d (by simpa using h) x hx)
end
end Go.Proofs.YtdelihhbmagphaaGreatDoor
namespace Go.Proofs.YtdelihhbmagphaaGreatDoor
open Go.RowKit
theorem inP_mono (x : List UInt8) {st a b : Int} (h : a ≤ b) : (inP x st a).length ≤ (inP x st b).length := by
 unfold inP
 by_cases h1 : st < a
 ·rw [if_pos h1, if_pos (by omega)]; exact Nat.le_refl _
 ·rw [if_neg h1]
  split
  ·simp; omega
  ·exact Nat.le_refl _
theorem txt_mono {t : T} {a b : Int} (h : a ≤ b) : (txt a t).length ≤ (txt b t).length := inP_mono _ h
theorem txt_top (t : T) (k : Int) : (txt k t).length ≤ (pcT t).1.length + 2 := inP_len _ _ _
theorem txt_own {t : T} {k : Int} (h : k ≤ (pcT t).2) : txt k t = (pcT t).1 := by unfold txt inP; rw [if_neg (by omega)]
def loK (k : Nat) (cmp : Bool) : Int := if k = 3 ∧ cmp = false then 4 else k
def Got (p : Nat) (cs : List CM) (k : Int) (r : Rs) : Prop := r.1 = true → ∃ t, OkT t ∧ r.2.2 = cs ++ post t ∧ (txt k t).length + p ≤ r.2.1
theorem opOf_tab {c d : UInt8} (h : (opOf c d).2.2 ≠ 0) : 11 ≤ (opOf c d).1 ∧ (opOf c d).1 ≤ 23 ∧ (tabAt ((opOf c d).1 - 11).toNat).2.1.length = (opOf c d).2.1 ∧ (tabAt ((opOf c d).1 - 11).toNat).2.2 = ((opOf c d).2.2 : Int) := by
 revert h
 unfold opOf
 repeat' split
 all_goals first | (intro h; exact absurd rfl h) | (intro _; decide)
theorem leaf_top {c : CM} (h : OkT (.leaf c)) : (pcT (.leaf c)).2 = 7 := by
 have h16 : 1 ≤ c.op ∧ c.op ≤ 6 := by
  have h1 := formed_op h.1
  have ho := h.2
  unfold operN at ho
  split at ho
  ·assumption
  ·split at ho <;> omega
 have hc : c.op = 1 ∨ c.op = 2 ∨ c.op = 3 ∨ c.op = 4 ∨ c.op = 5 ∨ c.op = 6 := by omega
 show (joinP c none0 none0).2 = 7
 unfold joinP
 rcases hc with e | e | e | e | e | e <;> simp [e]
section
variable {s : List UInt8} {p q : Nat} {cs : List CM}
theorem got_no {k : Int} : Got p cs k (false, q, cs) := by intro h; cases h
theorem got_leaf {c : CM} (hf : formedB c = true) (ho : operN c.op = 0) (hl : (joinP c none0 none0).1.length + p ≤ q) : Got p cs 6 (true, q, cs ++ [c]) := by
 intro _
 refine ⟨.leaf c, ⟨hf, ho⟩, rfl, ?_⟩
 rw [txt_own (by rw [leaf_top ⟨hf, ho⟩]; omega)]
 exact hl
theorem got_hold {inner : Rs} {o : Int} (ho : o = 9 ∨ o = 10) (hi : Got (p + 3) cs 1 inner) : Got p cs 6 (addD o (closeD s inner)) := by
 obtain ⟨b, q, cs'⟩ := inner
 cases b
 ·intro h; simp [addD, closeD] at h
 ·by_cases h41 : nx s q = 41
  ·have e : addD o (closeD s (true, q, cs')) = (true, q + 1, cs' ++ [opC o]) := by simp [addD, closeD, h41]
   rw [e]
   obtain ⟨t, h1, h2, h3⟩ := hi rfl
   simp only at h2 h3
   intro _
   have hs := strength h1
   rw [txt_own (by omega)] at h3
   refine ⟨.un o t, ⟨by omega, by omega, h1⟩, ?_, ?_⟩
   ·show cs' ++ [opC o] = cs ++ (post t ++ [opC o])
    rw [h2, List.append_assoc]
   ·rcases ho with rfl | rfl
    ·rw [txt_own (by show (6 : Int) ≤ 7; omega)]
     show ([114, 101, 40] ++ (pcT t).1 ++ [41]).length + p ≤ q + 1
     simp; omega
    ·rw [txt_own (by show (6 : Int) ≤ 7; omega)]
     show ([105, 109, 40] ++ (pcT t).1 ++ [41]).length + p ≤ q + 1
     simp; omega
  ·intro h; simp [addD, closeD, h41] at h
theorem got_sign {r : Rs} {o : Int} (ho : o = 7 ∨ o = 8) (hi : Got (p + 1) cs 6 r) : Got p cs 6 (addD o r) := by
 obtain ⟨b, q, cs'⟩ := r
 cases b
 ·intro h; simp [addD] at h
 ·have e : addD o (true, q, cs') = (true, q, cs' ++ [opC o]) := by simp [addD]
  rw [e]
  obtain ⟨t, h1, h2, h3⟩ := hi rfl
  simp only at h2 h3
  intro _
  refine ⟨.un o t, ⟨by omega, by omega, h1⟩, ?_, ?_⟩
  ·show cs' ++ [opC o] = cs ++ (post t ++ [opC o])
   rw [h2, List.append_assoc]
  ·rcases ho with rfl | rfl
   ·rw [txt_own (by show (6 : Int) ≤ 6; omega)]
    show ([45] ++ txt 6 t).length + p ≤ q
    simp; omega
   ·rw [txt_own (by show (6 : Int) ≤ 6; omega)]
    show ([33] ++ txt 6 t).length + p ≤ q
    simp; omega
theorem got_paren {r : Rs} (hi : Got (p + 1) cs 1 r) : Got p cs 6 (closeD s r) := by
 obtain ⟨b, q, cs'⟩ := r
 cases b
 ·intro h; simp [closeD] at h
 ·by_cases h41 : nx s q = 41
  ·have e : closeD s (true, q, cs') = (true, q + 1, cs') := by simp [closeD, h41]
   rw [e]
   obtain ⟨t, h1, h2, h3⟩ := hi rfl
   simp only at h2 h3
   intro _
   have hs := strength h1
   rw [txt_own (by omega)] at h3
   have h4 := txt_top t 6
   exact ⟨t, h1, h2, by simp only; omega⟩
  ·intro h; simp [closeD, h41] at h
theorem got_state : Got p cs 6 (stateD s p cs) := by
 unfold stateD
 split
 ·rename_i hn
  by_cases h41 : nx s (p + 3 + (wordP s (p + 3)).length) = 41
  ·have e : closeD s (true, p + 3 + (wordP s (p + 3)).length, cs ++ [⟨6, 0, wordP s (p + 3)⟩]) = (true, p + 3 + (wordP s (p + 3)).length + 1, cs ++ [⟨6, 0, wordP s (p + 3)⟩]) := by simp [closeD, h41]
   rw [e]
   refine got_leaf (by unfold formedB; simp [hn]) rfl ?_
   show ([105, 110, 40] ++ wordP s (p + 3) ++ [41]).length + p ≤ _
   simp; omega
  ·intro h; simp [closeD, h41] at h
 ·exact got_no
theorem got_word {inner : Rs} (hi : Got (p + 3) cs 1 inner) : Got p cs 6 (wordD s p cs (wordP s p) inner) := by
 unfold wordD
 split
 ·refine got_leaf (c := opC 3) (by decide) (by decide) ?_
  show 4 + p ≤ p + 4
  omega
 ·split
  ·refine got_leaf (c := opC 4) (by decide) (by decide) ?_
   show 5 + p ≤ p + 5
   omega
  ·split
   ·rename_i hn
    refine got_leaf (c := ⟨5, 0, wordP s p⟩) (by unfold formedB; simp [hn]) rfl ?_
    show (wordP s p).length + p ≤ p + (wordP s p).length
    omega
   ·split
    ·exact got_no
    ·split
     ·exact got_state
     ·split
      ·exact got_hold (Or.inl rfl) hi
      ·split
       ·exact got_hold (Or.inr rfl) hi
       ·exact got_no
theorem num_all : ∀ c ∈ numT s p, isD c = true := by
 intro c hc
 unfold numT at hc
 split at hc
 ·simp at hc; subst hc; decide
 ·exact List.all_eq_true.1 List.all_takeWhile c hc
theorem num_head (hp : p < s.length) (h : (numT s p).head? = some 48) : (numT s p).length = 1 := by
 unfold numT at h ⊢
 split at h
 ·rename_i e; rw [if_pos e]; rfl
 ·rename_i e
  rw [List.drop_eq_getElem_cons hp] at h
  rw [nx_at hp] at e
  rw [List.takeWhile_cons] at h
  split at h
  ·simp at h; exact absurd h e
  ·simp at h
theorem num_back (hp : p < s.length) (hd : isD (nx s p) = true) (h : (numP (numT s p)).2 = 0) : ∃ u : Nat, (numP (numT s p)).1 = u ∧ u ≤ 1099511627776 ∧ numT s p = Lib.decDigits u := by
 have hpos := num_pos hp hd
 have hne : numT s p ≠ [] := by intro e; rw [e] at hpos; simp at hpos
 have hdec := dec_unique _ (numT s p) rfl num_all hne (num_head hp)
 have h45 : (numT s p).head? ≠ some 45 := by
  intro e
  have := num_all (s := s) (p := p) 45 (List.mem_of_mem_head? e)
  exact absurd this (by decide)
 have hf0 : fOf (numT s p) = 0 := by unfold fOf; rw [if_neg h45]
 have hv : valN (numT s p) = valD 0 (numT s p) := by unfold valN; rw [hf0, List.drop_zero]
 unfold numP at h
 split at h
 ·split at h
  ·cases h
  ·rename_i hok hle
   exact ⟨valD 0 (numT s p), by rw [numP_pos hok hle h45, hv], by omega, hdec.symm⟩
 ·cases h
theorem got_num (hp : p < s.length) (hd : isD (nx s p) = true) : Got p cs 6 (numD s p cs) := by
 unfold numD
 split
 ·exact got_no
 ·rename_i h0
  obtain ⟨u, h1, h2, h3⟩ := num_back hp hd (Decidable.not_not.1 h0)
  have hit : Lib.itoa (u : Int) = numT s p := by rw [itoa_nat (by omega), h3]; rfl
  rw [h1]
  split
  ·split
   ·rename_i hle
    refine got_leaf (c := ⟨2, (u : Int), []⟩) (by unfold formedB; simp; omega) rfl ?_
    show (Lib.itoa (u : Int) ++ [105]).length + p ≤ _
    rw [hit]; simp; omega
   ·exact got_no
  ·refine got_leaf (c := ⟨1, (u : Int), []⟩) (by unfold formedB; simp; omega) rfl ?_
   show (Lib.itoa (u : Int)).length + p ≤ _
   rw [hit]; omega
end
theorem sound (s : List UInt8) : ∀ n : Nat, (∀ (k p : Nat) (cs : List CM), 1 ≤ k → k ≤ 6 → Got p cs k (D s n (.joins k) p cs)) ∧
  (∀ (k : Nat) (cmp : Bool) (p : Nat) (cs : List CM), 1 ≤ k → k ≤ 5 → ∀ (t0 : T) (cs0 : List CM) (p0 : Nat), OkT t0 → cs = cs0 ++ post t0 → (txt (loK k cmp) t0).length + p0 ≤ p → Got p0 cs0 k (D s n (.loop k cmp) p cs)) ∧
  (∀ (p : Nat) (cs : List CM), Got p cs 6 (D s n .ahead p cs)) := by
 intro n
 induction n with
 | zero =>
  refine ⟨?_, ?_, ?_⟩
  ·intro k p cs _ _; exact got_no
  ·intro k cmp p cs _ _ t0 cs0 p0 _ _ _ h; simp [D] at h
  ·intro p cs; exact got_no
 | succ n ih =>
  obtain ⟨ihj, ihl, iha⟩ := ih
  refine ⟨?_, ?_, ?_⟩
  ·intro k p cs h1 h6
   rw [D_joins]
   by_cases hk : k = 6
   ·rw [if_pos hk]; subst hk; exact iha p cs
   ·rw [if_neg hk]
    have hj := ihj (k + 1) p cs (by omega) (by omega)
    by_cases hr : (D s n (.joins (k + 1)) p cs).1 = true
    ·rw [if_pos hr]
     obtain ⟨t, g1, g2, g3⟩ := hj hr
     refine ihl k false _ _ h1 (by omega) t cs p g1 g2 ?_
     have : (txt (loK k false) t).length ≤ (txt ((k + 1 : Nat) : Int) t).length := txt_mono (by unfold loK; split <;> omega)
     omega
    ·rw [if_neg hr]; exact fun h => absurd h hr
  ·intro k cmp p cs h1 h5 t0 cs0 p0 ho hc hl
   rw [D_loop]
   by_cases hk : (opAt s p).2.2 ≠ k
   ·rw [if_pos hk]
    intro _
    have : (txt (k : Int) t0).length ≤ (txt (loK k cmp) t0).length := txt_mono (by unfold loK; split <;> omega)
    exact ⟨t0, ho, hc, by simp only; omega⟩
   ·rw [if_neg hk]
    by_cases hcm : cmp = true
    ·rw [if_pos hcm]; intro h; cases h
    ·rw [if_neg hcm]
     have hk' : (opAt s p).2.2 = k := Decidable.not_not.1 hk
     have hj := ihj (k + 1) (p + (opAt s p).2.1) cs (by omega) (by omega)
     by_cases hr : (D s n (.joins (k + 1)) (p + (opAt s p).2.1) cs).1 = true
     ·rw [if_pos hr]
      obtain ⟨t, g1, g2, g3⟩ := hj hr
      obtain ⟨o1, o2, o3, o4⟩ := opOf_tab (c := nx s p) (d := nx s (p + 1)) (by show (opAt s p).2.2 ≠ 0; omega)
      have o1 : 11 ≤ (opAt s p).1 := o1
      have o2 : (opAt s p).1 ≤ 23 := o2
      have o3 : (tabAt ((opAt s p).1 - 11).toNat).2.1.length = (opAt s p).2.1 := o3
      have o4 : (tabAt ((opAt s p).1 - 11).toNat).2.2 = ((opAt s p).2.2 : Int) := o4
      rw [hk'] at o4
      refine ihl k (k == 3) _ _ h1 h5 (.bin (opAt s p).1 t0 t) cs0 p0 ⟨o1, o2, ho, g1⟩ ?_ ?_
      ·rw [g2, hc]
       simp only [post, List.append_assoc]
      ·have e1 : loK k (k == 3) = k := by
        unfold loK
        by_cases h3 : k = 3
        ·subst h3; rfl
        ·rw [if_neg (fun h => h3 h.1)]
       have e0 : loK k cmp = if (k : Int) = 3 then 4 else k := by
        unfold loK
        cases cmp
        ·by_cases h3 : k = 3
         ·subst h3; rfl
         ·rw [if_neg (fun h => h3 h.1), if_neg (by omega)]
        ·exact absurd rfl hcm
       have e2 : pcT (.bin (opAt s p).1 t0 t) = (txt (loK k cmp) t0 ++ (tabAt ((opAt s p).1 - 11).toNat).2.1 ++ txt ((k + 1 : Nat) : Int) t, (k : Int)) := by
        show joinP (opC (opAt s p).1) (pcT t0) (pcT t) = _
        rw [joinP_bin o1, e0]
        unfold betP txt
        rw [o4]
        by_cases h3 : (k : Int) = 3
        ·rw [if_pos h3, if_pos h3]
         have hk3 : k = 3 := by omega
         subst hk3
         rfl
        ·rw [if_neg h3, if_neg h3]; rfl
       rw [e1, txt_own (by rw [e2]; exact Int.le_refl _), e2]
       simp only [List.length_append]
       omega
     ·rw [if_neg hr]; exact fun h => absurd h hr
  ·intro p cs
   rw [D_ahead]
   split
   ·exact got_sign (Or.inl rfl) (iha (p + 1) cs)
   ·split
    ·exact got_sign (Or.inr rfl) (iha (p + 1) cs)
    ·split
     ·exact got_paren (ihj 1 (p + 1) cs (by omega) (by omega))
     ·split
      ·rename_i hd
       exact got_num (nx_lt (by intro e; rw [e] at hd; exact absurd hd (by decide))) hd
      ·exact got_word (ihj 1 (p + 3) cs (by omega) (by omega))
theorem parse_sound {s : List UInt8} (h : (parseP s).2.2 = 0) : (parseP s).2.1 = 0 ∧ ∃ t, OkT t ∧ (parseP s).1 = post t ∧ (post t).length ≤ 32 ∧ (pcT t).1.length ≤ s.length := by
 have hg := goes s (s.length * 10 + 8) (.joins 1) 0 [] (by omega)
 have hs := (sound s (s.length * 10 + 8)).1 1 0 [] (by omega) (by omega)
 unfold parseP at h ⊢
 split at h
 ·cases h
 ·rename_i h6
  rw [if_neg h6]
  split at h
  ·cases h
  ·rename_i h1
   rw [if_neg h1]
   split at h
   ·cases h
   ·rename_i h2
    rw [if_neg h2]
    have hb : (D s (s.length * 10 + 8) (.joins 1) 0 []).1 = true := by
     cases hb : (D s (s.length * 10 + 8) (.joins 1) 0 []).1
     ·exact absurd (Or.inl hb) h1
     ·rfl
    obtain ⟨t, g1, g2, g3⟩ := hs hb
    have hst := strength g1
    rw [show ((1 : Nat) : Int) = 1 from rfl, txt_own (by omega)] at g3
    rw [List.nil_append] at g2
    have := hg.le
    exact ⟨rfl, t, g1, g2, by rw [← g2]; omega, by omega⟩
theorem parse_none {s : List UInt8} (h : (parseP s).2.2 ≠ 0) : (parseP s).1 = [] := by
 unfold parseP at h ⊢
 split
 ·rfl
 ·rename_i h6
  rw [if_neg h6] at h
  split
  ·rfl
  ·rename_i h1
   rw [if_neg h1] at h
   split
   ·rfl
   ·rename_i h2
    rw [if_neg h2] at h
    exact absurd rfl h
end Go.Proofs.YtdelihhbmagphaaGreatDoor
namespace Go.Proofs.YtdelihhbmagphaaGreatDoor
open Go.RowKit
def eventB (l : List UInt8) : Bool := nameB (Lib.trimPrefix l [100, 111, 110, 101, 46])
theorem event_any (s : ByteArray) (w : World) :
  Calls Tryz.prog 80 #[.string s] w fun e w' => e = .returned (.bool (eventB s.data.toList)) ∧ w = w' := by
 go_enter Tryz.func80, Tryz.ntmps80
 go_wp2_with fail
 refine (Tryz.strings_TrimPrefix s ⟨#[100, 111, 110, 101, 46]⟩ w).mono ?_
 rintro e w' ⟨rfl, rfl⟩
 go_wp2_with fail
 refine (name_any _ _).mono ?_
 rintro e w' ⟨rfl, rfl⟩
 go_wp2
 go_ret
 exact ⟨rfl, rfl⟩
end Go.Proofs.YtdelihhbmagphaaGreatDoor
