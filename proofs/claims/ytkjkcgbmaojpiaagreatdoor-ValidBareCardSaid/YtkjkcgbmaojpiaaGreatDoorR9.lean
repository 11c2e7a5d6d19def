/- Own texts, joined: Kb, Kq, Ip, Va, Vb, Vc, Vp, Vg, Oq, Ev, A1. -/
import Derived.Test.YtkjkcgbmaojpiaaGreatDoorR2
import Derived.Test.YtkjkcgbmaojpiaaGreatDoorR3
import Derived.Test.YtkjkcgbmaojpiaaGreatDoorR7
import Derived.Test.YtkjkcgbmaojpiaaGreatDoorR8
import Derived.Lib.SplitLaws
import Derived.Lib.Split
import Derived.Lib.IndexBytes
import Derived.Lib.Join
namespace Go.Proofs.YtkjkcgbmaojpiaaGreatDoor
open Go.RowKit
def varV (v : VM) : List Value := [bstr v.nm, .int .i64 v.kd, .int .i64 v.lo, .int .i64 v.hi, .int .i64 v.ik, .int .i64 v.ia, .int .i64 v.ib]
def flatV (vs : List VM) : List Value := vs.flatMap varV
theorem flatV_at {vs : List VM} {i : Nat} (h : i < vs.length) {j : Nat} (hj : j < 7) : (flatV vs)[i * 7 + j]? = (varV vs[i])[j]? := by
 induction vs generalizing i with
 | nil => simp at h
 | cons v r ih =>
  show (varV v ++ flatV r)[i * 7 + j]? = _
  cases i with
  | zero => rw [List.getElem?_append_left (by simp [varV]; omega)]; simp
  | succ k =>
   rw [List.getElem?_append_right (by simp [varV]; omega)]
   have e : (k + 1) * 7 + j - (varV v).length = k * 7 + j := by simp [varV]; omega
   rw [e]
   exact ih (by simpa using h)
def RdV (w : World) (v : Value) (vs : List VM) : Prop := Inn w 7 v vs.length (flatV vs)
def RdW (w : World) (v : Value) (xs : List (List UInt8)) : Prop := Inn w 1 v xs.length (xs.map bstr)
theorem RdV.below {w w' : World} {v : Value} {vs : List VM} (h : RdV w v vs) (hb : Below w.heap.size w w') : RdV w' v vs := Inn.below h hb
theorem RdW.below {w w' : World} {v : Value} {xs : List (List UInt8)} (h : RdW w v xs) (hb : Below w.heap.size w w') : RdW w' v xs := Inn.below h hb
theorem RdV.at_ {w : World} {A : Option Addr} {m c : Nat} {vs : List VM} (h : RdV w (.slice A m c) vs) {k : Nat} (hk : k < vs.length) :
  ∃ b o, A = some ⟨b, o, none⟩ ∧ b < w.heap.size ∧ w.cell? ⟨b, o + k * 7, none⟩ = some (bstr vs[k].nm) ∧ w.cell? ⟨b, o + k * 7 + 1, none⟩ = some (.int .i64 vs[k].kd) ∧ w.cell? ⟨b, o + k * 7 + 2, none⟩ = some (.int .i64 vs[k].lo) ∧
   w.cell? ⟨b, o + k * 7 + 3, none⟩ = some (.int .i64 vs[k].hi) ∧ w.cell? ⟨b, o + k * 7 + 4, none⟩ = some (.int .i64 vs[k].ik) ∧ w.cell? ⟨b, o + k * 7 + 5, none⟩ = some (.int .i64 vs[k].ia) ∧ w.cell? ⟨b, o + k * 7 + 6, none⟩ = some (.int .i64 vs[k].ib) := by
 obtain ⟨b, o, hA, hlt, hc⟩ := Inn.at_ h hk
 exact ⟨b, o, hA, hlt, hc 0 _ ((flatV_at hk (by omega)).trans rfl), hc 1 _ ((flatV_at hk (by omega)).trans rfl), hc 2 _ ((flatV_at hk (by omega)).trans rfl), hc 3 _ ((flatV_at hk (by omega)).trans rfl), hc 4 _ ((flatV_at hk (by omega)).trans rfl), hc 5 _ ((flatV_at hk (by omega)).trans rfl), hc 6 _ ((flatV_at hk (by omega)).trans rfl)⟩
theorem RdW.at_ {w : World} {A : Option Addr} {m c : Nat} {xs : List (List UInt8)} (h : RdW w (.slice A m c) xs) {k : Nat} (hk : k < xs.length) :
  ∃ b o, A = some ⟨b, o, none⟩ ∧ b < w.heap.size ∧ w.cell? ⟨b, o + k, none⟩ = some (bstr xs[k]) := by
 obtain ⟨b, o, hA, hlt, hc⟩ := Inn.at_ h hk
 have := hc 0 (bstr xs[k]) (by simp [hk])
 exact ⟨b, o, hA, hlt, by simpa using this⟩
theorem RdV.form {w : World} {v : Value} {vs : List VM} (h : RdV w v vs) : ∃ A c, v = .slice A vs.length c := Inn.form h
theorem RdW.form {w : World} {v : Value} {xs : List (List UInt8)} (h : RdW w v xs) : ∃ A c, v = .slice A xs.length c := Inn.form h
end Go.Proofs.YtkjkcgbmaojpiaaGreatDoor
namespace Go.Proofs.YtkjkcgbmaojpiaaGreatDoor
open Go.RowKit Go.ChangeShapes Go.WideShapes Go.ChangeAt
theorem cellsCell : Tryz.prog.cellsOf 144 = 3 := by kernel_rfl
theorem bytesCell : Tryz.prog.bytesOf 144 = 32 := by kernel_rfl
theorem cellsVar : Tryz.prog.cellsOf 51 = 7 := by kernel_rfl
theorem bytesVar : Tryz.prog.bytesOf 51 = 64 := by kernel_rfl
theorem cellsVal : Tryz.prog.cellsOf 49 = 3 := by kernel_rfl
theorem cellsI : Tryz.prog.cellsOf 3 = 1 := by kernel_rfl
theorem cellsI64 : Tryz.prog.cellsOf 2 = 1 := by kernel_rfl
theorem cellsS : Tryz.prog.cellsOf 9 = 1 := by kernel_rfl
theorem bytesStr : Tryz.prog.bytesOf 9 = 16 := by kernel_rfl
section
variable {H : Type} {enc : TypeId × Value → H} {W : World} {base : Nat} {sp : Nat → Bool} {held : Bool} {fuel : Nat} {cs : List Value}
set_option maxRecDepth 100000 in
theorem cell_struct {x : DataW H × List MemPlace} (h : DataW.trod enc Tryz.prog W base sp held fuel 144 cs = some x) : ∃ (o a : Int) (s : ByteArray), cs = [.int .i64 o, .int .i64 a, .string s] ∧ s.size ≤ maxLen := by
 obtain ⟨xs, n, rfl, _, hl, hxl, hf⟩ := DataW.trod_struct Tryz.underlying144 h
 rw [cellsCell] at hl
 match cs, hl with
 | [u0, u1, u2], _ =>
  have e0 : DataW.trod enc Tryz.prog W base sp held n 3 (([u0, u1, u2].drop 0).take (Tryz.prog.cellsOf 3)) = xs[0]? := hf 0 _ rfl
  have e1 : DataW.trod enc Tryz.prog W base sp held n 2 (([u0, u1, u2].drop 1).take (Tryz.prog.cellsOf 2)) = xs[1]? := hf 1 _ rfl
  have e2 : DataW.trod enc Tryz.prog W base sp held n 9 (([u0, u1, u2].drop 2).take (Tryz.prog.cellsOf 9)) = xs[2]? := hf 2 _ rfl
  have hx3 : xs.length = 3 := hxl
  rw [cellsI, List.getElem?_eq_getElem (by omega)] at e0
  rw [cellsI64, List.getElem?_eq_getElem (by omega)] at e1
  rw [cellsS, List.getElem?_eq_getElem (by omega)] at e2
  obtain ⟨o, h0, _, _⟩ := DataW.trod_int Tryz.underlying3 e0
  obtain ⟨a, h1, _, _⟩ := DataW.trod_int Tryz.underlying2 e1
  obtain ⟨s, h2, _, hs⟩ := DataW.trod_string Tryz.underlying9 e2
  simp at h0 h1 h2
  exact ⟨o, a, s, by rw [h0, h1, h2], hs⟩
end
theorem rows_of {α : Type} (f : α → List Value) (q : α → Prop) : ∀ rows : List (List Value), (∀ r ∈ rows, ∃ a, r = f a ∧ q a) → ∃ l : List α, rows = l.map f ∧ ∀ a ∈ l, q a
 | [], _ => ⟨[], rfl, fun _ h => by cases h⟩
 | r :: rs, h => by
  obtain ⟨a, ha, hq⟩ := h r (by simp)
  obtain ⟨l, hl, hql⟩ := rows_of f q rs (fun r hr => h r (by simp [hr]))
  refine ⟨a :: l, by rw [ha, hl]; rfl, fun b hb => ?_⟩
  rcases List.mem_cons.1 hb with rfl | hb
  ·exact hq
  ·exact hql b hb
theorem inn_rdI {w : World} {v : Value} {cs : List CM} (h : Inn w 3 v cs.length (flat cs)) : RdI w v cs := by
 rcases h with ⟨rfl, h1, _⟩ | ⟨ad, c, rfl, _, h⟩
 ·exact Or.inl ⟨rfl, List.eq_nil_of_length_eq_zero h1⟩
 ·refine Or.inr ⟨ad, c, rfl, some ad, c, rfl, fun i hi => ?_⟩
  obtain ⟨b, o, rfl, _, hc⟩ := h (by omega)
  obtain ⟨f0, f1, f2⟩ := flat_at hi
  refine ⟨b, o, rfl, hc _ _ f0, ?_, ?_⟩
  ·rw [Nat.add_assoc]; exact hc _ _ f1
  ·rw [Nat.add_assoc]; exact hc _ _ f2
section
variable {H : Type} {enc : TypeId × Value → H} {W : World} {n : Nat} {v : Value} {y : DataW H × List MemPlace}
theorem cells_in (h : DataW.trod enc Tryz.prog W 0 (fun _ => true) true n 40 [v] = some y) :
  ∃ cs, RdI W v cs ∧ Names cs ∧ ((y.1 = .nil ∧ cs = []) ∨ ∃ es sp, y.1 = .slice es sp ∧ cs.length = es.length) ∧ ∀ A m c, v = .slice A m c → m ≤ c := by
 obtain ⟨rows, h1, h2, h3, h4⟩ := open_inn Tryz.underlying40 cellsCell (by decide) h
 obtain ⟨cs, rfl, hq⟩ := rows_of cellV (fun c : CM => c.nm.length ≤ 9223372036854775807) rows (fun r hr => by
  obtain ⟨_, k, x, hx⟩ := h2 r hr
  obtain ⟨o, a, s, rfl, hs⟩ := cell_struct hx
  exact ⟨⟨o, a, s.data.toList⟩, rfl, by show s.data.toList.length ≤ _; rw [sz0]; unfold maxLen at hs; exact hs⟩)
 have hf : (cs.map cellV).flatten = flat cs := by simp [flat, List.flatMap_def]
 rw [hf, List.length_map] at h1
 refine ⟨cs, inn_rdI h1, hq, ?_, h4⟩
 rcases h3 with ⟨e1, e2⟩ | ⟨es, sp, e1, e2⟩
 ·exact Or.inl ⟨e1, List.map_eq_nil_iff.1 e2⟩
 ·exact Or.inr ⟨es, sp, e1, by rw [← e2, List.length_map]⟩
end
end Go.Proofs.YtkjkcgbmaojpiaaGreatDoor
namespace Go.Proofs.YtkjkcgbmaojpiaaGreatDoor
open Go.RowKit
def ixP {α : Type} (p : α → Bool) : List α → Nat → Int
 | [], _ => -1
 | x :: r, i => if p x = true then i else ixP p r (i + 1)
theorem ix_step {α : Type} {p : α → Bool} {l : List α} {k : Nat} (hk : k < l.length) : ixP p (l.drop k) k = if p l[k] = true then (k : Int) else ixP p (l.drop (k + 1)) (k + 1) := by
 rw [List.drop_eq_getElem_cons hk]; rfl
theorem ix_end {α : Type} {p : α → Bool} {l : List α} {k : Nat} (hk : ¬ k < l.length) : ixP p (l.drop k) k = -1 := by
 rw [List.drop_of_length_le (by omega)]; rfl
theorem ix_find {α : Type} (p : α → Bool) : ∀ (l : List α) (i : Nat), (ixP p l i = -1 ∧ l.find? p = none) ∨ ∃ j, ∃ h : j < l.length, ixP p l i = ((i + j : Nat) : Int) ∧ l.find? p = some l[j]
 | [], i => Or.inl ⟨rfl, rfl⟩
 | x :: r, i => by
  by_cases hx : p x = true
  ·refine Or.inr ⟨0, by simp, ?_, ?_⟩
   ·unfold ixP; rw [if_pos hx]; rfl
   ·simp [hx]
  ·have e1 : ixP p (x :: r) i = ixP p r (i + 1) := if_neg hx
   have e2 : (x :: r).find? p = r.find? p := by simp [hx]
   rw [e1, e2]
   rcases ix_find p r (i + 1) with h | ⟨j, hj, h1, h2⟩
   ·exact Or.inl h
   ·exact Or.inr ⟨j + 1, by simp; omega, by rw [h1]; congr 1; omega, by rw [h2]; rfl⟩
def isN (n : List UInt8) (x : List UInt8) : Bool := decide (x = n)
theorem ix_mem (l : List (List UInt8)) (n : List UInt8) : decide (0 ≤ ixP (isN n) l 0) = decide (n ∈ l) := by
 rcases ix_find (isN n) l 0 with ⟨h1, h2⟩ | ⟨j, hj, h1, h2⟩
 ·rw [h1]
  have : n ∉ l := by
   intro hm
   have := List.find?_eq_none.1 h2 n hm
   simp [isN] at this
  simp [this]
 ·rw [h1]
  have := List.find?_some h2
  simp [isN] at this
  have hm : n ∈ l := by rw [← this]; exact List.getElem_mem _
  simp [hm]
theorem ix_range {α : Type} (p : α → Bool) (l : List α) : ixP p l 0 = -1 ∨ (0 ≤ ixP p l 0 ∧ ixP p l 0 < l.length) := by
 rcases ix_find p l 0 with ⟨h1, h2⟩ | ⟨j, hj, h1, h2⟩
 ·exact Or.inl h1
 ·right; rw [h1]; omega
theorem str_ne {X Y : ByteArray} (h : X.data.toList ≠ Y.data.toList) : (X.toList == Y.toList) = false := by
 rw [Lib.toList_data, Lib.toList_data]; exact beq_eq_false_iff_ne.2 h
theorem str_eq {X Y : ByteArray} (h : X.data.toList = Y.data.toList) : X = Y := by apply ByteArray.ext; exact Array.toList_inj.1 h
theorem bstr_some (l : List UInt8) : ∃ X : ByteArray, bstr l = .string X ∧ X.data.toList = l := ⟨⟨l.toArray⟩, rfl, rfl⟩
set_option maxHeartbeats 1000000 in
theorem strIndex_any (v : Value) (xs : List (List UInt8)) (N : ByteArray) (w : World) (hR : RdW w v xs) (hl : xs.length ≤ 9223372036854775807) :
  Calls Tryz.prog 121 #[v, .string N] w fun e w' => e = .returned (.int .i64 (ixP (isN N.data.toList) xs 0)) ∧ w = w' := by
 obtain ⟨A, c, rfl⟩ := hR.form
 have HR := Lib.hid hR; clear hR
 obtain ⟨n, hn⟩ : ∃ n, xs.length = n := ⟨_, rfl⟩
 have HN := Lib.hid hn
 rw [hn] at hl HR ⊢
 clear hn
 go_enter Tryz.func121, Tryz.ntmps121
 go_wp2
 go_loop [4, 5, 8] (fun x4 x5 i => x4 = .int .i64 0 ∧ (x5 = .int .i64 0 ∨ True) ∧ ∃ k : Nat, k ≤ n ∧ i = .int .i64 k ∧ Hid (ixP (isN N.data.toList) (xs.drop k) k = ixP (isN N.data.toList) xs 0)) (fun _ _ i => n - (intOf i).toNat)
 case atStart => exact ⟨rfl, Or.inr trivial, 0, by omega, rfl, rfl⟩
 case round =>
  obtain ⟨rfl, _, k, hk, rfl, HI⟩ := hrel
  by_cases hkn : k < n
  ·obtain ⟨b, o, rfl, _, hc⟩ := HR.out.at_ (k := k) (by rw [HN.out]; exact hkn)
   have hst := ix_step (p := isN N.data.toList) (l := xs) (k := k) (by rw [HN.out]; exact hkn)
   rw [HI.out] at hst
   obtain ⟨X, hX, hXl⟩ := bstr_some (xs[k]'(by rw [HN.out]; exact hkn))
   rw [hX] at hc
   rw [← hXl] at hst
   clear hX hXl
   by_cases he : X.data.toList = N.data.toList
   ·obtain rfl := str_eq he
    have hr : ixP (isN X.data.toList) xs 0 = k := by rw [hst, if_pos (by simp [isN])]
    have HRR := Lib.hid hr
    clear hst hr he HI
    go_wp2
    go_ret
    exact ⟨ret_int HRR.out.symm, rfl⟩
   ·have hr : ixP (isN N.data.toList) (xs.drop (k + 1)) (k + 1) = ixP (isN N.data.toList) xs 0 := by rw [hst, if_neg (by simp [isN, he])]
    have HRR := Lib.hid hr
    have hne := str_ne he
    have hne' := str_ne (Ne.symm he)
    clear hst hr he HI
    go_wp2
    go_round
    case rel => exact ⟨rfl, Or.inr trivial, k + 1, by omega, by go_num, HRR.out⟩
    case measure => simp [intOf]; omega
  ·have hr : ixP (isN N.data.toList) xs 0 = -1 := by rw [← HI.out, ix_end (by rw [HN.out]; exact hkn)]
   have HRR := Lib.hid hr
   clear hr HI
   go_wp2
   go_ret
   exact ⟨ret_int HRR.out.symm, rfl⟩
theorem strContains_any (v : Value) (xs : List (List UInt8)) (N : ByteArray) (w : World) (hR : RdW w v xs) (hl : xs.length ≤ 9223372036854775807) :
  Calls Tryz.prog 84 #[v, .string N] w fun e w' => e = .returned (.bool (decide (N.data.toList ∈ xs))) ∧ w = w' := by
 have HI := Lib.hid (strIndex_any v xs N w hR hl)
 have HM := Lib.hid (ix_mem xs N.data.toList)
 clear hR
 go_enter Tryz.func84, Tryz.ntmps84
 go_wp2_with fail
 refine HI.out.mono ?_
 rintro e w1 ⟨rfl, rfl⟩
 go_wp2
 go_ret
 exact ⟨ret_bool HM.out, rfl⟩
end Go.Proofs.YtkjkcgbmaojpiaaGreatDoor
namespace Go.Proofs.YtkjkcgbmaojpiaaGreatDoor
structure VA where
 kd : Int
 a : Int
 b : Int
def inB (n : Int) : Bool := decide (-1048576 ≤ n ∧ n ≤ 1048576)
theorem inB_iff {n : Int} : inB n = true ↔ -1048576 ≤ n ∧ n ≤ 1048576 := decide_eq_true_iff
def inL (n : Int) : Bool := decide (-9223372036854775808 ≤ n ∧ n ≤ 9223372036854775807)
theorem inL_iff {n : Int} : inL n = true ↔ -9223372036854775808 ≤ n ∧ n ≤ 9223372036854775807 := decide_eq_true_iff
def rightV (v : VA) : Bool :=
 if v.kd = 1 then decide (v.b = 0) else if v.kd = 2 then decide (v.b = 0) && (decide (v.a = 0) || decide (v.a = 1)) else if v.kd = 3 then inB v.a && inB v.b else false
def VA.zero : VA := ⟨0, 0, 0⟩
def erV (e : Int) : VA × Int := (VA.zero, e)
def numV (n : Int) : VA := ⟨1, n, 0⟩
def numE (n : Int) : VA × Int := if inL n = true then (numV n, 0) else erV 7
def truV (b : Bool) : VA := ⟨2, if b = true then 1 else 0, 0⟩
def ptV (a b : Int) : VA := ⟨3, a, b⟩
def ptE (a b : Int) : VA × Int := if (inB a && inB b) = true then (ptV a b, 0) else erV 5
def isV (n : List UInt8) (v : VM) : Bool := decide (v.nm = n)
def varE (vs : List VM) (xs : List VA) (n : List UInt8) : VA × Int :=
 if ixP (isV n) vs 0 < 0 then erV 2 else (xs.getD (ixP (isV n) vs 0).toNat VA.zero, 0)
def leafE (vs : List VM) (xs : List VA) (ss : List (List UInt8)) (c : CM) : VA × Int :=
 if c.op = 1 then (numV c.a, 0) else if c.op = 2 then (ptV 0 c.a, 0) else if c.op = 5 then varE vs xs c.nm else if c.op = 6 then (truV (decide (c.nm ∈ ss)), 0) else (truV (decide (c.op = 3)), 0)
def unE (o : Int) (v : VA) : VA × Int :=
 if o = 7 then (if v.kd = 1 then numE (-v.a) else if v.kd = 3 then (ptV (-v.a) (-v.b), 0) else erV 8)
 else if o = 8 then (if v.kd = 2 then (truV (decide (v.a = 0)), 0) else erV 8)
 else if o = 9 then (if v.kd = 3 then (numV v.a, 0) else erV 8)
 else (if v.kd = 3 then (numV v.b, 0) else erV 8)
def numbersE (o a b : Int) : VA × Int :=
 if o = 11 then numE (a + b) else if o = 12 then numE (a - b) else if o = 13 then numE (a * b)
 else if o = 14 then (if b = 0 then erV 6 else numE (a.tdiv b))
 else if o = 15 then (if b = 0 then erV 6 else (numV (a.tmod b), 0))
 else if o = 18 then (truV (decide (a < b)), 0) else if o = 19 then (truV (decide (a ≤ b)), 0)
 else if o = 20 then (truV (decide (b < a)), 0) else if o = 21 then (truV (decide (b ≤ a)), 0) else erV 8
def truthsE (o : Int) (a b : Bool) : VA × Int := if o = 22 then (truV (a && b), 0) else if o = 23 then (truV (a || b), 0) else erV 8
def pointsE (o a b c d : Int) : VA × Int :=
 if o = 11 then ptE (a + c) (b + d) else if o = 12 then ptE (a - c) (b - d) else if o = 13 then ptE (a * c - b * d) (a * d + b * c) else erV 8
def joinE (o : Int) (x y : VA) : VA × Int :=
 if x.kd ≠ y.kd then erV 8
 else if o = 16 then (truV (decide (x.a = y.a ∧ x.b = y.b)), 0)
 else if o = 17 then (truV (!decide (x.a = y.a ∧ x.b = y.b)), 0)
 else if x.kd = 1 then numbersE o x.a y.a
 else if x.kd = 2 then truthsE o (decide (x.a = 1)) (decide (y.a = 1))
 else pointsE o x.a x.b y.a y.b
def OkV (v : VA) : Prop := rightV v = true ∧ inL v.a = true
theorem ok_num {n : Int} (h : inL n = true) : OkV (numV n) := ⟨rfl, h⟩
theorem ok_tru (b : Bool) : OkV (truV b) := by cases b <;> exact ⟨rfl, rfl⟩
theorem ok_pt {a b : Int} (h : (inB a && inB b) = true) : OkV (ptV a b) := by
 refine ⟨h, ?_⟩
 simp only [Bool.and_eq_true, inB_iff] at h
 exact inL_iff.2 (by show -9223372036854775808 ≤ a ∧ a ≤ 9223372036854775807; omega)
def Fin (p : VA × Int) : Prop := (p.2 = 0 ∧ OkV p.1) ∨ (p.2 ≠ 0 ∧ p.1 = VA.zero)
theorem fin_er {e : Int} (h : e ≠ 0) : Fin (erV e) := Or.inr ⟨h, rfl⟩
theorem fin_ok {v : VA} (h : OkV v) : Fin (v, 0) := Or.inl ⟨rfl, h⟩
theorem fin_num (n : Int) : Fin (numE n) := by
 unfold numE
 split
 ·exact fin_ok (ok_num (by assumption))
 ·exact fin_er (by decide)
theorem fin_pt (a b : Int) : Fin (ptE a b) := by
 unfold ptE
 split
 ·exact fin_ok (ok_pt (by assumption))
 ·exact fin_er (by decide)
theorem tmod_in {a b : Int} (h : inL a = true) : inL (a.tmod b) = true := by
 rw [inL_iff] at *
 have h1 := Int.natAbs_tmod a b
 by_cases hb : b = 0
 ·subst hb; rw [Int.tmod_zero]; exact h
 ·have h2 : a.natAbs % b.natAbs ≤ a.natAbs := Nat.mod_le _ _
  rcases Int.lt_or_le a 0 with hn | hn
  ·have h3 : a.tmod b ≤ 0 := by
    have := Int.tmod_nonneg (-b) (a := -a) (by omega)
    rw [Int.neg_tmod, Int.tmod_neg] at this; omega
   omega
  ·have := Int.tmod_nonneg b (a := a) hn
   omega
section
variable {vs : List VM} {xs : List VA} {ss : List (List UInt8)}
theorem fin_var (hx : ∀ v ∈ xs, OkV v) (hl : vs.length = xs.length) (n : List UInt8) : Fin (varE vs xs n) := by
 unfold varE
 rcases ix_find (isV n) vs 0 with ⟨h, _⟩ | ⟨j, hj, h, _⟩
 ·rw [h, if_pos (by decide)]; exact fin_er (by decide)
 ·rw [h, if_neg (by omega)]
  have e : ((0 + j : Nat) : Int).toNat = j := by omega
  rw [e]
  have : j < xs.length := by omega
  rw [List.getD_eq_getElem?_getD, List.getElem?_eq_getElem this]
  exact fin_ok (hx _ (List.getElem_mem _))
theorem fin_leaf (hx : ∀ v ∈ xs, OkV v) (hl : vs.length = xs.length) {c : CM} (hc : formedB c = true) : Fin (leafE vs xs ss c) := by
 unfold leafE
 unfold formedB at hc
 by_cases h1 : c.op = 1
 ·rw [if_pos h1] at hc ⊢
  simp at hc
  exact fin_ok (ok_num (inL_iff.2 (by omega)))
 ·rw [if_neg h1] at hc ⊢
  by_cases h2 : c.op = 2
  ·rw [if_pos h2] at hc ⊢
   simp at hc
   exact fin_ok (ok_pt (by simp only [Bool.and_eq_true, inB_iff]; omega))
  ·rw [if_neg h2]
   split
   ·exact fin_var hx hl _
   ·split
    ·exact fin_ok (ok_tru _)
    ·exact fin_ok (ok_tru _)
theorem fin_un {o : Int} {v : VA} (hv : OkV v) : Fin (unE o v) := by
 obtain ⟨h1, h2⟩ := hv
 unfold unE
 have h3 : v.kd = 3 → inB v.a = true ∧ inB v.b = true := fun h => by
  unfold rightV at h1
  rw [h] at h1
  simpa using h1
 repeat' split
 all_goals first
  | exact fin_num _
  | exact fin_er (by decide)
  | exact fin_ok (ok_tru _)
  | skip
 ·obtain ⟨h4, h5⟩ := h3 (by assumption)
  refine fin_ok (ok_pt ?_)
  simp only [Bool.and_eq_true, inB_iff] at *
  omega
 ·exact fin_ok (ok_num h2)
 ·obtain ⟨h4, h5⟩ := h3 (by assumption)
  refine fin_ok (ok_num ?_)
  rw [inB_iff] at h5
  exact inL_iff.2 (by omega)
theorem fin_ite {c : Prop} [Decidable c] {a b : VA × Int} (h1 : Fin a) (h2 : Fin b) : Fin (if c then a else b) := by
 by_cases h : c
 ·rw [if_pos h]; exact h1
 ·rw [if_neg h]; exact h2
theorem fin_join {o : Int} {x y : VA} (hx : OkV x) : Fin (joinE o x y) := by
 unfold joinE numbersE truthsE pointsE
 repeat' first | exact fin_num _ | exact fin_pt _ _ | refine fin_ite ?_ ?_
 all_goals first
  | exact fin_num _
  | exact fin_pt _ _
  | exact fin_er (by decide)
  | exact fin_ok (ok_tru _)
  | exact fin_ok (ok_num (tmod_in hx.2))
end
section
variable (vs : List VM) (xs : List VA) (ss : List (List UInt8))
def eT : T → VA × Int
 | .leaf c => leafE vs xs ss c
 | .un o t => if (eT t).2 ≠ 0 then erV (eT t).2 else unE o (eT t).1
 | .bin o l r => if (eT l).2 ≠ 0 then erV (eT l).2 else if (eT r).2 ≠ 0 then erV (eT r).2 else joinE o (eT l).1 (eT r).1
def madeE (c : CM) (st : List VA) : VA × Int :=
 match operN c.op with
 | 0 => leafE vs xs ss c
 | 1 => unE c.op (st.headD VA.zero)
 | _ => joinE c.op (st.headD VA.zero) ((st.drop 1).headD VA.zero)
def eRun : List CM → List VA → VA × Int
 | [], st => (st.headD VA.zero, 0)
 | c :: r, st => if (madeE vs xs ss c (st.drop (st.length - operN c.op))).2 ≠ 0 then erV (madeE vs xs ss c (st.drop (st.length - operN c.op))).2
  else eRun r (st.take (st.length - operN c.op) ++ [(madeE vs xs ss c (st.drop (st.length - operN c.op))).1])
def worldB : Bool := decide (xs.length = vs.length) && xs.all rightV
def evP (cs : List CM) : VA × Int := if rightB cs = true then (if worldB vs xs = true then eRun vs xs ss cs [] else erV 12) else erV 1
end
section
variable {vs : List VM} {xs : List VA} {ss : List (List UInt8)}
theorem fin_eT (hx : ∀ v ∈ xs, OkV v) (hl : vs.length = xs.length) {t : T} (h : OkT t) : Fin (eT vs xs ss t) := by
 induction t with
 | leaf c => exact fin_leaf hx hl h.1
 | un o t ih =>
  unfold eT
  rcases ih h.2.2 with ⟨h1, h2⟩ | ⟨h1, h2⟩
  ·rw [if_neg (by simp [h1])]; exact fin_un h2
  ·rw [if_pos h1]; exact fin_er h1
 | bin o l r ihl ihr =>
  unfold eT
  rcases ihl h.2.2.1 with ⟨h1, h2⟩ | ⟨h1, h2⟩
  ·rw [if_neg (by simp [h1])]
   rcases ihr h.2.2.2 with ⟨h3, h4⟩ | ⟨h3, h4⟩
   ·rw [if_neg (by simp [h3])]; exact fin_join h2
   ·rw [if_pos h3]; exact fin_er h3
  ·rw [if_pos h1]; exact fin_er h1
theorem run_eT {t : T} (h : OkT t) : ∀ (r : List CM) (st : List VA), eRun vs xs ss (post t ++ r) st = if (eT vs xs ss t).2 ≠ 0 then erV (eT vs xs ss t).2 else eRun vs xs ss r (st ++ [(eT vs xs ss t).1]) := by
 induction t with
 | leaf c =>
  intro r st
  show eRun vs xs ss (c :: r) st = _
  have h0 : operN c.op = 0 := h.2
  have hm : madeE vs xs ss c (st.drop (st.length - operN c.op)) = leafE vs xs ss c := by unfold madeE; rw [h0]; rfl
  rw [eRun, hm, h0, Nat.sub_zero, List.take_length]
  rfl
 | un o t ih =>
  intro r st
  show eRun vs xs ss (post t ++ [opC o] ++ r) st = _
  rw [List.append_assoc, ih h.2.2]
  by_cases h1 : (eT vs xs ss t).2 = 0
  ·have h1' : ¬ (eT vs xs ss t).2 ≠ 0 := fun e => e h1
   have e : eT vs xs ss (.un o t) = unE o (eT vs xs ss t).1 := if_neg h1'
   rw [if_neg h1', e]
   show eRun vs xs ss (opC o :: r) _ = _
   have hn : operN (opC o).op = 1 := operN_un ⟨h.1, h.2.1⟩
   have hl : (st ++ [(eT vs xs ss t).1]).length - 1 = st.length := by simp
   have hm : madeE vs xs ss (opC o) [(eT vs xs ss t).1] = unE o (eT vs xs ss t).1 := by
    unfold madeE; rw [hn]; rfl
   rw [eRun, hn, hl, List.drop_left, List.take_left, hm]
  ·have e : eT vs xs ss (.un o t) = erV (eT vs xs ss t).2 := if_pos h1
   rw [if_pos h1, e]
   rw [if_pos (show (erV (eT vs xs ss t).2).2 ≠ 0 from h1)]
   rfl
 | bin o l r' ihl ihr =>
  intro r st
  show eRun vs xs ss (post l ++ post r' ++ [opC o] ++ r) st = _
  rw [List.append_assoc, List.append_assoc, ihl h.2.2.1]
  by_cases h1 : (eT vs xs ss l).2 = 0
  ·have h1' : ¬ (eT vs xs ss l).2 ≠ 0 := fun e => e h1
   rw [if_neg h1', ihr h.2.2.2]
   by_cases h2 : (eT vs xs ss r').2 = 0
   ·have h2' : ¬ (eT vs xs ss r').2 ≠ 0 := fun e => e h2
    have e : eT vs xs ss (.bin o l r') = joinE o (eT vs xs ss l).1 (eT vs xs ss r').1 := (if_neg h1').trans (if_neg h2')
    rw [if_neg h2', e]
    show eRun vs xs ss (opC o :: r) _ = _
    have hn : operN (opC o).op = 2 := operN_bin ⟨h.1, h.2.1⟩
    have hl : (st ++ [(eT vs xs ss l).1] ++ [(eT vs xs ss r').1]).length - 2 = st.length := by simp
    have hd : (st ++ [(eT vs xs ss l).1] ++ [(eT vs xs ss r').1]).drop st.length = [(eT vs xs ss l).1, (eT vs xs ss r').1] := by
     rw [List.append_assoc, List.drop_left]; rfl
    have ht : (st ++ [(eT vs xs ss l).1] ++ [(eT vs xs ss r').1]).take st.length = st := by
     rw [List.append_assoc, List.take_left]
    have hm : madeE vs xs ss (opC o) [(eT vs xs ss l).1, (eT vs xs ss r').1] = joinE o (eT vs xs ss l).1 (eT vs xs ss r').1 := by
     unfold madeE; rw [hn]; rfl
    rw [eRun, hn, hl, hd, hm, ht]
   ·have e : eT vs xs ss (.bin o l r') = erV (eT vs xs ss r').2 := (if_neg h1').trans (if_pos h2)
    rw [if_pos h2, e, if_pos (show (erV (eT vs xs ss r').2).2 ≠ 0 from h2)]
    rfl
  ·have e : eT vs xs ss (.bin o l r') = erV (eT vs xs ss l).2 := if_pos h1
   rw [if_pos h1, e, if_pos (show (erV (eT vs xs ss l).2).2 ≠ 0 from h1)]
   rfl
theorem fin_eq {p : VA × Int} (h : Fin p) : (if p.2 ≠ 0 then erV p.2 else (p.1, 0)) = p := by
 rcases h with ⟨h1, _⟩ | ⟨h1, h2⟩
 ·rw [if_neg (by simp [h1]), ← h1]
 ·rw [if_pos h1, erV, ← h2]
theorem ev_tree (hx : ∀ v ∈ xs, OkV v) (hl : vs.length = xs.length) {t : T} (h : OkT t) : eRun vs xs ss (post t) [] = eT vs xs ss t := by
 have := run_eT (vs := vs) (xs := xs) (ss := ss) h [] []
 rw [List.append_nil] at this
 rw [this]
 exact fin_eq (fin_eT hx hl h)
end
end Go.Proofs.YtkjkcgbmaojpiaaGreatDoor
namespace Go.Proofs.YtkjkcgbmaojpiaaGreatDoor
open Go.RowKit
@[go_sem] theorem run_store_complex (P : Program) (w : World) (a : Addr) (m : Mode) (k : FloatKind) (x y : Nat) : (store a (.complex k x y) m).run P w = stored P w a (.complex k x y) m := run_store P w a _ m rfl
def fl (a : Int) : Nat := floatOfInt .f64 a
end Go.Proofs.YtkjkcgbmaojpiaaGreatDoor
namespace Go.Proofs.YtkjkcgbmaojpiaaGreatDoor
open Go.RowKit
theorem op_bin {o : Int} (h : 11 ≤ o ∧ o ≤ 23) : o = 11 ∨ o = 12 ∨ o = 13 ∨ o = 14 ∨ o = 15 ∨ o = 16 ∨ o = 17 ∨ o = 18 ∨ o = 19 ∨ o = 20 ∨ o = 21 ∨ o = 22 ∨ o = 23 := by omega
theorem op_un {o : Int} (h : 7 ≤ o ∧ o ≤ 10) : o = 7 ∨ o = 8 ∨ o = 9 ∨ o = 10 := by omega
theorem op_leaf {o : Int} (h : 1 ≤ o ∧ o ≤ 6) : o = 1 ∨ o = 2 ∨ o = 3 ∨ o = 4 ∨ o = 5 ∨ o = 6 := by omega
end Go.Proofs.YtkjkcgbmaojpiaaGreatDoor
namespace Go.Proofs.YtkjkcgbmaojpiaaGreatDoor
open Go.RowKit
theorem vwithin_any (n : Int) (w : World) :
  Calls Tryz.prog 161 #[.int .i64 n] w fun e w' => e = .returned (.bool (inB n)) ∧ w = w' := by
 by_cases h1 : -1048576 ≤ n
 ·by_cases h2 : n ≤ 1048576
  ·have hL : inB n = true := decide_eq_true ⟨h1, h2⟩
   rw [hL]; clear hL
   go_enter Tryz.func161, Tryz.ntmps161
   go_wp2
   go_ret
   exact ⟨rfl, rfl⟩
  ·have hL : inB n = false := decide_eq_false (fun h => h2 h.2)
   rw [hL]; clear hL
   go_enter Tryz.func161, Tryz.ntmps161
   go_wp2
   go_ret
   exact ⟨rfl, rfl⟩
 ·have hL : inB n = false := decide_eq_false (fun h => h1 h.1)
  rw [hL]; clear hL
  go_enter Tryz.func161, Tryz.ntmps161
  go_wp2
  go_ret
  exact ⟨rfl, rfl⟩
def outC (a b : Int) : Ending := if (inB a && inB b) = true then .returned (.tuple #[.complex .f64 (fl a) (fl b), .int .i64 0]) else .returned (.tuple #[.complex .f64 0 0, .int .i64 5])
theorem outC_ok {a b : Int} (h : (inB a && inB b) = true) : outC a b = .returned (.tuple #[.complex .f64 (fl a) (fl b), .int .i64 0]) := if_pos h
theorem outC_no {a b : Int} (h : ¬ (inB a && inB b) = true) : outC a b = .returned (.tuple #[.complex .f64 0 0, .int .i64 5]) := if_neg h
theorem made_any (a b : Int) (w : World) :
  Calls Tryz.prog 128 #[.int .i64 a, .int .i64 b] w fun e w' => e = outC a b ∧ w = w' := by
 by_cases h : (inB a && inB b) = true
 ·rw [outC_ok h]
  simp only [Bool.and_eq_true] at h
  obtain ⟨ha, hb⟩ := h
  go_enter Tryz.func128, Tryz.ntmps128
  go_wp2_with (go_at_call 161; refine (vwithin_any _ _).mono ?_; rintro e w' ⟨rfl, rfl⟩)
  go_ret2
  exact ⟨rfl, rfl⟩
 ·rw [outC_no h]
  cases ha : inB a
  ·clear h
   go_enter Tryz.func128, Tryz.ntmps128
   go_wp2_with (go_at_call 161; refine (vwithin_any _ _).mono ?_; rintro e w' ⟨rfl, rfl⟩)
   go_ret2
   exact ⟨rfl, rfl⟩
  ·rw [ha, Bool.true_and] at h
   simp only [Bool.not_eq_true] at h
   go_enter Tryz.func128, Tryz.ntmps128
   go_wp2_with (go_at_call 161; refine (vwithin_any _ _).mono ?_; rintro e w' ⟨rfl, rfl⟩)
   go_ret2
   exact ⟨rfl, rfl⟩
theorem outC_form (a b : Int) : ∃ c1 c2 er, outC a b = .returned (.tuple #[.complex .f64 c1 c2, .int .i64 er]) := by
 unfold outC
 split
 ·exact ⟨_, _, _, rfl⟩
 ·exact ⟨_, _, _, rfl⟩
end Go.Proofs.YtkjkcgbmaojpiaaGreatDoor
namespace Go.Proofs.YtkjkcgbmaojpiaaGreatDoor
open Go.RowKit
theorem evRight_any (v : VA) (w : World) :
  Calls Tryz.prog 90 #[.agg #[.int .i64 v.kd, .int .i64 v.a, .int .i64 v.b]] w fun e w' => e = .returned (.bool (rightV v)) ∧ Below w.heap.size w w' := by
 obtain ⟨k, a, b⟩ := v
 have HB : Hid (∀ W : World, ∀ o : Obj, Below W.heap.size W (W.alloc o)) := fun W o => (Below.refl _ _).alloc (Nat.le_refl _) o
 show Calls _ _ #[.agg #[.int .i64 k, .int .i64 a, .int .i64 b]] _ _
 by_cases h1 : k = 1
 ·subst h1
  have e : rightV ⟨1, a, b⟩ = decide (b = 0) := rfl
  rw [e]
  by_cases hb : b = 0
  ·rw [decide_eq_true hb]; subst hb
   go_enter Tryz.func90, Tryz.ntmps90
   go_wp2
   go_ret
   exact ⟨rfl, HB.out _ _⟩
  ·rw [decide_eq_false hb]; have tb := int_ne hb
   go_enter Tryz.func90, Tryz.ntmps90
   go_wp2
   go_ret
   exact ⟨rfl, HB.out _ _⟩
 ·have t1 := int_ne h1
  by_cases h2 : k = 2
  ·subst h2
   have e : rightV ⟨2, a, b⟩ = (decide (b = 0) && (decide (a = 0) || decide (a = 1))) := rfl
   rw [e]
   clear e h1
   by_cases hb : b = 0
   ·rw [decide_eq_true hb]; subst hb
    by_cases h0 : a = 0
    ·subst h0
     go_enter Tryz.func90, Tryz.ntmps90
     go_wp2
     go_ret
     exact ⟨rfl, HB.out _ _⟩
    ·rw [decide_eq_false h0]; have ta := int_ne h0
     by_cases h1 : a = 1
     ·subst h1
      go_enter Tryz.func90, Tryz.ntmps90
      go_wp2
      go_ret
      exact ⟨rfl, HB.out _ _⟩
     ·rw [decide_eq_false h1]; have ta1 := int_ne h1
      go_enter Tryz.func90, Tryz.ntmps90
      go_wp2
      go_ret
      exact ⟨rfl, HB.out _ _⟩
   ·rw [decide_eq_false hb]; have tb := int_ne hb
    go_enter Tryz.func90, Tryz.ntmps90
    go_wp2
    go_ret
    exact ⟨rfl, HB.out _ _⟩
  ·have t2 := int_ne h2
   by_cases h3 : k = 3
   ·subst h3
    have e : rightV ⟨3, a, b⟩ = (inB a && inB b) := rfl
    rw [e]
    clear e h1 h2
    obtain ⟨g1, g2, ge, hg⟩ := outC_form a b
    have HOC := Lib.hid hg
    have HA := Lib.hid (fun W => made_any a b W)
    have hge : (inB a && inB b) = (ge == 0) := by
     by_cases c : (inB a && inB b) = true
     ·rw [outC_ok c] at hg
      simp at hg
      rw [c, ← hg.2]; rfl
     ·rw [outC_no c] at hg
      simp at hg
      rw [(Bool.not_eq_true _).mp c, ← hg.2]; rfl
    rw [hge]
    clear hge hg
    go_enter Tryz.func90, Tryz.ntmps90
    go_wp2_with fail
    refine (HA.out _).mono ?_
    rintro e w' ⟨rfl, rfl⟩
    rw [HOC.out]
    go_wp2
    go_ret
    exact ⟨rfl, HB.out _ _⟩
   ·have t3 := int_ne h3
    have e : rightV ⟨k, a, b⟩ = false := by
     show (if k = 1 then _ else if k = 2 then _ else if k = 3 then _ else false) = false
     rw [if_neg h1, if_neg h2, if_neg h3]
    rw [e]
    clear e h1 h2 h3
    go_enter Tryz.func90, Tryz.ntmps90
    go_wp2
    go_ret
    exact ⟨rfl, HB.out _ _⟩
def cellsV (v : VA) : List Value := [.int .i64 v.kd, .int .i64 v.a, .int .i64 v.b]
def flatX (xs : List VA) : List Value := xs.flatMap cellsV
theorem flatX_at {xs : List VA} {i : Nat} (h : i < xs.length) {j : Nat} (hj : j < 3) : (flatX xs)[i * 3 + j]? = (cellsV xs[i])[j]? := by
 induction xs generalizing i with
 | nil => simp at h
 | cons v r ih =>
  show (cellsV v ++ flatX r)[i * 3 + j]? = _
  cases i with
  | zero => rw [List.getElem?_append_left (by simp [cellsV]; omega)]; simp
  | succ k =>
   rw [List.getElem?_append_right (by simp [cellsV]; omega)]
   have e : (k + 1) * 3 + j - (cellsV v).length = k * 3 + j := by simp [cellsV]; omega
   rw [e]
   exact ih (by simpa using h)
def RdX (w : World) (v : Value) (xs : List VA) : Prop := Inn w 3 v xs.length (flatX xs)
theorem RdX.below {w w' : World} {v : Value} {xs : List VA} (h : RdX w v xs) (hb : Below w.heap.size w w') : RdX w' v xs := Inn.below h hb
theorem RdX.form {w : World} {v : Value} {xs : List VA} (h : RdX w v xs) : ∃ A c, v = .slice A xs.length c := Inn.form h
theorem RdX.at_ {w : World} {A : Option Addr} {m c : Nat} {xs : List VA} (h : RdX w (.slice A m c) xs) {k : Nat} (hk : k < xs.length) :
  ∃ b o, A = some ⟨b, o, none⟩ ∧ b < w.heap.size ∧ w.cell? ⟨b, o + k * 3, none⟩ = some (.int .i64 xs[k].kd) ∧ w.cell? ⟨b, o + k * 3 + 1, none⟩ = some (.int .i64 xs[k].a) ∧ w.cell? ⟨b, o + k * 3 + 2, none⟩ = some (.int .i64 xs[k].b) := by
 obtain ⟨b, o, hA, hlt, hc⟩ := Inn.at_ h hk
 exact ⟨b, o, hA, hlt, hc 0 _ ((flatX_at hk (by omega)).trans rfl), hc 1 _ ((flatX_at hk (by omega)).trans rfl), hc 2 _ ((flatX_at hk (by omega)).trans rfl)⟩
end Go.Proofs.YtkjkcgbmaojpiaaGreatDoor
namespace Go.Proofs.YtkjkcgbmaojpiaaGreatDoor
open Go.RowKit Go.ChangeShapes Go.WideShapes Go.ChangeAt
section
variable {H : Type} {enc : TypeId × Value → H} {P : Program} {W : World}
theorem flat_len {size : Nat} : ∀ (rows : List (List Value)), (∀ r ∈ rows, r.length = size) → rows.flatten.length = rows.length * size
 | [], _ => by simp
 | x :: rs, h => by
  rw [List.flatten_cons, List.length_append, h x (by simp), flat_len rs (fun r hr => h r (by simp [hr]))]
  simp [Nat.succ_mul]; omega
theorem open_rows {t e : TypeId} {size n : Nat} {v : Value} {y : DataW H × List MemPlace} (ht : P.underlying t = some (.slice e)) (hC : P.cellsOf e = size) (h0 : 0 < size)
  (h : DataW.trod enc P W 0 (fun _ => true) true n t [v] = some y) :
  ∃ rows : List (List Value), Inn W size v rows.length rows.flatten ∧
   ((y.1 = .nil ∧ rows = []) ∨ ∃ es sp, y.1 = .slice es sp ∧ rows.length = es.length ∧ ∀ (i : Nat) r, rows[i]? = some r → ∃ (k : Nat) (d : DataW H) (q : List MemPlace), es[i]? = some d ∧ DataW.trod enc P W 0 (fun _ => true) true k e r = some (d, q)) ∧ ∀ A m c, v = .slice A m c → m ≤ c := by
 rcases Go.Deep.open_slice ht h with ⟨hcs, hx⟩ | ⟨a, len, cap, m, k, D, Pl, hcs, _, hl, hm, hmm, hx, hi⟩
 ·simp at hcs
  subst hcs
  exact ⟨[], Inn.nil _ _, Or.inl ⟨by rw [hx], rfl⟩, fun A m c e => by injection e; omega⟩
 ·simp at hcs
  subst hcs
  rw [if_pos rfl] at hmm
  subst hmm
  rw [hC] at hi
  have hall : ∀ q, q ≤ len → ∃ rows : List (List Value), rows.length = q ∧ (∀ (i : Nat) r, rows[i]? = some r → r.length = size ∧ DataW.trod enc P W 0 (fun _ => true) true k e r = some (D i, Pl i)) ∧ ∀ j u, rows.flatten[j]? = some u → W.cell? (a.add j) = some u := by
   intro q
   induction q with
   | zero => intro _; exact ⟨[], rfl, (by intro i r hr; simp at hr), fun j u hu => by simp at hu⟩
   | succ q ih =>
    intro hq
    obtain ⟨rows, h1, h2, h3⟩ := ih (by omega)
    obtain ⟨r, hr1, hr2⟩ := hi q (by omega)
    obtain ⟨_, hrl, hat⟩ := World.cells?_some hr1
    have hfl : rows.flatten.length = q * size := by
     rw [flat_len rows (fun r hr => by obtain ⟨i, hi'⟩ := List.getElem?_of_mem hr; exact (h2 i r hi').1), h1]
    refine ⟨rows ++ [r], by simp [h1], fun i r' hr' => ?_, fun j u hu => ?_⟩
    ·by_cases hi' : i < rows.length
     ·rw [List.getElem?_append_left hi'] at hr'
      exact h2 i r' hr'
     ·rw [List.getElem?_append_right (by omega)] at hr'
      have h0 : i - rows.length = 0 := by
       have := (List.getElem?_eq_some_iff.1 hr').1
       simp at this; omega
      rw [h0] at hr'
      simp at hr'
      subst hr'
      have : i = q := by omega
      subst this
      exact ⟨hrl, hr2⟩
    ·rw [List.flatten_append] at hu
     by_cases hj : j < q * size
     ·rw [List.getElem?_append_left (by omega)] at hu
      exact h3 j u hu
     ·rw [List.getElem?_append_right (by omega), hfl] at hu
      simp only [List.flatten_cons, List.flatten_nil, List.append_nil] at hu
      have hjl := (List.getElem?_eq_some_iff.1 hu).1
      have h4 := hat (j - q * size) (by omega)
      rw [Go.Deep.add_add, hu] at h4
      rw [show q * size + (j - q * size) = j by omega] at h4
      exact h4
  obtain ⟨rows, h1, h2, h3⟩ := hall len (Nat.le_refl _)
  have hfl : rows.flatten.length = len * size := by
   rw [flat_len rows (fun r hr => by obtain ⟨i, hi'⟩ := List.getElem?_of_mem hr; exact (h2 i r hi').1), h1]
  refine ⟨rows, Or.inr ⟨a, m, by rw [h1], by rw [hfl, h1], fun hn => ?_⟩, Or.inr ⟨_, _, by rw [hx], by simp [h1], fun i r hr => ?_⟩, fun A q c e => by injection e; omega⟩
  ·rw [h1] at hn
   have hlt : 0 < rows.flatten.length := by rw [hfl]; exact Nat.mul_pos hn h0
   have hc0 := h3 0 _ (List.getElem?_eq_getElem hlt)
   obtain ⟨bl, off, spot⟩ := a
   have hc0' : W.cell? ⟨bl, off, spot⟩ = some (rows.flatten[0]'hlt) := by simpa [Addr.add] using hc0
   have := Go.Proofs.cell_spot hc0'
   subst this
   exact ⟨bl, off, rfl, cell_lt hc0', fun j u hu => by have := h3 j u hu; rw [add_lit'] at this; exact this⟩
  ·have hil : i < len := by rw [← h1]; exact (List.getElem?_eq_some_iff.1 hr).1
   exact ⟨k, D i, Pl i, by simp [hil], (h2 i r hr).2⟩
theorem rows_at {α : Type} (f : α → List Value) (q : Nat → α → Prop) : ∀ (rows : List (List Value)) (o : Nat), (∀ (i : Nat) r, rows[i]? = some r → ∃ a, r = f a ∧ q (o + i) a) → ∃ l : List α, rows = l.map f ∧ ∀ (i : Nat) a, l[i]? = some a → q (o + i) a
 | [], _, _ => ⟨[], rfl, fun i a h => by simp at h⟩
 | r :: rs, o, h => by
  obtain ⟨a, ha, hq⟩ := h 0 r rfl
  obtain ⟨l, hl, hql⟩ := rows_at f q rs (o + 1) (fun i r hr => by
   obtain ⟨a, h1, h2⟩ := h (i + 1) r hr
   exact ⟨a, h1, by rw [show o + 1 + i = o + (i + 1) by omega]; exact h2⟩)
  refine ⟨a :: l, by rw [ha, hl]; rfl, fun i b hb => ?_⟩
  cases i with
  | zero => simp at hb; subst hb; exact hq
  | succ i => have := hql i b (by simpa using hb); rw [show o + (i + 1) = o + 1 + i by omega]; exact this
theorem weights_all {e : TypeId} : ∀ (es : List (DataW H)) (i : Nat) (d : DataW H), es[i]? = some d → ∀ x ∈ d.weights P e, x ∈ DataW.weightsAll P e es
 | [], i, d, h, _, _ => by simp at h
 | d0 :: r, 0, d, h, x, hx => by
  simp at h; subst h
  simp only [DataW.weightsAll, List.mem_append]; exact Or.inl hx
 | d0 :: r, i + 1, d, h, x, hx => by
  simp only [DataW.weightsAll, List.mem_append]
  exact Or.inr (weights_all r i d (by simpa using h) x hx)
end
end Go.Proofs.YtkjkcgbmaojpiaaGreatDoor
namespace Go.Proofs.YtkjkcgbmaojpiaaGreatDoor
open Go.RowKit
def eventB (l : List UInt8) : Bool := nameB (Lib.trimPrefix l [100, 111, 110, 101, 46])
theorem event_any (s : ByteArray) (w : World) :
  Calls Tryz.prog 111 #[.string s] w fun e w' => e = .returned (.bool (eventB s.data.toList)) ∧ w = w' := by
 go_enter Tryz.func111, Tryz.ntmps111
 go_wp2_with fail
 refine (Tryz.strings_TrimPrefix s ⟨#[100, 111, 110, 101, 46]⟩ w).mono ?_
 rintro e w' ⟨rfl, rfl⟩
 go_wp2_with fail
 refine (name_any _ _).mono ?_
 rintro e w' ⟨rfl, rfl⟩
 go_wp2
 go_ret
 exact ⟨rfl, rfl⟩
end Go.Proofs.YtkjkcgbmaojpiaaGreatDoor
namespace Go.Proofs.YtkjkcgbmaojpiaaGreatDoor
structure AM where
 kd : Int
 nm : List UInt8
 ex : List CM
def isIn (c : CM) : Bool := decide (c.op = 6)
def asksB (cs : List CM) : Bool := cs.any isIn
def oneB (a : AM) : Bool :=
 if a.kd = 1 then nameB a.nm && rightB a.ex && !asksB a.ex else if a.kd = 2 ∨ a.kd = 3 then eventB a.nm && decide (a.ex.length = 0) else false
def rightA (l : List AM) : Bool := decide (1 ≤ l.length ∧ l.length ≤ 8) && l.all oneB
def wRaise : List UInt8 := [114, 97, 105, 115, 101, 58]
def wSend : List UInt8 := [115, 101, 110, 100, 58]
def semis : List UInt8 → List (List UInt8)
 | [] => [[]]
 | c :: r => if c = 59 then [] :: semis r else match semis r with
  | [] => [[c]]
  | p :: ps => (c :: p) :: ps
def readA (s : List UInt8) : AM :=
 if Lib.hasPrefix s wRaise = true then ⟨2, s.drop 6, []⟩ else if Lib.hasPrefix s wSend = true then ⟨3, s.drop 5, []⟩ else ⟨1, (Lib.cut s [61]).1, (parseP (Lib.cut s [61]).2.1).1⟩
def parseA (s : List UInt8) : List AM × Int :=
 if 6000 < s.length ∨ 8 ≤ Lib.countByte s 59 then ([], 4) else if ((semis s).map readA).all oneB = true then ((semis s).map readA, 0) else ([], 1)
theorem at_index : ∀ {s : List UInt8} {c : UInt8} {i : Nat}, Lib.indexByte s c = i → s = s.take i ++ c :: s.drop (i + 1) ∧ ∀ x ∈ s.take i, x ≠ c
 | [], c, i, h => by simp [Lib.indexByte] at h
 | b :: l, c, i, h => by
  unfold Lib.indexByte at h
  split at h
  ·rename_i hb
   have : i = 0 := by omega
   subst this
   have := beq_iff_eq.1 hb
   subst this
   exact ⟨rfl, by simp⟩
  ·rename_i hb
   split at h
   ·omega
   ·rename_i hn
    have hg := Lib.indexByte_ge l c
    have hn' : Lib.indexByte l c ≠ -1 := fun e => hn (by rw [e]; rfl)
    obtain ⟨k, hk⟩ : ∃ k : Nat, Lib.indexByte l c = k := ⟨(Lib.indexByte l c).toNat, by omega⟩
    have : i = k + 1 := by omega
    subst this
    obtain ⟨h1, h2⟩ := at_index hk
    refine ⟨?_, ?_⟩
    ·show b :: l = b :: (l.take k ++ c :: l.drop (k + 1))
     rw [← h1]
    ·intro x hx
     rw [List.take_succ_cons] at hx
     rcases List.mem_cons.1 hx with rfl | hx
     ·intro e; subst e; exact hb (by simp)
     ·exact h2 x hx
theorem index_no : ∀ {s : List UInt8} {c : UInt8}, Lib.indexByte s c = -1 → ∀ x ∈ s, x ≠ c
 | [], c, h => by simp
 | b :: l, c, h => by
  unfold Lib.indexByte at h
  split at h
  ·omega
  ·rename_i hb
   split at h
   ·rename_i hn
    have hn := beq_iff_eq.1 hn
    intro x hx
    rcases List.mem_cons.1 hx with rfl | hx
    ·intro e; subst e; exact hb (by simp)
    ·exact index_no hn x hx
   ·have := Lib.indexByte_ge l c; omega
end Go.Proofs.YtkjkcgbmaojpiaaGreatDoor
