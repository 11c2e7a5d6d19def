/- Own texts, joined: Kb, Kq, Ip, Va, Fl, Vf. -/
import Derived.Test.YtjjoffadieoaaaaGreatDoorB2
import Derived.Test.YtjjoffadieoaaaaGreatDoorB12
import Derived.WalkLawsBesides
import Derived.KernelRfl
import Derived.Laws.ComplexArith
namespace Go.Proofs.YtjjoffadieoaaaaGreatDoor
open Go.RowKit

/-- a variable's seven places in memory; a list's -/
def varV (v : VM) : List Value := [bstr v.nm, .int .i64 v.kd, .int .i64 v.lo, .int .i64 v.hi, .int .i64 v.ik, .int .i64 v.ia, .int .i64 v.ib]
def flatV (vs : List VM) : List Value := vs.flatMap varV
theorem flatV_at {vs : List VM} {i : Nat} (h : i < vs.length) {j : Nat} (hj : j < 7) : (flatV vs)[i * 7 + j]? = (varV vs[i])[j]? := by
  induction vs generalizing i with
  | nil => simp at h
  | cons v r ih =>
    show (varV v ++ flatV r)[i * 7 + j]? = _
    cases i with
    | zero => rw [List.getElem?_append_left (by simp [varV]; omega)]; simp
    | succ k =>
      rw [List.getElem?_append_right (by simp [varV]; omega)]
      have e : (k + 1) * 7 + j - (varV v).length = k * 7 + j := by simp [varV]; omega
      rw [e]
      exact ih (by simpa using h)
/-- a slice that reads as a list of variables, of names -/
def RdV (w : World) (v : Value) (vs : List VM) : Prop := Inn w 7 v vs.length (flatV vs)
def RdW (w : World) (v : Value) (xs : List (List UInt8)) : Prop := Inn w 1 v xs.length (xs.map bstr)
theorem RdV.below {w w' : World} {v : Value} {vs : List VM} (h : RdV w v vs) (hb : Below w.heap.size w w') : RdV w' v vs := Inn.below h hb
theorem RdW.below {w w' : World} {v : Value} {xs : List (List UInt8)} (h : RdW w v xs) (hb : Below w.heap.size w w') : RdW w' v xs := Inn.below h hb
theorem RdV.at_ {w : World} {A : Option Addr} {m c : Nat} {vs : List VM} (h : RdV w (.slice A m c) vs) {k : Nat} (hk : k < vs.length) :
    ∃ b o, A = some ⟨b, o, none⟩ ∧ b < w.heap.size ∧ w.cell? ⟨b, o + k * 7, none⟩ = some (bstr vs[k].nm) ∧ w.cell? ⟨b, o + k * 7 + 1, none⟩ = some (.int .i64 vs[k].kd) ∧ w.cell? ⟨b, o + k * 7 + 2, none⟩ = some (.int .i64 vs[k].lo) ∧
      w.cell? ⟨b, o + k * 7 + 3, none⟩ = some (.int .i64 vs[k].hi) ∧ w.cell? ⟨b, o + k * 7 + 4, none⟩ = some (.int .i64 vs[k].ik) ∧ w.cell? ⟨b, o + k * 7 + 5, none⟩ = some (.int .i64 vs[k].ia) ∧ w.cell? ⟨b, o + k * 7 + 6, none⟩ = some (.int .i64 vs[k].ib) := by
  obtain ⟨b, o, hA, hlt, hc⟩ := Inn.at_ h hk
  exact ⟨b, o, hA, hlt, hc 0 _ ((flatV_at hk (by omega)).trans rfl), hc 1 _ ((flatV_at hk (by omega)).trans rfl), hc 2 _ ((flatV_at hk (by omega)).trans rfl), hc 3 _ ((flatV_at hk (by omega)).trans rfl), hc 4 _ ((flatV_at hk (by omega)).trans rfl), hc 5 _ ((flatV_at hk (by omega)).trans rfl), hc 6 _ ((flatV_at hk (by omega)).trans rfl)⟩
theorem RdW.at_ {w : World} {A : Option Addr} {m c : Nat} {xs : List (List UInt8)} (h : RdW w (.slice A m c) xs) {k : Nat} (hk : k < xs.length) :
    ∃ b o, A = some ⟨b, o, none⟩ ∧ b < w.heap.size ∧ w.cell? ⟨b, o + k, none⟩ = some (bstr xs[k]) := by
  obtain ⟨b, o, hA, hlt, hc⟩ := Inn.at_ h hk
  have := hc 0 (bstr xs[k]) (by simp [hk])
  exact ⟨b, o, hA, hlt, by simpa using this⟩
theorem RdV.form {w : World} {v : Value} {vs : List VM} (h : RdV w v vs) : ∃ A c, v = .slice A vs.length c := Inn.form h
theorem RdW.form {w : World} {v : Value} {xs : List (List UInt8)} (h : RdW w v xs) : ∃ A c, v = .slice A xs.length c := Inn.form h
end Go.Proofs.YtjjoffadieoaaaaGreatDoor
namespace Go.Proofs.YtjjoffadieoaaaaGreatDoor
open Go.RowKit Go.ChangeShapes Go.WideShapes Go.ChangeAt

theorem cellsCell : Tryz.prog.cellsOf 93 = 3 := by kernel_rfl
theorem bytesCell : Tryz.prog.bytesOf 93 = 32 := by kernel_rfl
theorem cellsI : Tryz.prog.cellsOf 3 = 1 := by kernel_rfl
theorem cellsI64 : Tryz.prog.cellsOf 2 = 1 := by kernel_rfl
theorem cellsS : Tryz.prog.cellsOf 9 = 1 := by kernel_rfl
section
variable {H : Type} {enc : TypeId × Value → H} {W : World} {base : Nat} {sp : Nat → Bool} {held : Bool} {fuel : Nat} {cs : List Value}

set_option maxRecDepth 100000 in
theorem cell_struct {x : DataW H × List MemPlace} (h : DataW.trod enc Tryz.prog W base sp held fuel 93 cs = some x) : ∃ (o a : Int) (s : ByteArray), cs = [.int .i64 o, .int .i64 a, .string s] ∧ s.size ≤ maxLen := by
  obtain ⟨xs, n, rfl, _, hl, hxl, hf⟩ := DataW.trod_struct Tryz.underlying93 h
  rw [cellsCell] at hl
  match cs, hl with
  | [u0, u1, u2], _ =>
    have e0 : DataW.trod enc Tryz.prog W base sp held n 3 (([u0, u1, u2].drop 0).take (Tryz.prog.cellsOf 3)) = xs[0]? := hf 0 _ rfl
    have e1 : DataW.trod enc Tryz.prog W base sp held n 2 (([u0, u1, u2].drop 1).take (Tryz.prog.cellsOf 2)) = xs[1]? := hf 1 _ rfl
    have e2 : DataW.trod enc Tryz.prog W base sp held n 9 (([u0, u1, u2].drop 2).take (Tryz.prog.cellsOf 9)) = xs[2]? := hf 2 _ rfl
    have hx3 : xs.length = 3 := hxl
    rw [cellsI, List.getElem?_eq_getElem (by omega)] at e0
    rw [cellsI64, List.getElem?_eq_getElem (by omega)] at e1
    rw [cellsS, List.getElem?_eq_getElem (by omega)] at e2
    obtain ⟨o, h0, _, _⟩ := DataW.trod_int Tryz.underlying3 e0
    obtain ⟨a, h1, _, _⟩ := DataW.trod_int Tryz.underlying2 e1
    obtain ⟨s, h2, _, hs⟩ := DataW.trod_string Tryz.underlying9 e2
    simp at h0 h1 h2
    exact ⟨o, a, s, by rw [h0, h1, h2], hs⟩


end

theorem rows_of {α : Type} (f : α → List Value) (q : α → Prop) : ∀ rows : List (List Value), (∀ r ∈ rows, ∃ a, r = f a ∧ q a) → ∃ l : List α, rows = l.map f ∧ ∀ a ∈ l, q a
  | [], _ => ⟨[], rfl, fun _ h => by cases h⟩
  | r :: rs, h => by
    obtain ⟨a, ha, hq⟩ := h r (by simp)
    obtain ⟨l, hl, hql⟩ := rows_of f q rs (fun r hr => h r (by simp [hr]))
    refine ⟨a :: l, by rw [ha, hl]; rfl, fun b hb => ?_⟩
    rcases List.mem_cons.1 hb with rfl | hb
    · exact hq
    · exact hql b hb
theorem inn_rdI {w : World} {v : Value} {cs : List CM} (h : Inn w 3 v cs.length (flat cs)) : RdI w v cs := by
  rcases h with ⟨rfl, h1, _⟩ | ⟨ad, c, rfl, _, h⟩
  · exact Or.inl ⟨rfl, List.eq_nil_of_length_eq_zero h1⟩
  · refine Or.inr ⟨ad, c, rfl, some ad, c, rfl, fun i hi => ?_⟩
    obtain ⟨b, o, rfl, _, hc⟩ := h (by omega)
    obtain ⟨f0, f1, f2⟩ := flat_at hi
    refine ⟨b, o, rfl, hc _ _ f0, ?_, ?_⟩
    · rw [Nat.add_assoc]; exact hc _ _ f1
    · rw [Nat.add_assoc]; exact hc _ _ f2

section
variable {H : Type} {enc : TypeId × Value → H} {W : World} {n : Nat} {v : Value} {y : DataW H × List MemPlace}
theorem cells_in (h : DataW.trod enc Tryz.prog W 0 (fun _ => true) true n 57 [v] = some y) :
    ∃ cs, RdI W v cs ∧ Names cs ∧ ((y.1 = .nil ∧ cs = []) ∨ ∃ es sp, y.1 = .slice es sp ∧ cs.length = es.length) ∧ ∀ A m c, v = .slice A m c → m ≤ c := by
  obtain ⟨rows, h1, h2, h3, h4⟩ := open_inn Tryz.underlying57 cellsCell (by decide) h
  obtain ⟨cs, rfl, hq⟩ := rows_of cellV (fun c : CM => c.nm.length ≤ 9223372036854775807) rows (fun r hr => by
    obtain ⟨_, k, x, hx⟩ := h2 r hr
    obtain ⟨o, a, s, rfl, hs⟩ := cell_struct hx
    exact ⟨⟨o, a, s.data.toList⟩, rfl, by show s.data.toList.length ≤ _; rw [sz0]; unfold maxLen at hs; exact hs⟩)
  have hf : (cs.map cellV).flatten = flat cs := by simp [flat, List.flatMap_def]
  rw [hf, List.length_map] at h1
  refine ⟨cs, inn_rdI h1, hq, ?_, h4⟩
  rcases h3 with ⟨e1, e2⟩ | ⟨es, sp, e1, e2⟩
  · exact Or.inl ⟨e1, List.map_eq_nil_iff.1 e2⟩
  · exact Or.inr ⟨es, sp, e1, by rw [← e2, List.length_map]⟩
end

end Go.Proofs.YtjjoffadieoaaaaGreatDoor
namespace Go.Proofs.YtjjoffadieoaaaaGreatDoor
open Go.RowKit

/-- the place of the first that p holds of; -1: of none -/
def ixP {α : Type} (p : α → Bool) : List α → Nat → Int
  | [], _ => -1
  | x :: r, i => if p x = true then i else ixP p r (i + 1)
theorem ix_step {α : Type} {p : α → Bool} {l : List α} {k : Nat} (hk : k < l.length) : ixP p (l.drop k) k = if p l[k] = true then (k : Int) else ixP p (l.drop (k + 1)) (k + 1) := by
  rw [List.drop_eq_getElem_cons hk]; rfl
theorem ix_end {α : Type} {p : α → Bool} {l : List α} {k : Nat} (hk : ¬ k < l.length) : ixP p (l.drop k) k = -1 := by
  rw [List.drop_of_length_le (by omega)]; rfl
theorem ix_find {α : Type} (p : α → Bool) : ∀ (l : List α) (i : Nat), (ixP p l i = -1 ∧ l.find? p = none) ∨ ∃ j, ∃ h : j < l.length, ixP p l i = ((i + j : Nat) : Int) ∧ l.find? p = some l[j]
  | [], i => Or.inl ⟨rfl, rfl⟩
  | x :: r, i => by
    by_cases hx : p x = true
    · refine Or.inr ⟨0, by simp, ?_, ?_⟩
      · unfold ixP; rw [if_pos hx]; rfl
      · simp [hx]
    · have e1 : ixP p (x :: r) i = ixP p r (i + 1) := if_neg hx
      have e2 : (x :: r).find? p = r.find? p := by simp [hx]
      rw [e1, e2]
      rcases ix_find p r (i + 1) with h | ⟨j, hj, h1, h2⟩
      · exact Or.inl h
      · exact Or.inr ⟨j + 1, by simp; omega, by rw [h1]; congr 1; omega, by rw [h2]; rfl⟩
def isN (n : List UInt8) (x : List UInt8) : Bool := decide (x = n)
theorem ix_mem (l : List (List UInt8)) (n : List UInt8) : decide (0 ≤ ixP (isN n) l 0) = decide (n ∈ l) := by
  rcases ix_find (isN n) l 0 with ⟨h1, h2⟩ | ⟨j, hj, h1, h2⟩
  · rw [h1]
    have : n ∉ l := by
      intro hm
      have := List.find?_eq_none.1 h2 n hm
      simp [isN] at this
    simp [this]
  · rw [h1]
    have := List.find?_some h2
    simp [isN] at this
    have hm : n ∈ l := by rw [← this]; exact List.getElem_mem _
    simp [hm]
theorem ix_range {α : Type} (p : α → Bool) (l : List α) : ixP p l 0 = -1 ∨ (0 ≤ ixP p l 0 ∧ ixP p l 0 < l.length) := by
  rcases ix_find p l 0 with ⟨h1, h2⟩ | ⟨j, hj, h1, h2⟩
  · exact Or.inl h1
  · right; rw [h1]; omega

/-- a string's bytes, as the walk compares them -/
theorem str_ne {X Y : ByteArray} (h : X.data.toList ≠ Y.data.toList) : (X.toList == Y.toList) = false := by
  rw [Lib.toList_data, Lib.toList_data]; exact beq_eq_false_iff_ne.2 h
theorem str_eq {X Y : ByteArray} (h : X.data.toList = Y.data.toList) : X = Y := by apply ByteArray.ext; exact Array.toList_inj.1 h
theorem bstr_some (l : List UInt8) : ∃ X : ByteArray, bstr l = .string X ∧ X.data.toList = l := ⟨⟨l.toArray⟩, rfl, rfl⟩

set_option maxHeartbeats 1000000 in
theorem strIndex_any (v : Value) (xs : List (List UInt8)) (N : ByteArray) (w : World) (hR : RdW w v xs) (hl : xs.length ≤ 9223372036854775807) :
    Calls Tryz.prog 167 #[v, .string N] w fun e w' => e = .returned (.int .i64 (ixP (isN N.data.toList) xs 0)) ∧ w = w' := by
  obtain ⟨A, c, rfl⟩ := hR.form
  have HR := Lib.hid hR; clear hR
  obtain ⟨n, hn⟩ : ∃ n, xs.length = n := ⟨_, rfl⟩
  have HN := Lib.hid hn
  rw [hn] at hl HR ⊢
  clear hn
  go_enter Tryz.func167, Tryz.ntmps167
  go_wp2
  go_loop [4, 5, 8] (fun x4 x5 i => x4 = .int .i64 0 ∧ (x5 = .int .i64 0 ∨ True) ∧ ∃ k : Nat, k ≤ n ∧ i = .int .i64 k ∧ Hid (ixP (isN N.data.toList) (xs.drop k) k = ixP (isN N.data.toList) xs 0)) (fun _ _ i => n - (intOf i).toNat)
  case atStart => exact ⟨rfl, Or.inr trivial, 0, by omega, rfl, rfl⟩
  case round =>
    obtain ⟨rfl, _, k, hk, rfl, HI⟩ := hrel
    by_cases hkn : k < n
    · obtain ⟨b, o, rfl, _, hc⟩ := HR.out.at_ (k := k) (by rw [HN.out]; exact hkn)
      have hst := ix_step (p := isN N.data.toList) (l := xs) (k := k) (by rw [HN.out]; exact hkn)
      rw [HI.out] at hst
      obtain ⟨X, hX, hXl⟩ := bstr_some (xs[k]'(by rw [HN.out]; exact hkn))
      rw [hX] at hc
      rw [← hXl] at hst
      clear hX hXl
      by_cases he : X.data.toList = N.data.toList
      · obtain rfl := str_eq he
        have hr : ixP (isN X.data.toList) xs 0 = k := by rw [hst, if_pos (by simp [isN])]
        have HRR := Lib.hid hr
        clear hst hr he HI
        go_wp2
        go_ret
        exact ⟨ret_int HRR.out.symm, rfl⟩
      · have hr : ixP (isN N.data.toList) (xs.drop (k + 1)) (k + 1) = ixP (isN N.data.toList) xs 0 := by rw [hst, if_neg (by simp [isN, he])]
        have HRR := Lib.hid hr
        have hne := str_ne he
        have hne' := str_ne (Ne.symm he)
        clear hst hr he HI
        go_wp2
        go_round
        case rel => exact ⟨rfl, Or.inr trivial, k + 1, by omega, by go_num, HRR.out⟩
        case measure => simp [intOf]; omega
    · have hr : ixP (isN N.data.toList) xs 0 = -1 := by rw [← HI.out, ix_end (by rw [HN.out]; exact hkn)]
      have HRR := Lib.hid hr
      clear hr HI
      go_wp2
      go_ret
      exact ⟨ret_int HRR.out.symm, rfl⟩

theorem strContains_any (v : Value) (xs : List (List UInt8)) (N : ByteArray) (w : World) (hR : RdW w v xs) (hl : xs.length ≤ 9223372036854775807) :
    Calls Tryz.prog 144 #[v, .string N] w fun e w' => e = .returned (.bool (decide (N.data.toList ∈ xs))) ∧ w = w' := by
  have HI := Lib.hid (strIndex_any v xs N w hR hl)
  have HM := Lib.hid (ix_mem xs N.data.toList)
  clear hR
  go_enter Tryz.func144, Tryz.ntmps144
  go_wp2_with fail
  refine HI.out.mono ?_
  rintro e w1 ⟨rfl, rfl⟩
  go_wp2
  go_ret
  exact ⟨ret_bool HM.out, rfl⟩

end Go.Proofs.YtjjoffadieoaaaaGreatDoor
namespace Go.Proofs.YtjjoffadieoaaaaGreatDoor

/-- a value -/
structure VA where
  kd : Int
  a : Int
  b : Int

def inB (n : Int) : Bool := decide (-1048576 ≤ n ∧ n ≤ 1048576)
theorem inB_iff {n : Int} : inB n = true ↔ -1048576 ≤ n ∧ n ≤ 1048576 := decide_eq_true_iff
def inL (n : Int) : Bool := decide (-9223372036854775808 ≤ n ∧ n ≤ 9223372036854775807)
theorem inL_iff {n : Int} : inL n = true ↔ -9223372036854775808 ≤ n ∧ n ≤ 9223372036854775807 := decide_eq_true_iff

def rightV (v : VA) : Bool :=
  if v.kd = 1 then decide (v.b = 0) else if v.kd = 2 then decide (v.b = 0) && (decide (v.a = 0) || decide (v.a = 1)) else if v.kd = 3 then inB v.a && inB v.b else false

/-- a value and the error -/
def VA.zero : VA := ⟨0, 0, 0⟩
def erV (e : Int) : VA × Int := (VA.zero, e)
def numV (n : Int) : VA := ⟨1, n, 0⟩
def numE (n : Int) : VA × Int := if inL n = true then (numV n, 0) else erV 7
def truV (b : Bool) : VA := ⟨2, if b = true then 1 else 0, 0⟩
def ptV (a b : Int) : VA := ⟨3, a, b⟩
def ptE (a b : Int) : VA × Int := if (inB a && inB b) = true then (ptV a b, 0) else erV 5

def isV (n : List UInt8) (v : VM) : Bool := decide (v.nm = n)
def varE (vs : List VM) (xs : List VA) (n : List UInt8) : VA × Int :=
  if ixP (isV n) vs 0 < 0 then erV 2 else (xs.getD (ixP (isV n) vs 0).toNat VA.zero, 0)

def leafE (vs : List VM) (xs : List VA) (ss : List (List UInt8)) (c : CM) : VA × Int :=
  if c.op = 1 then (numV c.a, 0) else if c.op = 2 then (ptV 0 c.a, 0) else if c.op = 5 then varE vs xs c.nm else if c.op = 6 then (truV (decide (c.nm ∈ ss)), 0) else (truV (decide (c.op = 3)), 0)

def unE (o : Int) (v : VA) : VA × Int :=
  if o = 7 then (if v.kd = 1 then numE (-v.a) else if v.kd = 3 then (ptV (-v.a) (-v.b), 0) else erV 8)
  else if o = 8 then (if v.kd = 2 then (truV (decide (v.a = 0)), 0) else erV 8)
  else if o = 9 then (if v.kd = 3 then (numV v.a, 0) else erV 8)
  else (if v.kd = 3 then (numV v.b, 0) else erV 8)

def numbersE (o a b : Int) : VA × Int :=
  if o = 11 then numE (a + b) else if o = 12 then numE (a - b) else if o = 13 then numE (a * b)
  else if o = 14 then (if b = 0 then erV 6 else numE (a.tdiv b))
  else if o = 15 then (if b = 0 then erV 6 else (numV (a.tmod b), 0))
  else if o = 18 then (truV (decide (a < b)), 0) else if o = 19 then (truV (decide (a ≤ b)), 0)
  else if o = 20 then (truV (decide (b < a)), 0) else if o = 21 then (truV (decide (b ≤ a)), 0) else erV 8
def truthsE (o : Int) (a b : Bool) : VA × Int := if o = 22 then (truV (a && b), 0) else if o = 23 then (truV (a || b), 0) else erV 8
def pointsE (o a b c d : Int) : VA × Int :=
  if o = 11 then ptE (a + c) (b + d) else if o = 12 then ptE (a - c) (b - d) else if o = 13 then ptE (a * c - b * d) (a * d + b * c) else erV 8

def joinE (o : Int) (x y : VA) : VA × Int :=
  if x.kd ≠ y.kd then erV 8
  else if o = 16 then (truV (decide (x.a = y.a ∧ x.b = y.b)), 0)
  else if o = 17 then (truV (!decide (x.a = y.a ∧ x.b = y.b)), 0)
  else if x.kd = 1 then numbersE o x.a y.a
  else if x.kd = 2 then truthsE o (decide (x.a = 1)) (decide (y.a = 1))
  else pointsE o x.a x.b y.a y.b

/-- right, and of 64 bits -/
def OkV (v : VA) : Prop := rightV v = true ∧ inL v.a = true

theorem ok_num {n : Int} (h : inL n = true) : OkV (numV n) := ⟨rfl, h⟩
theorem ok_tru (b : Bool) : OkV (truV b) := by cases b <;> exact ⟨rfl, rfl⟩
theorem ok_pt {a b : Int} (h : (inB a && inB b) = true) : OkV (ptV a b) := by
  refine ⟨h, ?_⟩
  simp only [Bool.and_eq_true, inB_iff] at h
  exact inL_iff.2 (by show -9223372036854775808 ≤ a ∧ a ≤ 9223372036854775807; omega)
/-- how a value and an error stand to each other -/
def Fin (p : VA × Int) : Prop := (p.2 = 0 ∧ OkV p.1) ∨ (p.2 ≠ 0 ∧ p.1 = VA.zero)
theorem fin_er {e : Int} (h : e ≠ 0) : Fin (erV e) := Or.inr ⟨h, rfl⟩
theorem fin_ok {v : VA} (h : OkV v) : Fin (v, 0) := Or.inl ⟨rfl, h⟩
theorem fin_num (n : Int) : Fin (numE n) := by
  unfold numE
  split
  · exact fin_ok (ok_num (by assumption))
  · exact fin_er (by decide)
theorem fin_pt (a b : Int) : Fin (ptE a b) := by
  unfold ptE
  split
  · exact fin_ok (ok_pt (by assumption))
  · exact fin_er (by decide)
theorem tmod_in {a b : Int} (h : inL a = true) : inL (a.tmod b) = true := by
  rw [inL_iff] at *
  have h1 := Int.natAbs_tmod a b
  by_cases hb : b = 0
  · subst hb; rw [Int.tmod_zero]; exact h
  · have h2 : a.natAbs % b.natAbs ≤ a.natAbs := Nat.mod_le _ _
    rcases Int.lt_or_le a 0 with hn | hn
    · have h3 : a.tmod b ≤ 0 := by
        have := Int.tmod_nonneg (-b) (a := -a) (by omega)
        rw [Int.neg_tmod, Int.tmod_neg] at this; omega
      omega
    · have := Int.tmod_nonneg b (a := a) hn
      omega

section
variable {vs : List VM} {xs : List VA} {ss : List (List UInt8)}
theorem fin_var (hx : ∀ v ∈ xs, OkV v) (hl : vs.length = xs.length) (n : List UInt8) : Fin (varE vs xs n) := by
  unfold varE
  rcases ix_find (isV n) vs 0 with ⟨h, _⟩ | ⟨j, hj, h, _⟩
  · rw [h, if_pos (by decide)]; exact fin_er (by decide)
  · rw [h, if_neg (by omega)]
    have e : ((0 + j : Nat) : Int).toNat = j := by omega
    rw [e]
    have : j < xs.length := by omega
    rw [List.getD_eq_getElem?_getD, List.getElem?_eq_getElem this]
    exact fin_ok (hx _ (List.getElem_mem _))
theorem fin_leaf (hx : ∀ v ∈ xs, OkV v) (hl : vs.length = xs.length) {c : CM} (hc : formedB c = true) : Fin (leafE vs xs ss c) := by
  unfold leafE
  unfold formedB at hc
  by_cases h1 : c.op = 1
  · rw [if_pos h1] at hc ⊢
    simp at hc
    exact fin_ok (ok_num (inL_iff.2 (by omega)))
  · rw [if_neg h1] at hc ⊢
    by_cases h2 : c.op = 2
    · rw [if_pos h2] at hc ⊢
      simp at hc
      exact fin_ok (ok_pt (by simp only [Bool.and_eq_true, inB_iff]; omega))
    · rw [if_neg h2]
      split
      · exact fin_var hx hl _
      · split
        · exact fin_ok (ok_tru _)
        · exact fin_ok (ok_tru _)
theorem fin_un {o : Int} {v : VA} (hv : OkV v) : Fin (unE o v) := by
  obtain ⟨h1, h2⟩ := hv
  unfold unE
  have h3 : v.kd = 3 → inB v.a = true ∧ inB v.b = true := fun h => by
    unfold rightV at h1
    rw [h] at h1
    simpa using h1
  repeat' split
  all_goals first
    | exact fin_num _
    | exact fin_er (by decide)
    | exact fin_ok (ok_tru _)
    | skip
  · obtain ⟨h4, h5⟩ := h3 (by assumption)
    refine fin_ok (ok_pt ?_)
    simp only [Bool.and_eq_true, inB_iff] at *
    omega
  · exact fin_ok (ok_num h2)
  · obtain ⟨h4, h5⟩ := h3 (by assumption)
    refine fin_ok (ok_num ?_)
    rw [inB_iff] at h5
    exact inL_iff.2 (by omega)
theorem fin_ite {c : Prop} [Decidable c] {a b : VA × Int} (h1 : Fin a) (h2 : Fin b) : Fin (if c then a else b) := by
  by_cases h : c
  · rw [if_pos h]; exact h1
  · rw [if_neg h]; exact h2
theorem fin_join {o : Int} {x y : VA} (hx : OkV x) : Fin (joinE o x y) := by
  unfold joinE numbersE truthsE pointsE
  repeat' first | exact fin_num _ | exact fin_pt _ _ | refine fin_ite ?_ ?_
  all_goals first
    | exact fin_num _
    | exact fin_pt _ _
    | exact fin_er (by decide)
    | exact fin_ok (ok_tru _)
    | exact fin_ok (ok_num (tmod_in hx.2))
end

section
variable (vs : List VM) (xs : List VA) (ss : List (List UInt8))

def eT : T → VA × Int
  | .leaf c => leafE vs xs ss c
  | .un o t => if (eT t).2 ≠ 0 then erV (eT t).2 else unE o (eT t).1
  | .bin o l r => if (eT l).2 ≠ 0 then erV (eT l).2 else if (eT r).2 ≠ 0 then erV (eT r).2 else joinE o (eT l).1 (eT r).1

/-- what a cell makes of its operands -/
def madeE (c : CM) (st : List VA) : VA × Int :=
  match operN c.op with
  | 0 => leafE vs xs ss c
  | 1 => unE c.op (st.headD VA.zero)
  | _ => joinE c.op (st.headD VA.zero) ((st.drop 1).headD VA.zero)

def eRun : List CM → List VA → VA × Int
  | [], st => (st.headD VA.zero, 0)
  | c :: r, st => if (madeE vs xs ss c (st.drop (st.length - operN c.op))).2 ≠ 0 then erV (madeE vs xs ss c (st.drop (st.length - operN c.op))).2
    else eRun r (st.take (st.length - operN c.op) ++ [(madeE vs xs ss c (st.drop (st.length - operN c.op))).1])

def worldB : Bool := decide (xs.length = vs.length) && xs.all rightV
def evP (cs : List CM) : VA × Int := if rightB cs = true then (if worldB vs xs = true then eRun vs xs ss cs [] else erV 12) else erV 1
end

section
variable {vs : List VM} {xs : List VA} {ss : List (List UInt8)}

theorem fin_eT (hx : ∀ v ∈ xs, OkV v) (hl : vs.length = xs.length) {t : T} (h : OkT t) : Fin (eT vs xs ss t) := by
  induction t with
  | leaf c => exact fin_leaf hx hl h.1
  | un o t ih =>
    unfold eT
    rcases ih h.2.2 with ⟨h1, h2⟩ | ⟨h1, h2⟩
    · rw [if_neg (by simp [h1])]; exact fin_un h2
    · rw [if_pos h1]; exact fin_er h1
  | bin o l r ihl ihr =>
    unfold eT
    rcases ihl h.2.2.1 with ⟨h1, h2⟩ | ⟨h1, h2⟩
    · rw [if_neg (by simp [h1])]
      rcases ihr h.2.2.2 with ⟨h3, h4⟩ | ⟨h3, h4⟩
      · rw [if_neg (by simp [h3])]; exact fin_join h2
      · rw [if_pos h3]; exact fin_er h3
    · rw [if_pos h1]; exact fin_er h1

theorem run_eT {t : T} (h : OkT t) : ∀ (r : List CM) (st : List VA), eRun vs xs ss (post t ++ r) st = if (eT vs xs ss t).2 ≠ 0 then erV (eT vs xs ss t).2 else eRun vs xs ss r (st ++ [(eT vs xs ss t).1]) := by
  induction t with
  | leaf c =>
    intro r st
    show eRun vs xs ss (c :: r) st = _
    have h0 : operN c.op = 0 := h.2
    have hm : madeE vs xs ss c (st.drop (st.length - operN c.op)) = leafE vs xs ss c := by unfold madeE; rw [h0]; rfl
    rw [eRun, hm, h0, Nat.sub_zero, List.take_length]
    rfl
  | un o t ih =>
    intro r st
    show eRun vs xs ss (post t ++ [opC o] ++ r) st = _
    rw [List.append_assoc, ih h.2.2]
    by_cases h1 : (eT vs xs ss t).2 = 0
    · have h1' : ¬ (eT vs xs ss t).2 ≠ 0 := fun e => e h1
      have e : eT vs xs ss (.un o t) = unE o (eT vs xs ss t).1 := if_neg h1'
      rw [if_neg h1', e]
      show eRun vs xs ss (opC o :: r) _ = _
      have hn : operN (opC o).op = 1 := operN_un ⟨h.1, h.2.1⟩
      have hl : (st ++ [(eT vs xs ss t).1]).length - 1 = st.length := by simp
      have hm : madeE vs xs ss (opC o) [(eT vs xs ss t).1] = unE o (eT vs xs ss t).1 := by
        unfold madeE; rw [hn]; rfl
      rw [eRun, hn, hl, List.drop_left, List.take_left, hm]
    · have e : eT vs xs ss (.un o t) = erV (eT vs xs ss t).2 := if_pos h1
      rw [if_pos h1, e]
      rw [if_pos (show (erV (eT vs xs ss t).2).2 ≠ 0 from h1)]
      rfl
  | bin o l r' ihl ihr =>
    intro r st
    show eRun vs xs ss (post l ++ post r' ++ [opC o] ++ r) st = _
    rw [List.append_assoc, List.append_assoc, ihl h.2.2.1]
    by_cases h1 : (eT vs xs ss l).2 = 0
    · have h1' : ¬ (eT vs xs ss l).2 ≠ 0 := fun e => e h1
      rw [if_neg h1', ihr h.2.2.2]
      by_cases h2 : (eT vs xs ss r').2 = 0
      · have h2' : ¬ (eT vs xs ss r').2 ≠ 0 := fun e => e h2
        have e : eT vs xs ss (.bin o l r') = joinE o (eT vs xs ss l).1 (eT vs xs ss r').1 := (if_neg h1').trans (if_neg h2')
        rw [if_neg h2', e]
        show eRun vs xs ss (opC o :: r) _ = _
        have hn : operN (opC o).op = 2 := operN_bin ⟨h.1, h.2.1⟩
        have hl : (st ++ [(eT vs xs ss l).1] ++ [(eT vs xs ss r').1]).length - 2 = st.length := by simp
        have hd : (st ++ [(eT vs xs ss l).1] ++ [(eT vs xs ss r').1]).drop st.length = [(eT vs xs ss l).1, (eT vs xs ss r').1] := by
          rw [List.append_assoc, List.drop_left]; rfl
        have ht : (st ++ [(eT vs xs ss l).1] ++ [(eT vs xs ss r').1]).take st.length = st := by
          rw [List.append_assoc, List.take_left]
        have hm : madeE vs xs ss (opC o) [(eT vs xs ss l).1, (eT vs xs ss r').1] = joinE o (eT vs xs ss l).1 (eT vs xs ss r').1 := by
          unfold madeE; rw [hn]; rfl
        rw [eRun, hn, hl, hd, hm, ht]
      · have e : eT vs xs ss (.bin o l r') = erV (eT vs xs ss r').2 := (if_neg h1').trans (if_pos h2)
        rw [if_pos h2, e, if_pos (show (erV (eT vs xs ss r').2).2 ≠ 0 from h2)]
        rfl
    · have e : eT vs xs ss (.bin o l r') = erV (eT vs xs ss l).2 := if_pos h1
      rw [if_pos h1, e, if_pos (show (erV (eT vs xs ss l).2).2 ≠ 0 from h1)]
      rfl

theorem fin_eq {p : VA × Int} (h : Fin p) : (if p.2 ≠ 0 then erV p.2 else (p.1, 0)) = p := by
  rcases h with ⟨h1, _⟩ | ⟨h1, h2⟩
  · rw [if_neg (by simp [h1]), ← h1]
  · rw [if_pos h1, erV, ← h2]
theorem ev_tree (hx : ∀ v ∈ xs, OkV v) (hl : vs.length = xs.length) {t : T} (h : OkT t) : eRun vs xs ss (post t) [] = eT vs xs ss t := by
  have := run_eT (vs := vs) (xs := xs) (ss := ss) h [] []
  rw [List.append_nil] at this
  rw [this]
  exact fin_eq (fin_eT hx hl h)
end
end Go.Proofs.YtjjoffadieoaaaaGreatDoor
namespace Go.Proofs.YtjjoffadieoaaaaGreatDoor
open Ieee

theorem log2_bd (m : Nat) (h0 : m ≠ 0) (h : m < 2 ^ 53) : m.log2 ≤ 52 := by
  have := Nat.log2_lt h0 |>.2 h; omega

theorem cut_zero (s : Bool) (n : Nat) : Toward.even.cut s n 0 = n := by
  simp [Toward.cut, Nat.mod_one]

/-- what a word of a whole number stands for -/
theorem read_word (s : Bool) (L K : Nat) (hl : L ≤ 52) (h1 : 4503599627370496 ≤ K) (h2 : K < 9007199254740992) :
    double.read (double.word s ((L + 1022) * 4503599627370496 + K)) = .number s K ((L : Int) - 52) := by
  have hlp : double.leastPlace = -1074 := by kernel_rfl
  have hbi : double.binade = 4503599627370496 := by kernel_rfl
  have hsw : double.signWeight = 9223372036854775808 := by kernel_rfl
  have hir : double.infRung = 9218868437227405312 := by kernel_rfl
  obtain ⟨R, hR⟩ : ∃ R, R = (L + 1022) * 4503599627370496 + K := ⟨_, rfl⟩
  rw [← hR]
  have e6 : double.word s R % double.signWeight = R := by
    unfold Format.word; rw [hsw]; split <;> omega
  have e7 : (double.word s R / double.signWeight % 2 == 1) = s := by
    unfold Format.word; rw [hsw]
    cases s
    · rw [if_neg (by decide)]; exact beq_eq_false_iff_ne.2 (by omega)
    · rw [if_pos rfl]; exact beq_iff_eq.2 (by omega)
  unfold Format.read
  simp only [e6, e7]
  rw [if_neg (by rw [hbi]; omega), if_pos (by rw [hir]; omega), hbi, hlp]
  have e8 : 4503599627370496 + R % 4503599627370496 = K := by omega
  have e9 : R / 4503599627370496 - 1 = L + 1022 := by omega
  rw [e8, e9, show (-1074 : Int) + ((L + 1022 : Nat) : Int) = (L : Int) - 52 by omega]

theorem nearest_int (s : Bool) (m : Nat) (h0 : m ≠ 0) (h : m < 2 ^ 53) :
    double.nearest s m 0 = double.word s ((m.log2 + 1022) * 4503599627370496 + m <<< (52 - m.log2)) ∧ m.log2 ≤ 52 ∧ 4503599627370496 ≤ m <<< (52 - m.log2) ∧ m <<< (52 - m.log2) < 9007199254740992 := by
  have hl := log2_bd m h0 h
  have hlo : 2 ^ m.log2 ≤ m := Nat.log2_self_le h0
  have hhi : m < 2 ^ (m.log2 + 1) := Nat.lt_log2_self
  have hlp : double.leastPlace = -1074 := by kernel_rfl
  have hbi : double.binade = 4503599627370496 := by kernel_rfl
  have hir : double.infRung = 9218868437227405312 := by kernel_rfl
  have hfb : double.fractionBits = 52 := rfl
  unfold Format.nearest
  rw [if_neg h0]
  simp only [hlp, hfb, hbi, hir]
  generalize m.log2 = L at *
  have e1 : max ((0 : Int) + (L : Int) - ((52 : Nat) : Int)) (-1074) = (L : Int) - 52 := by omega
  have e2 : ((0 : Int) - ((L : Int) - 52)).toNat = 52 - L := by omega
  have e3 : ((L : Int) - 52 - 0).toNat = 0 := by omega
  have e4 : ((L : Int) - 52 - -1074).toNat = L + 1022 := by omega
  rw [e1, e2, e3, e4, cut_zero]
  have hk1 : 4503599627370496 ≤ m <<< (52 - L) := by
    rw [Nat.shiftLeft_eq]
    have hh : (4503599627370496 : Nat) = 2 ^ L * 2 ^ (52 - L) := by
      rw [← Nat.pow_add, show L + (52 - L) = 52 by omega]
    rw [hh]
    exact Nat.mul_le_mul_right _ hlo
  have hk2 : m <<< (52 - L) < 9007199254740992 := by
    rw [Nat.shiftLeft_eq]
    have hh : (9007199254740992 : Nat) = 2 ^ (L + 1) * 2 ^ (52 - L) := by
      rw [← Nat.pow_add, show L + 1 + (52 - L) = 53 by omega]
    rw [hh]
    exact Nat.mul_lt_mul_of_pos_right hhi (Nat.two_pow_pos _)
  refine ⟨?_, hl, hk1, hk2⟩
  rw [Nat.min_eq_left (by omega)]

theorem read_int (s : Bool) (m : Nat) (h0 : m ≠ 0) (h : m < 2 ^ 53) :
    double.read (double.nearest s m 0) = .number s (m <<< (52 - m.log2)) ((m.log2 : Int) - 52) := by
  obtain ⟨e, hl, h1, h2⟩ := nearest_int s m h0 h
  rw [e, read_word s _ _ hl h1 h2]

theorem read_zero : double.read (double.nearest false 0 0) = .number false 0 (-1074) := by kernel_rfl

/-- The word x stands for the whole number a (a zero may have either sign). -/
def Rep (x : Nat) (a : Int) : Prop := ∃ s m p, double.read x = .number s m p ∧ p ≤ 0 ∧ signed s m 0 = a * 2 ^ (-p).toNat

theorem signed_scale (s : Bool) (m k : Nat) : signed s m k = signed s m 0 * 2 ^ k := by
  cases s <;> simp [signed, Nat.shiftLeft_eq]
  rw [Int.neg_mul]

theorem rep_int (a : Int) (h : a.natAbs < 2 ^ 53) : Rep (floatOfInt .f64 a) a := by
  unfold floatOfInt FloatKind.nearest FloatKind.encode
  show Rep (double.nearest (decide (a < 0)) a.natAbs 0) a
  by_cases h0 : a.natAbs = 0
  · have : a = 0 := by omega
    subst this
    exact ⟨false, 0, -1074, read_zero, by omega, by simp only [signed, Int.zero_mul]; rfl⟩
  · have hl := log2_bd _ h0 h
    refine ⟨_, _, _, read_int _ _ h0 h, by omega, ?_⟩
    have e : (-(((a.natAbs).log2 : Int) - 52)).toNat = 52 - a.natAbs.log2 := by omega
    rw [e]
    generalize 52 - a.natAbs.log2 = k
    simp only [signed, Nat.shiftLeft_eq, Nat.pow_zero, Nat.mul_one]
    by_cases hn : a < 0
    · simp only [hn, decide_true, if_true]
      rw [Int.natCast_mul, ← Int.neg_mul]
      rw [show -((a.natAbs : Nat) : Int) = a by omega, Int.natCast_pow]
      rfl
    · simp only [hn, decide_false]
      rw [if_neg (by decide), Int.natCast_mul, show ((a.natAbs : Nat) : Int) = a by omega, Int.natCast_pow]
      rfl

theorem compare_scale (a b : Int) (k : Nat) : compare (a * 2 ^ k) (b * 2 ^ k) = compare a b := by
  have hp : (0 : Int) < 2 ^ k := Int.pow_pos (by decide)
  simp only [compare, compareOfLessAndEq]
  have h1 : (a * 2 ^ k < b * 2 ^ k) ↔ a < b := ⟨fun h => Int.lt_of_mul_lt_mul_right h (Int.le_of_lt hp), fun h => Int.mul_lt_mul_of_pos_right h hp⟩
  have h2 : (a * 2 ^ k = b * 2 ^ k) ↔ a = b := ⟨fun h => Int.eq_of_mul_eq_mul_right (by omega) h, fun h => by rw [h]⟩
  simp only [h1, h2]

/-- two words that stand for whole numbers compare as these do -/
theorem rep_order {x y : Nat} {a b : Int} (hx : Rep x a) (hy : Rep y b) : double.order x y = some (compare a b) := by
  obtain ⟨s, m, p, rx, hp2, hv⟩ := hx
  obtain ⟨t, n, q, ry, hq2, hw⟩ := hy
  simp only [Format.order, rx, ry, Datum.order]
  rw [signed_scale, signed_scale (s := t), hv, hw, Int.mul_assoc, Int.mul_assoc, ← Int.pow_add, ← Int.pow_add]
  have e : (-q).toNat + (q - min p q).toNat = (-p).toNat + (p - min p q).toNat := by omega
  rw [e, compare_scale]

/-- .. and are told as these are -/
theorem rep_toInt {x : Nat} {a : Int} (hx : Rep x a) : (double.read x).toInt .zero = some a := by
  obtain ⟨s, m, p, rx, hp2, hv⟩ := hx
  rw [rx]
  have e1 : p.toNat = 0 := by omega
  have hm : m = a.natAbs * 2 ^ (-p).toNat := by
    have := congrArg Int.natAbs hv
    rw [Int.natAbs_mul, Int.natAbs_pow] at this
    cases s <;> simpa [signed] using this
  have hcut : Toward.zero.cut s (m <<< 0) (-p).toNat = a.natAbs := by
    rw [Nat.shiftLeft_zero]
    by_cases h0 : a.natAbs = 0
    · simp [Toward.cut, hm, h0]
    · have hlog : (-p).toNat ≤ m.log2 := by
        rw [Nat.le_log2 (by rw [hm]; exact Nat.mul_ne_zero h0 (Nat.pos_iff_ne_zero.1 (Nat.two_pow_pos _)))]
        rw [hm]
        exact Nat.le_mul_of_pos_left _ (Nat.pos_of_ne_zero h0)
      simp only [Toward.cut]
      rw [Nat.min_eq_left (by omega), Nat.shiftLeft_eq, Nat.one_mul, hm, Nat.mul_div_cancel _ (Nat.two_pow_pos _)]
      rfl
  simp only [Datum.toInt, Datum.integral, e1, hcut]
  congr 1
  have hk : (0 : Int) < 2 ^ (-p).toNat := Int.pow_pos (by decide)
  generalize (2 : Int) ^ (-p).toNat = k at *
  cases s
  · simp only [signed, if_neg (show ¬ (false = true) by decide)] at hv ⊢
    have : 0 ≤ a := by
      rcases Int.lt_or_le a 0 with h | h
      · have := Int.mul_neg_of_neg_of_pos h hk
        rw [← hv] at this; omega
      · exact h
    simp; omega
  · simp only [signed, if_pos] at hv ⊢
    have : a ≤ 0 := by
      rcases Int.lt_or_le 0 a with h | h
      · have := Int.mul_pos h hk
        rw [← hv] at this; omega
      · exact h
    simp; omega
end Go.Proofs.YtjjoffadieoaaaaGreatDoor
namespace Go.Proofs.YtjjoffadieoaaaaGreatDoor
open Ieee

theorem even_cut (s : Bool) (q d : Nat) (h : d ≤ (q * 2 ^ d).log2 + 2) : Toward.even.cut s (q * 2 ^ d) d = q := by
  simp only [Toward.cut, Nat.min_eq_left h, Nat.shiftLeft_eq, Nat.one_mul]
  have hp : 0 < 2 ^ d := Nat.two_pow_pos d
  have e1 : q * 2 ^ d / 2 ^ d = q := Nat.mul_div_cancel _ hp
  have e2 : q * 2 ^ d % 2 ^ d = 0 := Nat.mul_mod_left _ _
  rw [e1, e2]
  generalize 2 ^ d = g at *
  have h1 : decide (g < 2 * 0) = false := decide_eq_false (by omega)
  have h2 : (g == 2 * 0) = false := beq_eq_false_iff_ne.2 (by omega)
  rw [h1, h2]; rfl

theorem log2_scale (n k : Nat) (h : n ≠ 0) : (n * 2 ^ k).log2 = n.log2 + k := by
  have hp : 0 < 2 ^ k := Nat.two_pow_pos k
  have h0 : n * 2 ^ k ≠ 0 := Nat.mul_ne_zero h (by omega)
  apply Nat.le_antisymm
  · have : n * 2 ^ k < 2 ^ (n.log2 + k + 1) := by
      have h1 : n < 2 ^ (n.log2 + 1) := Nat.lt_log2_self
      rw [show n.log2 + k + 1 = (n.log2 + 1) + k by omega, Nat.pow_add]
      exact Nat.mul_lt_mul_of_pos_right h1 hp
    have := (Nat.log2_lt h0).2 this
    omega
  · rw [Nat.le_log2 h0, Nat.pow_add]
    exact Nat.mul_le_mul_right _ (Nat.log2_self_le h)

/-- the place at which a whole number is handed in doesn't count -/
theorem nearest_scale (s : Bool) (n k : Nat) (h0 : n ≠ 0) (h : n < 2 ^ 53) : double.nearest s (n * 2 ^ k) (-(k : Int)) = double.nearest s n 0 := by
  have hl := log2_bd n h0 h
  have hlp : double.leastPlace = -1074 := by kernel_rfl
  have hfb : double.fractionBits = 52 := rfl
  have hm0 : n * 2 ^ k ≠ 0 := Nat.mul_ne_zero h0 (by have := Nat.two_pow_pos k; omega)
  have hlg := log2_scale n k h0
  unfold Format.nearest
  rw [if_neg hm0, if_neg h0]
  simp only [hlp, hfb, hlg]
  have hL0 : 2 ^ n.log2 ≤ n := Nat.log2_self_le h0
  generalize hL : n.log2 = L at *
  have e1 : max (-(k : Int) + ((L + k : Nat) : Int) - ((52 : Nat) : Int)) (-1074) = (L : Int) - 52 := by omega
  have e1' : max ((0 : Int) + (L : Int) - ((52 : Nat) : Int)) (-1074) = (L : Int) - 52 := by omega
  have e2 : ((0 : Int) - ((L : Int) - 52)).toNat = 52 - L := by omega
  have e3 : ((L : Int) - 52 - 0).toNat = 0 := by omega
  rw [e1, e1', e2, e3, cut_zero]
  congr 2
  congr 1
  by_cases hk : k ≤ 52 - L
  · have e4 : (-(k : Int) - ((L : Int) - 52)).toNat = 52 - L - k := by omega
    have e5 : ((L : Int) - 52 - -(k : Int)).toNat = 0 := by omega
    rw [e4, e5, cut_zero, Nat.shiftLeft_eq, Nat.shiftLeft_eq, Nat.mul_assoc, ← Nat.pow_add, show k + (52 - L - k) = 52 - L by omega]
  · have e4 : (-(k : Int) - ((L : Int) - 52)).toNat = 0 := by omega
    have e5 : ((L : Int) - 52 - -(k : Int)).toNat = k - (52 - L) := by omega
    rw [e4, e5, Nat.shiftLeft_zero, Nat.shiftLeft_eq]
    have e6 : n * 2 ^ k = (n * 2 ^ (52 - L)) * 2 ^ (k - (52 - L)) := by
      rw [Nat.mul_assoc, ← Nat.pow_add, show 52 - L + (k - (52 - L)) = k by omega]
    rw [e6]
    refine even_cut s _ _ ?_
    rw [← e6, hlg]; omega

/-- what stands for the whole number a -/
def RepD (d : Datum) (a : Int) : Prop := ∃ s m p, d = .number s m p ∧ p ≤ 0 ∧ signed s m 0 = a * 2 ^ (-p).toNat
theorem rep_d {x : Nat} {a : Int} (h : Rep x a) : RepD (double.read x) a := h

theorem zero_word (s : Bool) : RepD (double.read (double.word s 0)) 0 := by
  cases s
  · exact ⟨false, 0, -1074, by kernel_rfl, by omega, by simp only [signed, Int.zero_mul]; rfl⟩
  · exact ⟨true, 0, -1074, by kernel_rfl, by omega, by simp only [signed, Int.zero_mul]; rfl⟩

theorem RepD.write {d : Datum} {a : Int} (h : RepD d a) (hb : a.natAbs < 2 ^ 53) : Rep (double.write d) a := by
  obtain ⟨s, m, p, rfl, hp, hv⟩ := h
  show Rep (double.nearest s m p) a
  have hm : m = a.natAbs * 2 ^ (-p).toNat := by
    have := congrArg Int.natAbs hv
    rw [Int.natAbs_mul, Int.natAbs_pow] at this
    cases s <;> simpa [signed] using this
  obtain ⟨k, hk⟩ : ∃ k : Nat, p = -(k : Int) := ⟨(-p).toNat, by omega⟩
  subst hk
  have ek : (-(-(k : Int))).toNat = k := by omega
  rw [ek] at hm hv
  by_cases h0 : a.natAbs = 0
  · have ha : a = 0 := by omega
    have : m = 0 := by rw [hm, h0]; simp
    subst this
    unfold Format.nearest
    rw [if_pos rfl, ha]
    exact zero_word s
  · rw [hm, nearest_scale s _ k h0 hb]
    have hl := log2_bd _ h0 hb
    refine ⟨_, _, _, read_int s _ h0 hb, by omega, ?_⟩
    have e : (-(((a.natAbs).log2 : Int) - 52)).toNat = 52 - a.natAbs.log2 := by omega
    rw [e]
    have hk0 : (0 : Int) < 2 ^ k := Int.pow_pos (by decide)
    have e2 : ∀ q : Nat, ((2 ^ q : Nat) : Int) = (2 : Int) ^ q := fun q => by rw [Int.natCast_pow]; rfl
    generalize 52 - a.natAbs.log2 = q
    rw [hm] at hv
    cases s
    · simp only [signed, Nat.shiftLeft_eq, Nat.pow_zero, Nat.mul_one, Bool.false_eq_true, if_false] at hv ⊢
      rw [Int.natCast_mul, e2] at hv
      have : ((a.natAbs : Nat) : Int) = a := Int.eq_of_mul_eq_mul_right (by omega) hv
      rw [Int.natCast_mul, this, e2]
    · simp only [signed, Nat.shiftLeft_eq, Nat.pow_zero, Nat.mul_one, if_true] at hv ⊢
      rw [Int.natCast_mul, e2, ← Int.neg_mul] at hv
      have : -((a.natAbs : Nat) : Int) = a := Int.eq_of_mul_eq_mul_right (by omega) hv
      rw [Int.natCast_mul, ← Int.neg_mul, this, e2]

theorem signed_not (s : Bool) (m k : Nat) : signed (!s) m k = -signed s m k := by cases s <;> simp [signed]
theorem RepD.opposite {d : Datum} {a : Int} (h : RepD d a) : RepD d.opposite (-a) := by
  obtain ⟨s, m, p, rfl, hp, hv⟩ := h
  exact ⟨!s, m, p, rfl, hp, by rw [signed_not, hv, Int.neg_mul]⟩

theorem signed_sign (t : Int) (b : Bool) (h : t ≠ 0 → b = decide (t < 0)) : signed b t.natAbs 0 = t := by
  unfold signed
  rw [Nat.shiftLeft_zero]
  by_cases h0 : t = 0
  · subst h0; cases b <;> rfl
  · rw [h h0]
    by_cases hn : t < 0
    · rw [if_pos (decide_eq_true hn)]; omega
    · rw [if_neg (by simp [hn])]; omega

theorem RepD.sum {d e : Datum} {a b : Int} (h : RepD d a) (h' : RepD e b) : ∃ r, d.sum e = some r ∧ RepD r (a + b) := by
  obtain ⟨s, m, i, rfl, hi, hv⟩ := h
  obtain ⟨t, n, j, rfl, hj, hw⟩ := h'
  refine ⟨_, rfl, _, _, _, rfl, by omega, ?_⟩
  have e1 : signed s m (i - min i j).toNat + signed t n (j - min i j).toNat = (a + b) * 2 ^ (-min i j).toNat := by
    rw [signed_scale, signed_scale (s := t), hv, hw, Int.mul_assoc, Int.mul_assoc, ← Int.pow_add, ← Int.pow_add, Int.add_mul]
    rw [show (-i).toNat + (i - min i j).toNat = (-min i j).toNat by omega, show (-j).toNat + (j - min i j).toNat = (-min i j).toNat by omega]
  rw [e1]
  refine signed_sign _ _ (fun h => ?_)
  rw [if_neg h]

theorem RepD.product {d e : Datum} {a b : Int} (h : RepD d a) (h' : RepD e b) : ∃ r, d.product e = some r ∧ RepD r (a * b) := by
  obtain ⟨s, m, i, rfl, hi, hv⟩ := h
  obtain ⟨t, n, j, rfl, hj, hw⟩ := h'
  refine ⟨_, rfl, _, _, _, rfl, by omega, ?_⟩
  have e1 : signed (s ^^ t) (m * n) 0 = signed s m 0 * signed t n 0 := by
    cases s <;> cases t <;> simp [signed, Int.neg_mul, Int.mul_neg]
  rw [e1, hv, hw, show (-(i + j)).toNat = (-i).toNat + (-j).toNat by omega, Int.pow_add]
  rw [Int.mul_assoc, Int.mul_assoc]
  congr 1
  rw [← Int.mul_assoc, Int.mul_comm _ b, Int.mul_assoc]

theorem rep_add {x y : Nat} {a b : Int} (hx : Rep x a) (hy : Rep y b) (hb : (a + b).natAbs < 2 ^ 53) : ∃ r, floatBits .add .f64 x y = some r ∧ Rep r (a + b) := by
  obtain ⟨d, h1, h2⟩ := (rep_d hx).sum (rep_d hy)
  refine ⟨double.write d, ?_, h2.write hb⟩
  show ((double.read x).sum (double.read y)).map double.write = _
  rw [h1]; rfl
theorem rep_sub {x y : Nat} {a b : Int} (hx : Rep x a) (hy : Rep y b) (hb : (a - b).natAbs < 2 ^ 53) : ∃ r, floatBits .sub .f64 x y = some r ∧ Rep r (a - b) := by
  obtain ⟨d, h1, h2⟩ := (rep_d hx).sum (rep_d hy).opposite
  refine ⟨double.write d, ?_, h2.write hb⟩
  show ((double.read x).sum (double.read y).opposite).map double.write = _
  rw [h1]; rfl
theorem rep_mul {x y : Nat} {a b : Int} (hx : Rep x a) (hy : Rep y b) (hb : (a * b).natAbs < 2 ^ 53) : ∃ r, floatBits .mul .f64 x y = some r ∧ Rep r (a * b) := by
  obtain ⟨d, h1, h2⟩ := (rep_d hx).product (rep_d hy)
  refine ⟨double.write d, ?_, h2.write hb⟩
  show ((double.read x).product (double.read y)).map double.write = _
  rw [h1]; rfl
end Go.Proofs.YtjjoffadieoaaaaGreatDoor
