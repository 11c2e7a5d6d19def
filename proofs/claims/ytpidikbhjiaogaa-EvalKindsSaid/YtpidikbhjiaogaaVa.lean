/- What expressions come to, on lists of cells and on trees: plain mathematics. -/
import Derived.Test.YtpidikbhjiaogaaKa
import Derived.Test.YtpidikbhjiaogaaIp
namespace Go.Proofs.Ytpidikbhjiaogaa

/-- a value -/
structure VA where
  kd : Int
  a : Int
  b : Int

def inB (n : Int) : Bool := decide (-1048576 ≤ n ∧ n ≤ 1048576)
theorem inB_iff {n : Int} : inB n = true ↔ -1048576 ≤ n ∧ n ≤ 1048576 := decide_eq_true_iff
def inL (n : Int) : Bool := decide (-9223372036854775808 ≤ n ∧ n ≤ 9223372036854775807)
theorem inL_iff {n : Int} : inL n = true ↔ -9223372036854775808 ≤ n ∧ n ≤ 9223372036854775807 := decide_eq_true_iff

def rightV (v : VA) : Bool :=
  if v.kd = 1 then decide (v.b = 0) else if v.kd = 2 then decide (v.b = 0) && (decide (v.a = 0) || decide (v.a = 1)) else if v.kd = 3 then inB v.a && inB v.b else false

/-- a value and the error -/
def VA.zero : VA := ⟨0, 0, 0⟩
def erV (e : Int) : VA × Int := (VA.zero, e)
def numV (n : Int) : VA := ⟨1, n, 0⟩
def numE (n : Int) : VA × Int := if inL n = true then (numV n, 0) else erV 7
def truV (b : Bool) : VA := ⟨2, if b = true then 1 else 0, 0⟩
def ptV (a b : Int) : VA := ⟨3, a, b⟩
def ptE (a b : Int) : VA × Int := if (inB a && inB b) = true then (ptV a b, 0) else erV 5

def isV (n : List UInt8) (v : VM) : Bool := decide (v.nm = n)
def varE (vs : List VM) (xs : List VA) (n : List UInt8) : VA × Int :=
  if ixP (isV n) vs 0 < 0 then erV 2 else (xs.getD (ixP (isV n) vs 0).toNat VA.zero, 0)

def leafE (vs : List VM) (xs : List VA) (ss : List (List UInt8)) (c : CM) : VA × Int :=
  if c.op = 1 then (numV c.a, 0) else if c.op = 2 then (ptV 0 c.a, 0) else if c.op = 5 then varE vs xs c.nm else if c.op = 6 then (truV (decide (c.nm ∈ ss)), 0) else (truV (decide (c.op = 3)), 0)

def unE (o : Int) (v : VA) : VA × Int :=
  if o = 7 then (if v.kd = 1 then numE (-v.a) else if v.kd = 3 then (ptV (-v.a) (-v.b), 0) else erV 8)
  else if o = 8 then (if v.kd = 2 then (truV (decide (v.a = 0)), 0) else erV 8)
  else if o = 9 then (if v.kd = 3 then (numV v.a, 0) else erV 8)
  else (if v.kd = 3 then (numV v.b, 0) else erV 8)

def numbersE (o a b : Int) : VA × Int :=
  if o = 11 then numE (a + b) else if o = 12 then numE (a - b) else if o = 13 then numE (a * b)
  else if o = 14 then (if b = 0 then erV 6 else numE (a.tdiv b))
  else if o = 15 then (if b = 0 then erV 6 else (numV (a.tmod b), 0))
  else if o = 18 then (truV (decide (a < b)), 0) else if o = 19 then (truV (decide (a ≤ b)), 0)
  else if o = 20 then (truV (decide (b < a)), 0) else if o = 21 then (truV (decide (b ≤ a)), 0) else erV 8
def truthsE (o : Int) (a b : Bool) : VA × Int := if o = 22 then (truV (a && b), 0) else if o = 23 then (truV (a || b), 0) else erV 8
def pointsE (o a b c d : Int) : VA × Int :=
  if o = 11 then ptE (a + c) (b + d) else if o = 12 then ptE (a - c) (b - d) else if o = 13 then ptE (a * c - b * d) (a * d + b * c) else erV 8

def joinE (o : Int) (x y : VA) : VA × Int :=
  if x.kd ≠ y.kd then erV 8
  else if o = 16 then (truV (decide (x.a = y.a ∧ x.b = y.b)), 0)
  else if o = 17 then (truV (!decide (x.a = y.a ∧ x.b = y.b)), 0)
  else if x.kd = 1 then numbersE o x.a y.a
  else if x.kd = 2 then truthsE o (decide (x.a = 1)) (decide (y.a = 1))
  else pointsE o x.a x.b y.a y.b

/-- right, and of 64 bits -/
def OkV (v : VA) : Prop := rightV v = true ∧ inL v.a = true

theorem ok_num {n : Int} (h : inL n = true) : OkV (numV n) := ⟨rfl, h⟩
theorem ok_tru (b : Bool) : OkV (truV b) := by cases b <;> exact ⟨rfl, rfl⟩
theorem ok_pt {a b : Int} (h : (inB a && inB b) = true) : OkV (ptV a b) := by
  refine ⟨h, ?_⟩
  simp only [Bool.and_eq_true, inB_iff] at h
  exact inL_iff.2 (by show -9223372036854775808 ≤ a ∧ a ≤ 9223372036854775807; omega)
/-- how a value and an error stand to each other -/
def Fin (p : VA × Int) : Prop := (p.2 = 0 ∧ OkV p.1) ∨ (p.2 ≠ 0 ∧ p.1 = VA.zero)
theorem fin_er {e : Int} (h : e ≠ 0) : Fin (erV e) := Or.inr ⟨h, rfl⟩
theorem fin_ok {v : VA} (h : OkV v) : Fin (v, 0) := Or.inl ⟨rfl, h⟩
theorem fin_num (n : Int) : Fin (numE n) := by
  unfold numE
  split
  · exact fin_ok (ok_num (by assumption))
  · exact fin_er (by decide)
theorem fin_pt (a b : Int) : Fin (ptE a b) := by
  unfold ptE
  split
  · exact fin_ok (ok_pt (by assumption))
  · exact fin_er (by decide)
theorem tmod_in {a b : Int} (h : inL a = true) : inL (a.tmod b) = true := by
  rw [inL_iff] at *
  have h1 := Int.natAbs_tmod a b
  by_cases hb : b = 0
  · subst hb; rw [Int.tmod_zero]; exact h
  · have h2 : a.natAbs % b.natAbs ≤ a.natAbs := Nat.mod_le _ _
    rcases Int.lt_or_le a 0 with hn | hn
    · have h3 : a.tmod b ≤ 0 := by
        have := Int.tmod_nonneg (-b) (a := -a) (by omega)
        rw [Int.neg_tmod, Int.tmod_neg] at this; omega
      omega
    · have := Int.tmod_nonneg b (a := a) hn
      omega

section
variable {vs : List VM} {xs : List VA} {ss : List (List UInt8)}
theorem fin_var (hx : ∀ v ∈ xs, OkV v) (hl : vs.length = xs.length) (n : List UInt8) : Fin (varE vs xs n) := by
  unfold varE
  rcases ix_find (isV n) vs 0 with ⟨h, _⟩ | ⟨j, hj, h, _⟩
  · rw [h, if_pos (by decide)]; exact fin_er (by decide)
  · rw [h, if_neg (by omega)]
    have e : ((0 + j : Nat) : Int).toNat = j := by omega
    rw [e]
    have : j < xs.length := by omega
    rw [List.getD_eq_getElem?_getD, List.getElem?_eq_getElem this]
    exact fin_ok (hx _ (List.getElem_mem _))
theorem fin_leaf (hx : ∀ v ∈ xs, OkV v) (hl : vs.length = xs.length) {c : CM} (hc : formedB c = true) : Fin (leafE vs xs ss c) := by
  unfold leafE
  unfold formedB at hc
  by_cases h1 : c.op = 1
  · rw [if_pos h1] at hc ⊢
    simp at hc
    exact fin_ok (ok_num (inL_iff.2 (by omega)))
  · rw [if_neg h1] at hc ⊢
    by_cases h2 : c.op = 2
    · rw [if_pos h2] at hc ⊢
      simp at hc
      exact fin_ok (ok_pt (by simp only [Bool.and_eq_true, inB_iff]; omega))
    · rw [if_neg h2]
      split
      · exact fin_var hx hl _
      · split
        · exact fin_ok (ok_tru _)
        · exact fin_ok (ok_tru _)
theorem fin_un {o : Int} {v : VA} (hv : OkV v) : Fin (unE o v) := by
  obtain ⟨h1, h2⟩ := hv
  unfold unE
  have h3 : v.kd = 3 → inB v.a = true ∧ inB v.b = true := fun h => by
    unfold rightV at h1
    rw [h] at h1
    simpa using h1
  repeat' split
  all_goals first
    | exact fin_num _
    | exact fin_er (by decide)
    | exact fin_ok (ok_tru _)
    | skip
  · obtain ⟨h4, h5⟩ := h3 (by assumption)
    refine fin_ok (ok_pt ?_)
    simp only [Bool.and_eq_true, inB_iff] at *
    omega
  · exact fin_ok (ok_num h2)
  · obtain ⟨h4, h5⟩ := h3 (by assumption)
    refine fin_ok (ok_num ?_)
    rw [inB_iff] at h5
    exact inL_iff.2 (by omega)
theorem fin_ite {c : Prop} [Decidable c] {a b : VA × Int} (h1 : Fin a) (h2 : Fin b) : Fin (if c then a else b) := by
  by_cases h : c
  · rw [if_pos h]; exact h1
  · rw [if_neg h]; exact h2
theorem fin_join {o : Int} {x y : VA} (hx : OkV x) : Fin (joinE o x y) := by
  unfold joinE numbersE truthsE pointsE
  repeat' first | exact fin_num _ | exact fin_pt _ _ | refine fin_ite ?_ ?_
  all_goals first
    | exact fin_num _
    | exact fin_pt _ _
    | exact fin_er (by decide)
    | exact fin_ok (ok_tru _)
    | exact fin_ok (ok_num (tmod_in hx.2))
end

section
variable (vs : List VM) (xs : List VA) (ss : List (List UInt8))

def eT : T → VA × Int
  | .leaf c => leafE vs xs ss c
  | .un o t => if (eT t).2 ≠ 0 then erV (eT t).2 else unE o (eT t).1
  | .bin o l r => if (eT l).2 ≠ 0 then erV (eT l).2 else if (eT r).2 ≠ 0 then erV (eT r).2 else joinE o (eT l).1 (eT r).1

/-- what a cell makes of its operands -/
def madeE (c : CM) (st : List VA) : VA × Int :=
  match operN c.op with
  | 0 => leafE vs xs ss c
  | 1 => unE c.op (st.headD VA.zero)
  | _ => joinE c.op (st.headD VA.zero) ((st.drop 1).headD VA.zero)

def eRun : List CM → List VA → VA × Int
  | [], st => (st.headD VA.zero, 0)
  | c :: r, st => if (madeE vs xs ss c (st.drop (st.length - operN c.op))).2 ≠ 0 then erV (madeE vs xs ss c (st.drop (st.length - operN c.op))).2
    else eRun r (st.take (st.length - operN c.op) ++ [(madeE vs xs ss c (st.drop (st.length - operN c.op))).1])

def worldB : Bool := decide (xs.length = vs.length) && xs.all rightV
def evP (cs : List CM) : VA × Int := if rightB cs = true then (if worldB vs xs = true then eRun vs xs ss cs [] else erV 12) else erV 1
end

section
variable {vs : List VM} {xs : List VA} {ss : List (List UInt8)}

theorem fin_eT (hx : ∀ v ∈ xs, OkV v) (hl : vs.length = xs.length) {t : T} (h : OkT t) : Fin (eT vs xs ss t) := by
  induction t with
  | leaf c => exact fin_leaf hx hl h.1
  | un o t ih =>
    unfold eT
    rcases ih h.2.2 with ⟨h1, h2⟩ | ⟨h1, h2⟩
    · rw [if_neg (by simp [h1])]; exact fin_un h2
    · rw [if_pos h1]; exact fin_er h1
  | bin o l r ihl ihr =>
    unfold eT
    rcases ihl h.2.2.1 with ⟨h1, h2⟩ | ⟨h1, h2⟩
    · rw [if_neg (by simp [h1])]
      rcases ihr h.2.2.2 with ⟨h3, h4⟩ | ⟨h3, h4⟩
      · rw [if_neg (by simp [h3])]; exact fin_join h2
      · rw [if_pos h3]; exact fin_er h3
    · rw [if_pos h1]; exact fin_er h1

theorem run_eT {t : T} (h : OkT t) : ∀ (r : List CM) (st : List VA), eRun vs xs ss (post t ++ r) st = if (eT vs xs ss t).2 ≠ 0 then erV (eT vs xs ss t).2 else eRun vs xs ss r (st ++ [(eT vs xs ss t).1]) := by
  induction t with
  | leaf c =>
    intro r st
    show eRun vs xs ss (c :: r) st = _
    have h0 : operN c.op = 0 := h.2
    have hm : madeE vs xs ss c (st.drop (st.length - operN c.op)) = leafE vs xs ss c := by unfold madeE; rw [h0]; rfl
    rw [eRun, hm, h0, Nat.sub_zero, List.take_length]
    rfl
  | un o t ih =>
    intro r st
    show eRun vs xs ss (post t ++ [opC o] ++ r) st = _
    rw [List.append_assoc, ih h.2.2]
    by_cases h1 : (eT vs xs ss t).2 = 0
    · have h1' : ¬ (eT vs xs ss t).2 ≠ 0 := fun e => e h1
      have e : eT vs xs ss (.un o t) = unE o (eT vs xs ss t).1 := if_neg h1'
      rw [if_neg h1', e]
      show eRun vs xs ss (opC o :: r) _ = _
      have hn : operN (opC o).op = 1 := operN_un ⟨h.1, h.2.1⟩
      have hl : (st ++ [(eT vs xs ss t).1]).length - 1 = st.length := by simp
      have hm : madeE vs xs ss (opC o) [(eT vs xs ss t).1] = unE o (eT vs xs ss t).1 := by
        unfold madeE; rw [hn]; rfl
      rw [eRun, hn, hl, List.drop_left, List.take_left, hm]
    · have e : eT vs xs ss (.un o t) = erV (eT vs xs ss t).2 := if_pos h1
      rw [if_pos h1, e]
      rw [if_pos (show (erV (eT vs xs ss t).2).2 ≠ 0 from h1)]
      rfl
  | bin o l r' ihl ihr =>
    intro r st
    show eRun vs xs ss (post l ++ post r' ++ [opC o] ++ r) st = _
    rw [List.append_assoc, List.append_assoc, ihl h.2.2.1]
    by_cases h1 : (eT vs xs ss l).2 = 0
    · have h1' : ¬ (eT vs xs ss l).2 ≠ 0 := fun e => e h1
      rw [if_neg h1', ihr h.2.2.2]
      by_cases h2 : (eT vs xs ss r').2 = 0
      · have h2' : ¬ (eT vs xs ss r').2 ≠ 0 := fun e => e h2
        have e : eT vs xs ss (.bin o l r') = joinE o (eT vs xs ss l).1 (eT vs xs ss r').1 := (if_neg h1').trans (if_neg h2')
        rw [if_neg h2', e]
        show eRun vs xs ss (opC o :: r) _ = _
        have hn : operN (opC o).op = 2 := operN_bin ⟨h.1, h.2.1⟩
        have hl : (st ++ [(eT vs xs ss l).1] ++ [(eT vs xs ss r').1]).length - 2 = st.length := by simp
        have hd : (st ++ [(eT vs xs ss l).1] ++ [(eT vs xs ss r').1]).drop st.length = [(eT vs xs ss l).1, (eT vs xs ss r').1] := by
          rw [List.append_assoc, List.drop_left]; rfl
        have ht : (st ++ [(eT vs xs ss l).1] ++ [(eT vs xs ss r').1]).take st.length = st := by
          rw [List.append_assoc, List.take_left]
        have hm : madeE vs xs ss (opC o) [(eT vs xs ss l).1, (eT vs xs ss r').1] = joinE o (eT vs xs ss l).1 (eT vs xs ss r').1 := by
          unfold madeE; rw [hn]; rfl
        rw [eRun, hn, hl, hd, hm, ht]
      · have e : eT vs xs ss (.bin o l r') = erV (eT vs xs ss r').2 := (if_neg h1').trans (if_pos h2)
        rw [if_pos h2, e, if_pos (show (erV (eT vs xs ss r').2).2 ≠ 0 from h2)]
        rfl
    · have e : eT vs xs ss (.bin o l r') = erV (eT vs xs ss l).2 := if_pos h1
      rw [if_pos h1, e, if_pos (show (erV (eT vs xs ss l).2).2 ≠ 0 from h1)]
      rfl

theorem fin_eq {p : VA × Int} (h : Fin p) : (if p.2 ≠ 0 then erV p.2 else (p.1, 0)) = p := by
  rcases h with ⟨h1, _⟩ | ⟨h1, h2⟩
  · rw [if_neg (by simp [h1]), ← h1]
  · rw [if_pos h1, erV, ← h2]
theorem ev_tree (hx : ∀ v ∈ xs, OkV v) (hl : vs.length = xs.length) {t : T} (h : OkT t) : eRun vs xs ss (post t) [] = eT vs xs ss t := by
  have := run_eT (vs := vs) (xs := xs) (ss := ss) h [] []
  rw [List.append_nil] at this
  rw [this]
  exact fin_eq (fin_eT hx hl h)
end
end Go.Proofs.Ytpidikbhjiaogaa
