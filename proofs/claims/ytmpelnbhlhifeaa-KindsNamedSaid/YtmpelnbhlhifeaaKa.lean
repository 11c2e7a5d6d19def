/- Kinds of expressions, on lists of cells and on trees: plain mathematics. -/
import Derived.Test.YtmpelnbhlhifeaaQA
namespace Go.Proofs.Ytmpelnbhlhifeaa

/-- a variable -/
structure VM where
  nm : List UInt8
  kd : Int
  lo : Int
  hi : Int
  ik : Int
  ia : Int
  ib : Int

/-- the kind of the first variable of a name, and the error -/
def varK (vs : List VM) (n : List UInt8) : Int × Int :=
  match vs.find? (fun v => decide (v.nm = n)) with
  | none => (0, 2)
  | some v => if 1 ≤ v.kd ∧ v.kd ≤ 3 then (v.kd, 0) else (0, 8)
def leafK (vs : List VM) (ss : List (List UInt8)) (c : CM) : Int × Int :=
  if c.op = 1 then (1, 0) else if c.op = 2 then (3, 0) else if c.op = 5 then varK vs c.nm else if c.op = 6 ∧ c.nm ∉ ss then (0, 2) else (2, 0)
def unK (o k : Int) : Int := if o = 7 then (if k = 2 then 0 else k) else if o = 8 then (if k = 2 then 2 else 0) else if k = 3 then 1 else 0
def binK (o k : Int) : Int :=
  if o = 16 ∨ o = 17 then 2 else if o = 22 ∨ o = 23 then (if k = 2 then 2 else 0) else if 18 ≤ o then (if k = 1 then 2 else 0) else if 14 ≤ o then (if k = 1 then 1 else 0) else if k = 2 then 0 else k
def errK (k : Int) : Int × Int := if k = 0 then (0, 8) else (k, 0)
def joinK (o a b : Int) : Int × Int := if a ≠ b then (0, 8) else errK (binK o a)

section
variable (vs : List VM) (ss : List (List UInt8))

def kT : T → Int × Int
  | .leaf c => leafK vs ss c
  | .un o t => if (kT t).2 ≠ 0 then (0, (kT t).2) else errK (unK o (kT t).1)
  | .bin o l r => if (kT l).2 ≠ 0 then (0, (kT l).2) else if (kT r).2 ≠ 0 then (0, (kT r).2) else joinK o (kT l).1 (kT r).1

/-- what a cell makes of its operands -/
def madeK (c : CM) (st : List Int) : Int × Int :=
  match operN c.op with
  | 0 => leafK vs ss c
  | 1 => errK (unK c.op (st.headD 0))
  | _ => joinK c.op (st.headD 0) ((st.drop 1).headD 0)

def kRun : List CM → List Int → Int × Int
  | [], st => (st.headD 0, 0)
  | c :: r, st => if (madeK vs ss c (st.drop (st.length - operN c.op))).2 ≠ 0 then (0, (madeK vs ss c (st.drop (st.length - operN c.op))).2)
    else kRun r (st.take (st.length - operN c.op) ++ [(madeK vs ss c (st.drop (st.length - operN c.op))).1])

def kindP (cs : List CM) : Int × Int := if rightB cs = true then kRun vs ss cs [] else (0, 1)
end

section
variable {vs : List VM} {ss : List (List UInt8)}

theorem varK_range (n : List UInt8) : ((varK vs n).2 = 0 ∧ 1 ≤ (varK vs n).1 ∧ (varK vs n).1 ≤ 3) ∨ ((varK vs n).2 ≠ 0 ∧ (varK vs n).1 = 0) := by
  unfold varK
  split
  · exact Or.inr ⟨by decide, rfl⟩
  · split
    · rename_i h; exact Or.inl ⟨rfl, h.1, h.2⟩
    · exact Or.inr ⟨by decide, rfl⟩
theorem leafK_range (c : CM) : ((leafK vs ss c).2 = 0 ∧ 1 ≤ (leafK vs ss c).1 ∧ (leafK vs ss c).1 ≤ 3) ∨ ((leafK vs ss c).2 ≠ 0 ∧ (leafK vs ss c).1 = 0) := by
  unfold leafK
  split
  · exact Or.inl ⟨rfl, by decide, by decide⟩
  · split
    · exact Or.inl ⟨rfl, by decide, by decide⟩
    · split
      · exact varK_range _
      · split
        · exact Or.inr ⟨by decide, rfl⟩
        · exact Or.inl ⟨rfl, by decide, by decide⟩
theorem errK_range {k : Int} (h : 0 ≤ k ∧ k ≤ 3) : ((errK k).2 = 0 ∧ 1 ≤ (errK k).1 ∧ (errK k).1 ≤ 3) ∨ ((errK k).2 ≠ 0 ∧ (errK k).1 = 0) := by
  unfold errK
  split
  · exact Or.inr ⟨by decide, rfl⟩
  · exact Or.inl ⟨rfl, by show 1 ≤ k; omega, h.2⟩
theorem unK_range {o k : Int} (h : 1 ≤ k ∧ k ≤ 3) : 0 ≤ unK o k ∧ unK o k ≤ 3 := by
  unfold unK
  repeat' split
  all_goals omega
theorem binK_range {o k : Int} (h : 1 ≤ k ∧ k ≤ 3) : 0 ≤ binK o k ∧ binK o k ≤ 3 := by
  unfold binK
  repeat' split
  all_goals omega
theorem joinK_range {o a b : Int} (h : 1 ≤ a ∧ a ≤ 3) : ((joinK o a b).2 = 0 ∧ 1 ≤ (joinK o a b).1 ∧ (joinK o a b).1 ≤ 3) ∨ ((joinK o a b).2 ≠ 0 ∧ (joinK o a b).1 = 0) := by
  unfold joinK
  split
  · exact Or.inr ⟨by decide, rfl⟩
  · exact errK_range (binK_range h)
theorem kT_range (t : T) : ((kT vs ss t).2 = 0 ∧ 1 ≤ (kT vs ss t).1 ∧ (kT vs ss t).1 ≤ 3) ∨ ((kT vs ss t).2 ≠ 0 ∧ (kT vs ss t).1 = 0) := by
  induction t with
  | leaf c => exact leafK_range c
  | un o t ih =>
    unfold kT
    rcases ih with ⟨h1, h2⟩ | ⟨h1, h2⟩
    · rw [if_neg (by simp [h1])]; exact errK_range (unK_range h2)
    · rw [if_pos h1]; exact Or.inr ⟨h1, rfl⟩
  | bin o l r ihl ihr =>
    unfold kT
    rcases ihl with ⟨h1, h2⟩ | ⟨h1, h2⟩
    · rw [if_neg (by simp [h1])]
      rcases ihr with ⟨h3, h4⟩ | ⟨h3, h4⟩
      · rw [if_neg (by simp [h3])]; exact joinK_range h2
      · rw [if_pos h3]; exact Or.inr ⟨h3, rfl⟩
    · rw [if_pos h1]; exact Or.inr ⟨h1, rfl⟩

theorem run_kT {t : T} (h : OkT t) : ∀ (r : List CM) (st : List Int), kRun vs ss (post t ++ r) st = if (kT vs ss t).2 ≠ 0 then (0, (kT vs ss t).2) else kRun vs ss r (st ++ [(kT vs ss t).1]) := by
  induction t with
  | leaf c =>
    intro r st
    show kRun vs ss (c :: r) st = _
    have h0 : operN c.op = 0 := h.2
    have hm : madeK vs ss c (st.drop (st.length - operN c.op)) = leafK vs ss c := by unfold madeK; rw [h0]; rfl
    rw [kRun, hm, h0, Nat.sub_zero, List.take_length]
    rfl
  | un o t ih =>
    intro r st
    show kRun vs ss (post t ++ [opC o] ++ r) st = _
    rw [List.append_assoc, ih h.2.2]
    by_cases h1 : (kT vs ss t).2 = 0
    · have h1' : ¬ (kT vs ss t).2 ≠ 0 := fun e => e h1
      have e : kT vs ss (.un o t) = errK (unK o (kT vs ss t).1) := if_neg h1'
      rw [if_neg h1', e]
      show kRun vs ss (opC o :: r) _ = _
      have hn : operN (opC o).op = 1 := operN_un ⟨h.1, h.2.1⟩
      have hl : (st ++ [(kT vs ss t).1]).length - 1 = st.length := by simp
      have hm : madeK vs ss (opC o) [(kT vs ss t).1] = errK (unK o (kT vs ss t).1) := by
        unfold madeK; rw [hn]; rfl
      rw [kRun, hn, hl, List.drop_left, List.take_left, hm]
    · have e : kT vs ss (.un o t) = (0, (kT vs ss t).2) := if_pos h1
      rw [if_pos h1, e, if_pos h1]
  | bin o l r' ihl ihr =>
    intro r st
    show kRun vs ss (post l ++ post r' ++ [opC o] ++ r) st = _
    rw [List.append_assoc, List.append_assoc, ihl h.2.2.1]
    by_cases h1 : (kT vs ss l).2 = 0
    · have h1' : ¬ (kT vs ss l).2 ≠ 0 := fun e => e h1
      rw [if_neg h1', ihr h.2.2.2]
      by_cases h2 : (kT vs ss r').2 = 0
      · have h2' : ¬ (kT vs ss r').2 ≠ 0 := fun e => e h2
        have e : kT vs ss (.bin o l r') = joinK o (kT vs ss l).1 (kT vs ss r').1 := (if_neg h1').trans (if_neg h2')
        rw [if_neg h2', e]
        show kRun vs ss (opC o :: r) _ = _
        have hn : operN (opC o).op = 2 := operN_bin ⟨h.1, h.2.1⟩
        have hl : (st ++ [(kT vs ss l).1] ++ [(kT vs ss r').1]).length - 2 = st.length := by simp
        have hd : (st ++ [(kT vs ss l).1] ++ [(kT vs ss r').1]).drop st.length = [(kT vs ss l).1, (kT vs ss r').1] := by
          rw [List.append_assoc, List.drop_left]; rfl
        have ht : (st ++ [(kT vs ss l).1] ++ [(kT vs ss r').1]).take st.length = st := by
          rw [List.append_assoc, List.take_left]
        have hm : madeK vs ss (opC o) [(kT vs ss l).1, (kT vs ss r').1] = joinK o (kT vs ss l).1 (kT vs ss r').1 := by
          unfold madeK; rw [hn]; rfl
        rw [kRun, hn, hl, hd, hm, ht]
      · have e : kT vs ss (.bin o l r') = (0, (kT vs ss r').2) := (if_neg h1').trans (if_pos h2)
        rw [if_pos h2, e, if_pos h2]
    · have e : kT vs ss (.bin o l r') = (0, (kT vs ss l).2) := if_pos h1
      rw [if_pos h1, e, if_pos h1]

theorem kind_tree {t : T} (h : OkT t) (hl : (post t).length ≤ 32) : kindP vs ss (post t) = kT vs ss t := by
  unfold kindP
  rw [if_pos (tree_right h hl)]
  have := run_kT (vs := vs) (ss := ss) h [] []
  rw [List.append_nil] at this
  rw [this]
  rcases kT_range (vs := vs) (ss := ss) t with ⟨h1, h2⟩ | ⟨h1, h2⟩
  · rw [if_neg (by simp [h1])]
    show ((kT vs ss t).1, (0 : Int)) = _
    rw [← h1]
  · rw [if_pos h1, ← h2]

theorem kind_right {cs : List CM} (h : (kindP vs ss cs).2 = 0) : rightB cs = true := by
  unfold kindP at h
  split at h
  · assumption
  · cases h

/-! ### what has a kind keeps it by more variables and states -/
theorem varK_more (vs' : List VM) {n : List UInt8} (h : (varK vs n).2 = 0) : varK (vs ++ vs') n = varK vs n := by
  unfold varK at *
  rw [List.find?_append]
  cases hf : vs.find? (fun v => decide (v.nm = n)) with
  | none => rw [hf] at h; cases h
  | some v => rfl
theorem leafK_more (vs' : List VM) (ss' : List (List UInt8)) {c : CM} (h : (leafK vs ss c).2 = 0) : leafK (vs ++ vs') (ss ++ ss') c = leafK vs ss c := by
  unfold leafK at *
  by_cases h1 : c.op = 1
  · rw [if_pos h1, if_pos h1]
  by_cases h2 : c.op = 2
  · rw [if_neg h1, if_neg h1, if_pos h2, if_pos h2]
  by_cases h5 : c.op = 5
  · rw [if_neg h1, if_neg h2, if_pos h5] at h ⊢
    rw [if_neg h1, if_neg h2, if_pos h5]
    exact varK_more vs' h
  · rw [if_neg h1, if_neg h2, if_neg h5] at h ⊢
    rw [if_neg h1, if_neg h2, if_neg h5]
    by_cases hs : c.op = 6 ∧ c.nm ∉ ss
    · rw [if_pos hs] at h; cases h
    · rw [if_neg hs, if_neg (fun e => hs ⟨e.1, fun m => e.2 (List.mem_append_left _ m)⟩)]
theorem kT_more (vs' : List VM) (ss' : List (List UInt8)) {t : T} (h : (kT vs ss t).2 = 0) : kT (vs ++ vs') (ss ++ ss') t = kT vs ss t := by
  induction t with
  | leaf c => exact leafK_more vs' ss' h
  | un o t ih =>
    unfold kT at h ⊢
    by_cases h1 : (kT vs ss t).2 = 0
    · rw [ih h1]
    · rw [if_pos h1] at h; exact absurd h h1
  | bin o l r ihl ihr =>
    unfold kT at h ⊢
    by_cases h1 : (kT vs ss l).2 = 0
    · rw [if_neg (by simp [h1])] at h
      by_cases h2 : (kT vs ss r).2 = 0
      · rw [ihl h1, ihr h2]
      · rw [if_pos h2] at h; exact absurd h h2
    · rw [if_pos h1] at h; exact absurd h h1
theorem kind_more (vs' : List VM) (ss' : List (List UInt8)) {cs : List CM} (h : (kindP vs ss cs).2 = 0) : kindP (vs ++ vs') (ss ++ ss') cs = kindP vs ss cs := by
  have hr := kind_right h
  obtain ⟨t, ht, rfl⟩ := right_tree hr
  have hl : (post t).length ≤ 32 := by unfold rightB at hr; simp at hr; exact hr.1
  rw [kind_tree ht hl] at h
  rw [kind_tree ht hl, kind_tree ht hl]
  exact kT_more vs' ss' h
theorem kind_range (cs : List CM) : ((kindP vs ss cs).2 = 0 ∧ 1 ≤ (kindP vs ss cs).1 ∧ (kindP vs ss cs).1 ≤ 3) ∨ ((kindP vs ss cs).2 ≠ 0 ∧ (kindP vs ss cs).1 = 0) := by
  by_cases hr : rightB cs = true
  · obtain ⟨t, ht, rfl⟩ := right_tree hr
    have hl : (post t).length ≤ 32 := by unfold rightB at hr; simp at hr; exact hr.1
    rw [kind_tree ht hl]
    exact kT_range t
  · unfold kindP
    rw [if_neg hr]
    exact Or.inr ⟨by decide, rfl⟩
end
end Go.Proofs.Ytmpelnbhlhifeaa
