/- Other names for a variable: plain mathematics; a row whose elements are turned one by one. -/
import Derived.Test.YtmpelnbhlhifeaaKj
namespace Go.Proofs.Ytmpelnbhlhifeaa
open Go.RowKit

/-- the first k turned -/
def updU {α : Type} (f : α → α) : Nat → List α → List α
  | 0, l => l
  | _ + 1, [] => []
  | k + 1, x :: r => f x :: updU f k r
theorem updU_len {α : Type} (f : α → α) : ∀ (k : Nat) (l : List α), (updU f k l).length = l.length
  | 0, _ => rfl
  | _ + 1, [] => rfl
  | k + 1, x :: r => by simp [updU, updU_len f k r]
theorem updU_all {α : Type} (f : α → α) : ∀ (k : Nat) (l : List α), l.length ≤ k → updU f k l = l.map f
  | 0, [], _ => rfl
  | 0, _ :: _, h => by simp at h
  | _ + 1, [], _ => rfl
  | k + 1, x :: r, h => by
    show f x :: updU f k r = _
    rw [updU_all f k r (by simp at h; omega)]; rfl
theorem updU_at {α : Type} (f : α → α) : ∀ (k : Nat) (l : List α), (updU f k l)[k]? = l[k]?
  | 0, _ => rfl
  | _ + 1, [] => rfl
  | k + 1, x :: r => by
    show (f x :: updU f k r)[k + 1]? = (x :: r)[k + 1]?
    simp [updU_at f k r]
theorem updU_succ {α : Type} (f : α → α) : ∀ (k : Nat) (l : List α) (h : k < l.length), updU f (k + 1) l = (updU f k l).set k (f l[k])
  | 0, [], h => by simp at h
  | 0, x :: r, _ => rfl
  | _ + 1, [], h => by simp at h
  | k + 1, x :: r, h => by
    have hk : k < r.length := by simpa using h
    show f x :: updU f (k + 1) r = (f x :: updU f k r).set (k + 1) (f r[k])
    rw [updU_succ f k r hk]; rfl
theorem updU_same {α : Type} (f : α → α) (k : Nat) (l : List α) (h : k < l.length) (he : f l[k] = l[k]) : updU f (k + 1) l = updU f k l := by
  rw [updU_succ f k l h, he]
  apply List.ext_getElem?
  intro i
  by_cases hik : i = k
  · subst hik
    rw [List.getElem?_set_self (by rw [updU_len]; exact h), updU_at, List.getElem?_eq_getElem h]
  · rw [List.getElem?_set_ne (Ne.symm hik)]

theorem flat_set (n : List UInt8) : ∀ (cs : List CM) (k : Nat) (h : k < cs.length), (flat cs).set (k * 3 + 2) (bstr n) = flat (cs.set k ⟨cs[k].op, cs[k].a, n⟩)
  | [], _, h => by simp at h
  | c :: r, 0, _ => rfl
  | c :: r, k + 1, h => by
    have e : flat (c :: r) = .int .i64 c.op :: .int .i64 c.a :: bstr c.nm :: flat r := rfl
    have e2 : (k + 1) * 3 + 2 = (k * 3 + 2) + 3 := by omega
    rw [e, e2]
    show .int .i64 c.op :: .int .i64 c.a :: bstr c.nm :: (flat r).set (k * 3 + 2) (bstr n) = _
    rw [flat_set n r k (by simpa using h)]; rfl
theorem flatV_set (n : List UInt8) : ∀ (vs : List VM) (k : Nat) (h : k < vs.length), (flatV vs).set (k * 7) (bstr n) = flatV (vs.set k { vs[k] with nm := n })
  | [], _, h => by simp at h
  | v :: r, 0, _ => rfl
  | v :: r, k + 1, h => by
    have e : flatV (v :: r) = bstr v.nm :: .int .i64 v.kd :: .int .i64 v.lo :: .int .i64 v.hi :: .int .i64 v.ik :: .int .i64 v.ia :: .int .i64 v.ib :: flatV r := rfl
    have e2 : (k + 1) * 7 = k * 7 + 7 := by omega
    rw [e, e2]
    show bstr v.nm :: .int .i64 v.kd :: .int .i64 v.lo :: .int .i64 v.hi :: .int .i64 v.ik :: .int .i64 v.ia :: .int .i64 v.ib :: (flatV r).set (k * 7) (bstr n) = _
    rw [flatV_set n r k (by simpa using h)]; rfl

section
variable (old new : List UInt8)
def renC (c : CM) : CM := if c.op = 5 ∧ c.nm = old then ⟨c.op, c.a, new⟩ else c
def renV (v : VM) : VM := if v.nm = old then { v with nm := new } else v
end

section
variable {old new : List UInt8} {vs : List VM} {ss : List (List UInt8)}

theorem renC_op (c : CM) : (renC old new c).op = c.op := by unfold renC; split <;> rfl
theorem varK_ren (hn : ∀ v ∈ vs, v.nm ≠ new) {n : List UInt8} (h : (varK vs n).2 = 0) : varK (vs.map (renV old new)) (if n = old then new else n) = varK vs n := by
  unfold varK at *
  have hfind : (vs.map (renV old new)).find? (fun v => decide (v.nm = if n = old then new else n)) = (vs.find? (fun v => decide (v.nm = n))).map (renV old new) := by
    rw [List.find?_map]
    congr 1
    have hne : n ≠ new := by
      intro e
      cases hf : vs.find? (fun v => decide (v.nm = n)) with
      | none => rw [hf] at h; cases h
      | some v =>
        have h1 := List.find?_some hf
        have h2 := List.mem_of_find?_eq_some hf
        simp at h1
        exact hn v h2 (by rw [h1, e])
    clear h
    induction vs with
    | nil => rfl
    | cons x r ih =>
      have hx := hn x (by simp)
      have hp : ((fun v : VM => decide (v.nm = if n = old then new else n)) ∘ renV old new) x = decide (x.nm = n) := by
        show decide ((renV old new x).nm = if n = old then new else n) = _
        unfold renV
        by_cases h1 : x.nm = old
        · rw [if_pos h1]
          by_cases h2 : n = old
          · rw [if_pos h2]; simp [h1, h2]
          · rw [if_neg h2]
            have : new ≠ n := Ne.symm hne
            have h3 : x.nm ≠ n := by rw [h1]; exact Ne.symm h2
            simp [this, h3]
        · rw [if_neg h1]
          by_cases h2 : n = old
          · rw [if_pos h2]
            have h3 : x.nm ≠ n := by rw [h2]; exact h1
            simp [hx, h3]
          · rw [if_neg h2]
      rw [List.find?_cons, List.find?_cons, hp, ih (fun v hv => hn v (by simp [hv]))]
  rw [hfind]
  cases hf : vs.find? (fun v => decide (v.nm = n)) with
  | none => rw [hf] at h; cases h
  | some v =>
    show (if 1 ≤ (renV old new v).kd ∧ (renV old new v).kd ≤ 3 then ((renV old new v).kd, 0) else (0, 8)) = _
    have : (renV old new v).kd = v.kd := by unfold renV; split <;> rfl
    rw [this]
theorem leafK_ren (hn : ∀ v ∈ vs, v.nm ≠ new) {c : CM} (h : (leafK vs ss c).2 = 0) : leafK (vs.map (renV old new)) ss (renC old new c) = leafK vs ss c := by
  by_cases h5 : c.op = 5
  · have e1 : leafK vs ss c = varK vs c.nm := by unfold leafK; rw [if_neg (by omega), if_neg (by omega), if_pos h5]
    rw [e1] at h ⊢
    have e2 : renC old new c = ⟨c.op, c.a, if c.nm = old then new else c.nm⟩ := by
      unfold renC
      by_cases h1 : c.nm = old
      · rw [if_pos ⟨h5, h1⟩, if_pos h1]
      · rw [if_neg (fun e => h1 e.2), if_neg h1]
    rw [e2, ← varK_ren (old := old) hn h]
    unfold leafK; simp only; rw [if_neg (by omega), if_neg (by omega), if_pos h5]
  · have e2 : renC old new c = c := by unfold renC; rw [if_neg (fun e => h5 e.1)]
    rw [e2]
    unfold leafK; simp only [if_neg h5]
theorem madeK_ren (hn : ∀ v ∈ vs, v.nm ≠ new) {c : CM} {st : List Int} (h : (madeK vs ss c st).2 = 0) : madeK (vs.map (renV old new)) ss (renC old new c) st = madeK vs ss c st := by
  unfold madeK at *
  rw [renC_op]
  rcases hN : operN c.op with _ | _ | n
  · rw [hN] at h; exact leafK_ren hn h
  · rfl
  · rfl
theorem kRun_ren (hn : ∀ v ∈ vs, v.nm ≠ new) : ∀ (cs : List CM) (st : List Int), (kRun vs ss cs st).2 = 0 → kRun (vs.map (renV old new)) ss (cs.map (renC old new)) st = kRun vs ss cs st
  | [], _, _ => rfl
  | c :: r, st, h => by
    rw [kRun] at h
    show kRun _ _ (renC old new c :: r.map (renC old new)) st = _
    rw [kRun, kRun, renC_op]
    by_cases h1 : (madeK vs ss c (st.drop (st.length - operN c.op))).2 = 0
    · rw [if_neg (fun e => e h1)] at h
      rw [madeK_ren hn h1, if_neg (fun e => e h1), if_neg (fun e => e h1)]
      exact kRun_ren hn r _ h
    · rw [if_pos h1] at h; exact absurd h h1
theorem kind_ren (hn : ∀ v ∈ vs, v.nm ≠ new) {cs : List CM} (h : (kindP vs ss cs).2 = 0) :
    kindP (vs.map (renV old new)) ss (cs.map (renC old new)) = if rightB (cs.map (renC old new)) = true then kindP vs ss cs else (0, 1) := by
  have hr := kind_right h
  unfold kindP at *
  rw [if_pos hr] at h ⊢
  by_cases h2 : rightB (cs.map (renC old new)) = true
  · rw [if_pos h2, if_pos h2]; exact kRun_ren hn cs [] h
  · rw [if_neg h2, if_neg h2]
end
end Go.Proofs.Ytmpelnbhlhifeaa
