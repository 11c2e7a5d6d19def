/- Own texts, joined: Vk. -/
import Derived.Test.YtjjoffadieoaaaaGreatDoorB18
namespace Go.Proofs.YtjjoffadieoaaaaGreatDoor
open Go.RowKit

theorem operands5_any (op : Int) (w : World) (h : 1 ≤ op ∧ op ≤ 23) :
    Calls Tryz.prog 94 #[.int .i64 op] w fun e w' => e = .returned (.int .i64 (operN op)) ∧ w = w' := by
  rcases (show (1 ≤ op ∧ op ≤ 6) ∨ (7 ≤ op ∧ op ≤ 10) ∨ (11 ≤ op ∧ op ≤ 23) by omega) with h | h | h
  · rcases op_leaf h with rfl | rfl | rfl | rfl | rfl | rfl
    all_goals
      go_enter Tryz.func94, Tryz.ntmps94
      go_wp2
      go_ret
      exact ⟨rfl, rfl⟩
  · rcases op_un h with rfl | rfl | rfl | rfl
    all_goals
      go_enter Tryz.func94, Tryz.ntmps94
      go_wp2
      go_ret
      exact ⟨rfl, rfl⟩
  · rcases op_bin h with rfl | rfl | rfl | rfl | rfl | rfl | rfl | rfl | rfl | rfl | rfl | rfl | rfl
    all_goals
      go_enter Tryz.func94, Tryz.ntmps94
      go_wp2
      go_ret
      exact ⟨rfl, rfl⟩

theorem operN_zero {o : Int} (h : operN o = 0) : 1 ≤ o ∧ o ≤ 6 := by
  unfold operN at h
  by_cases h1 : 1 ≤ o ∧ o ≤ 6
  · exact h1
  · rw [if_neg h1] at h; split at h <;> cases h
theorem operN_one {o : Int} (h : operN o = 1) : 7 ≤ o ∧ o ≤ 10 := by
  unfold operN at h
  by_cases h1 : 1 ≤ o ∧ o ≤ 6
  · rw [if_pos h1] at h; cases h
  · rw [if_neg h1] at h
    by_cases h2 : 7 ≤ o ∧ o ≤ 10
    · exact h2
    · rw [if_neg h2] at h; cases h
theorem operN_two {o : Int} (h : operN o = 2) (ho : 1 ≤ o ∧ o ≤ 23) : 11 ≤ o ∧ o ≤ 23 := by
  unfold operN at h
  by_cases h1 : 1 ≤ o ∧ o ≤ 6
  · rw [if_pos h1] at h; cases h
  · rw [if_neg h1] at h
    by_cases h2 : 7 ≤ o ∧ o ≤ 10
    · rw [if_pos h2] at h; cases h
    · omega
theorem len_one {α : Type} {l : List α} (h : l.length = 1) : ∃ x, l = [x] := by
  match l, h with
  | [x], _ => exact ⟨x, rfl⟩
theorem len_two {α : Type} {l : List α} (h : l.length = 2) : ∃ x y, l = [x, y] := by
  match l, h with
  | [x, y], _ => exact ⟨x, y, rfl⟩

/-- the stack of operands in memory -/
def flatO (st : List VA) : List Value := st.flatMap opL
theorem flatO_append (a b : List VA) : flatO (a ++ b) = flatO a ++ flatO b := by simp [flatO]
theorem flatO_one (v : VA) : flatO [v] = opL v := by simp [flatO]
theorem opL_length (v : VA) : (opL v).length = 4 := rfl
theorem flatO_length (st : List VA) : (flatO st).length = st.length * 4 := by
  induction st with
  | nil => rfl
  | cons v r ih => show (opL v ++ flatO r).length = _; rw [List.length_append, ih, opL_length]; simp; omega
theorem flatO_take (st : List VA) (n : Nat) : (flatO st).take (n * 4) = flatO (st.take n) := by
  induction st generalizing n with
  | nil => simp [flatO]
  | cons v r ih =>
    cases n with
    | zero => simp [flatO]
    | succ n =>
      show (opL v ++ flatO r).take ((n + 1) * 4) = opL v ++ flatO (r.take n)
      rw [List.take_append, List.take_of_length_le (by rw [opL_length]; omega), opL_length, ← ih n, show (n + 1) * 4 - 4 = n * 4 by omega]
theorem infoOp : (Tryz.prog.info? 144).map (fun i => (i.zero, i.size, i.bytes)) = some (some (.agg #[.int .i64 0, .int .i64 0, .bool false, .complex .f64 0 0]), 4, 40) := by kernel_rfl
theorem own_take4 {w : World} {base : Nat} {e : TypeId} {n N : Nat} {A : Option Addr} {cap size : Nat} {xs : List Value} (h : w.ownsRow base e size (.slice A (n + N) cap) (n + N) xs) : w.ownsRow base e size (.slice A n cap) n (xs.take (n * size)) := by
  obtain ⟨h1, h2⟩ := h
  have hm : n * size ≤ (n + N) * size := Nat.mul_le_mul_right _ (by omega)
  rcases h2 with ⟨hv, h0⟩ | ⟨g, cap', cur, hv, hb, hh, hnc, hcm, hcs, ht⟩
  · simp only [Value.slice.injEq] at hv
    obtain ⟨rfl, _, rfl⟩ := hv
    obtain rfl : n = 0 := by omega
    exact ⟨by simp, Or.inl ⟨rfl, rfl⟩⟩
  · simp only [Value.slice.injEq] at hv
    obtain ⟨rfl, _, rfl⟩ := hv
    refine ⟨?_, Or.inr ⟨g, cap, cur, rfl, hb, hh, by omega, hcm, hcs, ?_⟩⟩
    · rw [List.length_take, h1, Nat.min_eq_left hm]
    · rw [← ht, List.take_take, Nat.min_eq_left hm]

/-- an operand of the stack at its place -/
theorem vop_at {w : World} {base n : Nat} {e : TypeId} {g cap : Nat} {st : List VA} (h : w.ownsRow base e 4 (.slice (some ⟨g, 0, none⟩) n cap) n (flatO st)) {j : Nat} (hj : j < st.length) : OpAt w g (j * 4) st[j] := by
  intro i u hu
  have hi : i < 4 := by
    have := (List.getElem?_eq_some_iff.1 hu).1
    rwa [opL_length] at this
  have hfl := flatO_length st
  rw [h.cellAt (j * 4 + i) (by rw [h.1.symm, hfl]; omega)]
  have e : st = st.take j ++ (st[j] :: st.drop (j + 1)) := by rw [List.getElem_cons_drop, List.take_append_drop]
  have e2 : flatO st = flatO (st.take j) ++ (opL st[j] ++ flatO (st.drop (j + 1))) := by
    conv => lhs; rw [e]
    rw [flatO_append]; rfl
  have hlt : (flatO (st.take j)).length = j * 4 := by rw [flatO_length, List.length_take, Nat.min_eq_left (by omega)]
  rw [e2, List.getElem?_append_right (by rw [hlt]; omega), hlt, Nat.add_sub_cancel_left, List.getElem?_append_left (by rw [opL_length]; exact hi)]
  exact hu

/-- where the loop stands: what is put down is the operands so far -/
structure EE (vs : List VM) (xs : List VA) (ss : List (List UInt8)) (cs : List CM) (k : Nat) (st : List VA) : Prop where
  le : k ≤ cs.length
  len : st.length ≤ k
  run : runB (cs.drop k) st.length = some 1
  er : eRun vs xs ss (cs.drop k) st = eRun vs xs ss cs []
  ok : ∀ v ∈ st, OkV v

theorem fin_made (vs : List VM) (xs : List VA) (ss : List (List UInt8)) (hx : ∀ v ∈ xs, OkV v) (hl : vs.length = xs.length) (c : CM) (st : List VA) (hf : formedB c = true) (hn : operN c.op ≤ st.length) (hr : ∀ v ∈ st, OkV v) : Fin (madeE vs xs ss c st) := by
  unfold madeE
  have h2 := operN_le c.op
  have hc : operN c.op = 0 ∨ operN c.op = 1 ∨ operN c.op = 2 := by omega
  rcases hc with h | h | h
  · rw [h]; exact fin_leaf hx hl hf
  · rw [h]
    match st, hn with
    | [], hn => rw [h] at hn; simp at hn
    | a :: r, _ => exact fin_un (hr a (by simp))
  · rw [h]
    match st, hn with
    | [], hn => rw [h] at hn; simp at hn
    | a :: r, _ => exact fin_join (hr a (by simp))

section
variable {vs : List VM} {xs : List VA} {ss : List (List UInt8)} {cs : List CM} {k : Nat} {st : List VA}
theorem EE.zero (h : rightB cs = true) : EE vs xs ss cs 0 [] := by
  unfold rightB at h
  simp at h
  exact ⟨Nat.zero_le _, Nat.le_refl _, h.2, rfl, fun x hx => by cases hx⟩
theorem EE.next (hx : ∀ v ∈ xs, OkV v) (hl : vs.length = xs.length) (h : EE vs xs ss cs k st) (hk : k < cs.length) : formedB cs[k] = true ∧ operN cs[k].op ≤ st.length ∧
    (((madeE vs xs ss cs[k] (st.drop (st.length - operN cs[k].op))).2 = 0 ∧ EE vs xs ss cs (k + 1) (st.take (st.length - operN cs[k].op) ++ [(madeE vs xs ss cs[k] (st.drop (st.length - operN cs[k].op))).1])) ∨
     ((madeE vs xs ss cs[k] (st.drop (st.length - operN cs[k].op))).2 ≠ 0 ∧ eRun vs xs ss cs [] = erV (madeE vs xs ss cs[k] (st.drop (st.length - operN cs[k].op))).2)) := by
  have h1 := h.run
  rw [run_at hk] at h1
  split at h1
  · rename_i hc
    refine ⟨hc.1, hc.2, ?_⟩
    have hkr := h.er
    rw [List.drop_eq_getElem_cons hk, eRun] at hkr
    rcases fin_made vs xs ss hx hl cs[k] (st.drop (st.length - operN cs[k].op)) hc.1 (by simp; omega) (fun x hx => h.ok x (List.mem_of_mem_drop hx)) with ⟨h2, h3⟩ | ⟨h2, h3⟩
    · refine Or.inl ⟨h2, ⟨by omega, ?_, ?_, ?_, ?_⟩⟩
      · have := h.len; simp; omega
      · have e : (st.take (st.length - operN cs[k].op) ++ [(madeE vs xs ss cs[k] (st.drop (st.length - operN cs[k].op))).1]).length = st.length + 1 - operN cs[k].op := by simp; omega
        rw [e]; exact h1
      · rw [if_neg (by simp [h2])] at hkr; exact hkr
      · intro x hx
        rcases List.mem_append.1 hx with hx | hx
        · exact h.ok x (List.mem_of_mem_take hx)
        · simp at hx; subst hx; exact h3
    · refine Or.inr ⟨h2, ?_⟩
      rw [if_pos h2] at hkr; exact hkr.symm
  · cases h1
theorem EE.done (h : EE vs xs ss cs cs.length st) : ∃ x, st = [x] ∧ eRun vs xs ss cs [] = (x, 0) ∧ OkV x := by
  have h1 := h.run
  rw [List.drop_length] at h1
  have h2 : st.length = 1 := by simpa [runB] using h1
  match st, h2 with
  | [x], _ =>
    have h3 := h.er
    rw [List.drop_length] at h3
    exact ⟨x, rfl, h3.symm, h.ok x (by simp)⟩
theorem world_of (h : worldB vs xs = true) (hi : ∀ x ∈ xs, inL x.a = true) : xs.length = vs.length ∧ xs.all rightV = true ∧ ∀ x ∈ xs, OkV x := by
  unfold worldB at h
  simp only [Bool.and_eq_true, decide_eq_true_eq] at h
  refine ⟨h.1, h.2, fun x hx => ⟨?_, hi x hx⟩⟩
  have := h.2
  rw [List.all_eq_true] at this
  exact this x hx
end
end Go.Proofs.YtjjoffadieoaaaaGreatDoor
