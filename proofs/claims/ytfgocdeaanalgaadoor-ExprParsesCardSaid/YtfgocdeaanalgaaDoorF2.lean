/- Expressions as trees: a right list of cells is the cells of one; its text is the tree's. -/
import Derived.Test.YtfgocdeaanalgaaDoorEs
namespace Go.Proofs.YtfgocdeaanalgaaDoor

inductive T where
  | leaf (c : CM)
  | un (o : Int) (t : T)
  | bin (o : Int) (l r : T)

def post : T → List CM
  | .leaf c => [c]
  | .un o t => post t ++ [opC o]
  | .bin o l r => post l ++ post r ++ [opC o]
def OkT : T → Prop
  | .leaf c => formedB c = true ∧ operN c.op = 0
  | .un o t => 7 ≤ o ∧ o ≤ 10 ∧ OkT t
  | .bin o l r => 11 ≤ o ∧ o ≤ 23 ∧ OkT l ∧ OkT r
def pcT : T → Pc
  | .leaf c => joinP c none0 none0
  | .un o t => joinP (opC o) (pcT t) none0
  | .bin o l r => joinP (opC o) (pcT l) (pcT r)

theorem operN_un {o : Int} (h : 7 ≤ o ∧ o ≤ 10) : operN o = 1 := by unfold operN; rw [if_neg (by omega), if_pos h]
theorem operN_bin {o : Int} (h : 11 ≤ o ∧ o ≤ 23) : operN o = 2 := by unfold operN; rw [if_neg (by omega), if_neg (by omega)]
theorem formed_opC {o : Int} (h : 7 ≤ o ∧ o ≤ 23) : formedB (opC o) = true := by
  unfold formedB opC
  simp only
  rw [if_neg (by omega), if_neg (by omega), if_neg (by omega), decide_eq_true (show 1 ≤ o by omega), decide_eq_true (show o ≤ 23 by omega)]; rfl
theorem opC_of {c : CM} (h : formedB c = true) (ho : 1 ≤ operN c.op) : c = opC c.op ∧ 7 ≤ c.op := by
  have h7 : 7 ≤ c.op := by
    have := formed_op h
    unfold operN at ho
    split at ho
    · omega
    · omega
  refine ⟨?_, h7⟩
  unfold formedB at h
  rw [if_neg (by omega), if_neg (by omega), if_neg (by omega)] at h
  simp at h
  cases c; simp at h; simp [opC, h]

theorem fold_post {t : T} (h : OkT t) (st : List Pc) : (post t).foldl stepP st = st ++ [pcT t] := by
  induction t generalizing st with
  | leaf c =>
    show stepP st c = _
    unfold stepP
    rw [h.2, Nat.sub_zero, List.take_length, List.drop_length]
    rfl
  | un o t ih =>
    show (post t ++ [opC o]).foldl stepP st = _
    rw [List.foldl_append, ih h.2.2]
    show stepP (st ++ [pcT t]) (opC o) = _
    unfold stepP
    rw [show operN (opC o).op = 1 from operN_un ⟨h.1, h.2.1⟩]
    simp [pcT]
  | bin o l r ihl ihr =>
    show (post l ++ post r ++ [opC o]).foldl stepP st = _
    rw [List.foldl_append, List.foldl_append, ihl h.2.2.1, ihr h.2.2.2]
    show stepP (st ++ [pcT l] ++ [pcT r]) (opC o) = _
    unfold stepP
    rw [show operN (opC o).op = 2 from operN_bin ⟨h.1, h.2.1⟩]
    simp [pcT]

theorem run_post {t : T} (h : OkT t) (r : List CM) (v : Nat) : runB (post t ++ r) v = runB r (v + 1) := by
  induction t generalizing r v with
  | leaf c =>
    show (if formedB c = true ∧ operN c.op ≤ v then runB r (v + 1 - operN c.op) else none) = _
    rw [h.2, if_pos ⟨h.1, Nat.zero_le _⟩]; rfl
  | un o t ih =>
    show runB (post t ++ [opC o] ++ r) v = _
    rw [List.append_assoc, ih h.2.2]
    show (if formedB (opC o) = true ∧ operN o ≤ v + 1 then runB r (v + 1 + 1 - operN o) else none) = _
    rw [operN_un ⟨h.1, h.2.1⟩, if_pos ⟨formed_opC ⟨h.1, by have := h.2.1; omega⟩, by omega⟩]; rfl
  | bin o l r' ihl ihr =>
    show runB (post l ++ post r' ++ [opC o] ++ r) v = _
    rw [List.append_assoc, List.append_assoc, ihl h.2.2.1, ihr h.2.2.2]
    show (if formedB (opC o) = true ∧ operN o ≤ v + 1 + 1 then runB r (v + 1 + 1 + 1 - operN o) else none) = _
    rw [operN_bin ⟨h.1, h.2.1⟩, if_pos ⟨formed_opC ⟨by have := h.1; omega, h.2.1⟩, by omega⟩]; rfl

/-- several trees, their cells one behind the other -/
def OkAll (ts : List T) : Prop := ∀ t ∈ ts, OkT t
theorem trees_of : ∀ (cs : List CM) (ts : List T) (n : Nat), OkAll ts → runB cs ts.length = some n → ∃ ts', OkAll ts' ∧ ts'.flatMap post = ts.flatMap post ++ cs ∧ ts'.length = n := by
  intro cs
  induction cs with
  | nil => intro ts n ho hr; exact ⟨ts, ho, by simp, by simpa [runB] using hr⟩
  | cons c r ih =>
    intro ts n ho hr
    unfold runB at hr
    split at hr
    · rename_i hc
      obtain ⟨hf, hle⟩ := hc
      have h2 := operN_le c.op
      have hcs : operN c.op = 0 ∨ operN c.op = 1 ∨ operN c.op = 2 := by omega
      rcases hcs with h0 | h0 | h0
      · rw [h0] at hr
        obtain ⟨ts', h1, h2, h3⟩ := ih (ts ++ [.leaf c]) n (by
          intro t ht
          rcases List.mem_append.1 ht with h | h
          · exact ho t h
          · simp at h; subst h; exact ⟨hf, h0⟩) (by simpa using hr)
        exact ⟨ts', h1, by rw [h2]; simp [post], h3⟩
      · obtain ⟨hc1, hc7⟩ := opC_of hf (by omega)
        rcases List.eq_nil_or_concat ts with rfl | ⟨ts0, a, rfl⟩
        · simp at hle; omega
        · rw [List.concat_eq_append] at *
          have h10 : c.op ≤ 10 := by
            unfold operN at h0
            split at h0
            · omega
            · split at h0 <;> omega
          obtain ⟨ts', h1, h2, h3⟩ := ih (ts0 ++ [.un c.op a]) n (by
            intro t ht
            rcases List.mem_append.1 ht with h | h
            · exact ho t (List.mem_append_left _ h)
            · simp at h; subst h; exact ⟨hc7, h10, ho a (by simp)⟩) (by rw [h0] at hr; simpa using hr)
          refine ⟨ts', h1, ?_, h3⟩
          rw [h2]
          simp only [List.flatMap_append, List.flatMap_cons, List.flatMap_nil, List.append_nil, List.append_assoc, post]
          rw [← hc1]; rfl
      · obtain ⟨hc1, hc7⟩ := opC_of hf (by omega)
        rcases List.eq_nil_or_concat ts with rfl | ⟨ts1, b, rfl⟩
        · simp at hle; omega
        · rw [List.concat_eq_append] at *
          rcases List.eq_nil_or_concat ts1 with rfl | ⟨ts0, a, rfl⟩
          · simp at hle; omega
          · rw [List.concat_eq_append] at *
            have h10 : 11 ≤ c.op := by
              unfold operN at h0
              split at h0
              · omega
              · split at h0 <;> omega
            obtain ⟨ts', h1, h2, h3⟩ := ih (ts0 ++ [.bin c.op a b]) n (by
              intro t ht
              rcases List.mem_append.1 ht with h | h
              · exact ho t (List.mem_append_left _ (List.mem_append_left _ h))
              · simp at h; subst h; exact ⟨h10, (formed_op hf).2, ho a (by simp), ho b (by simp)⟩) (by rw [h0] at hr; simpa using hr)
            refine ⟨ts', h1, ?_, h3⟩
            rw [h2]
            simp only [List.flatMap_append, List.flatMap_cons, List.flatMap_nil, List.append_nil, List.append_assoc, post]
            rw [← hc1]; rfl
    · cases hr

theorem right_tree {cs : List CM} (h : rightB cs = true) : ∃ t, OkT t ∧ post t = cs := by
  unfold rightB at h
  simp at h
  obtain ⟨ts, h1, h2, h3⟩ := trees_of cs [] 1 (by intro t ht; cases ht) h.2
  match ts, h3 with
  | [t], _ => exact ⟨t, h1 t (by simp), by simpa using h2⟩
theorem tree_right {t : T} (h : OkT t) (hl : (post t).length ≤ 32) : rightB (post t) = true := by
  unfold rightB
  have := run_post h [] 0
  rw [List.append_nil] at this
  rw [this, decide_eq_true hl]; rfl
theorem tree_show {t : T} (h : OkT t) (hl : (post t).length ≤ 32) : showP (post t) = ((pcT t).1, 0) := by
  unfold showP
  rw [if_pos (tree_right h hl)]
  unfold stackP
  rw [fold_post h]; rfl
end Go.Proofs.YtfgocdeaanalgaaDoor
