/- What comes in as a slice of anything, opened to its rows: each with what it reads as. -/
import Derived.Test.YtlbhkendbngmaaaOo
namespace Go.Proofs.Ytlbhkendbngmaaa
open Go.RowKit Go.ChangeShapes Go.WideShapes Go.ChangeAt

section
variable {H : Type} {enc : TypeId × Value → H} {P : Program} {W : World}
theorem flat_len {size : Nat} : ∀ (rows : List (List Value)), (∀ r ∈ rows, r.length = size) → rows.flatten.length = rows.length * size
  | [], _ => by simp
  | x :: rs, h => by
    rw [List.flatten_cons, List.length_append, h x (by simp), flat_len rs (fun r hr => h r (by simp [hr]))]
    simp [Nat.succ_mul]; omega
/-- the rows of a slice that comes in, and its elements -/
theorem open_rows {t e : TypeId} {size n : Nat} {v : Value} {y : DataW H × List MemPlace} (ht : P.underlying t = some (.slice e)) (hC : P.cellsOf e = size) (h0 : 0 < size)
    (h : DataW.trod enc P W 0 (fun _ => true) true n t [v] = some y) :
    ∃ rows : List (List Value), Inn W size v rows.length rows.flatten ∧
      ((y.1 = .nil ∧ rows = []) ∨ ∃ es sp, y.1 = .slice es sp ∧ rows.length = es.length ∧ ∀ (i : Nat) r, rows[i]? = some r → ∃ (k : Nat) (d : DataW H) (q : List MemPlace), es[i]? = some d ∧ DataW.trod enc P W 0 (fun _ => true) true k e r = some (d, q)) ∧ ∀ A m c, v = .slice A m c → m ≤ c := by
  rcases Go.Deep.open_slice ht h with ⟨hcs, hx⟩ | ⟨a, len, cap, m, k, D, Pl, hcs, _, hl, hm, hmm, hx, hi⟩
  · simp at hcs
    subst hcs
    exact ⟨[], Inn.nil _ _, Or.inl ⟨by rw [hx], rfl⟩, fun A m c e => by injection e; omega⟩
  · simp at hcs
    subst hcs
    rw [if_pos rfl] at hmm
    subst hmm
    rw [hC] at hi
    have hall : ∀ q, q ≤ len → ∃ rows : List (List Value), rows.length = q ∧ (∀ (i : Nat) r, rows[i]? = some r → r.length = size ∧ DataW.trod enc P W 0 (fun _ => true) true k e r = some (D i, Pl i)) ∧ ∀ j u, rows.flatten[j]? = some u → W.cell? (a.add j) = some u := by
      intro q
      induction q with
      | zero => intro _; exact ⟨[], rfl, (by intro i r hr; simp at hr), fun j u hu => by simp at hu⟩
      | succ q ih =>
        intro hq
        obtain ⟨rows, h1, h2, h3⟩ := ih (by omega)
        obtain ⟨r, hr1, hr2⟩ := hi q (by omega)
        obtain ⟨_, hrl, hat⟩ := World.cells?_some hr1
        have hfl : rows.flatten.length = q * size := by
          rw [flat_len rows (fun r hr => by obtain ⟨i, hi'⟩ := List.getElem?_of_mem hr; exact (h2 i r hi').1), h1]
        refine ⟨rows ++ [r], by simp [h1], fun i r' hr' => ?_, fun j u hu => ?_⟩
        · by_cases hi' : i < rows.length
          · rw [List.getElem?_append_left hi'] at hr'
            exact h2 i r' hr'
          · rw [List.getElem?_append_right (by omega)] at hr'
            have h0 : i - rows.length = 0 := by
              have := (List.getElem?_eq_some_iff.1 hr').1
              simp at this; omega
            rw [h0] at hr'
            simp at hr'
            subst hr'
            have : i = q := by omega
            subst this
            exact ⟨hrl, hr2⟩
        · rw [List.flatten_append] at hu
          by_cases hj : j < q * size
          · rw [List.getElem?_append_left (by omega)] at hu
            exact h3 j u hu
          · rw [List.getElem?_append_right (by omega), hfl] at hu
            simp only [List.flatten_cons, List.flatten_nil, List.append_nil] at hu
            have hjl := (List.getElem?_eq_some_iff.1 hu).1
            have h4 := hat (j - q * size) (by omega)
            rw [Go.Deep.add_add, hu] at h4
            rw [show q * size + (j - q * size) = j by omega] at h4
            exact h4
    obtain ⟨rows, h1, h2, h3⟩ := hall len (Nat.le_refl _)
    have hfl : rows.flatten.length = len * size := by
      rw [flat_len rows (fun r hr => by obtain ⟨i, hi'⟩ := List.getElem?_of_mem hr; exact (h2 i r hi').1), h1]
    refine ⟨rows, Or.inr ⟨a, m, by rw [h1], by rw [hfl, h1], fun hn => ?_⟩, Or.inr ⟨_, _, by rw [hx], by simp [h1], fun i r hr => ?_⟩, fun A q c e => by injection e; omega⟩
    · rw [h1] at hn
      have hlt : 0 < rows.flatten.length := by rw [hfl]; exact Nat.mul_pos hn h0
      have hc0 := h3 0 _ (List.getElem?_eq_getElem hlt)
      obtain ⟨bl, off, spot⟩ := a
      have hc0' : W.cell? ⟨bl, off, spot⟩ = some (rows.flatten[0]'hlt) := by simpa [Addr.add] using hc0
      have := Go.Proofs.cell_spot hc0'
      subst this
      exact ⟨bl, off, rfl, cell_lt hc0', fun j u hu => by have := h3 j u hu; rw [add_lit'] at this; exact this⟩
    · have hil : i < len := by rw [← h1]; exact (List.getElem?_eq_some_iff.1 hr).1
      exact ⟨k, D i, Pl i, by simp [hil], (h2 i r hr).2⟩
/-- rows as a list of things, each by its place -/
theorem rows_at {α : Type} (f : α → List Value) (q : Nat → α → Prop) : ∀ (rows : List (List Value)) (o : Nat), (∀ (i : Nat) r, rows[i]? = some r → ∃ a, r = f a ∧ q (o + i) a) → ∃ l : List α, rows = l.map f ∧ ∀ (i : Nat) a, l[i]? = some a → q (o + i) a
  | [], _, _ => ⟨[], rfl, fun i a h => by simp at h⟩
  | r :: rs, o, h => by
    obtain ⟨a, ha, hq⟩ := h 0 r rfl
    obtain ⟨l, hl, hql⟩ := rows_at f q rs (o + 1) (fun i r hr => by
      obtain ⟨a, h1, h2⟩ := h (i + 1) r hr
      exact ⟨a, h1, by rw [show o + 1 + i = o + (i + 1) by omega]; exact h2⟩)
    refine ⟨a :: l, by rw [ha, hl]; rfl, fun i b hb => ?_⟩
    cases i with
    | zero => simp at hb; subst hb; exact hq
    | succ i => have := hql i b (by simpa using hb); rw [show o + (i + 1) = o + 1 + i by omega]; exact this
theorem weights_all {e : TypeId} : ∀ (es : List (DataW H)) (i : Nat) (d : DataW H), es[i]? = some d → ∀ x ∈ d.weights P e, x ∈ DataW.weightsAll P e es
  | [], i, d, h, _, _ => by simp at h
  | d0 :: r, 0, d, h, x, hx => by
    simp at h; subst h
    simp only [DataW.weightsAll, List.mem_append]; exact Or.inl hx
  | d0 :: r, i + 1, d, h, x, hx => by
    simp only [DataW.weightsAll, List.mem_append]
    exact Or.inr (weights_all r i d (by simpa using h) x hx)
end
end Go.Proofs.Ytlbhkendbngmaaa
