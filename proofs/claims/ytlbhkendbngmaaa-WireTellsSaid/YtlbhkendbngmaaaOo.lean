/- What comes in as a slice of anything, opened to its rows. -/
import Derived.Test.YtlbhkendbngmaaaOx
import Derived.ProofKit
import Derived.Deep.Slices
import Derived.Lib.SmallJoins
import Derived.SizedLaws
import Derived.Lib.LaidTab
import Derived.Lib.LaidU8
import Derived.LaidMore
namespace Go.Proofs.Ytlbhkendbngmaaa
open Go.RowKit Go.ChangeShapes Go.WideShapes Go.ChangeAt

section
variable {H : Type} {enc : TypeId × Value → H} {P : Program} {W : World}

/-- the rows of a slice that comes in: each one is read as an element -/
theorem open_inn {t e : TypeId} {size n : Nat} {v : Value} {y : DataW H × List MemPlace} (ht : P.underlying t = some (.slice e)) (hC : P.cellsOf e = size) (h0 : 0 < size)
    (h : DataW.trod enc P W 0 (fun _ => true) true n t [v] = some y) :
    ∃ rows : List (List Value), Inn W size v rows.length rows.flatten ∧ (∀ r ∈ rows, r.length = size ∧ ∃ k x, DataW.trod enc P W 0 (fun _ => true) true k e r = some x) ∧
      ((y.1 = .nil ∧ rows = []) ∨ ∃ es sp, y.1 = .slice es sp ∧ rows.length = es.length) ∧ ∀ A m c, v = .slice A m c → m ≤ c := by
  rcases Go.Deep.open_slice ht h with ⟨hcs, hx⟩ | ⟨a, len, cap, m, k, D, Pl, hcs, _, hl, hm, hmm, hx, hi⟩
  · simp at hcs
    subst hcs
    exact ⟨[], Inn.nil _ _, (by intro r hr; cases hr), Or.inl ⟨by rw [hx], rfl⟩, fun A m c e => by injection e; omega⟩
  · simp at hcs
    subst hcs
    rw [if_pos rfl] at hmm
    subst hmm
    rw [hC] at hi
    have hall : ∀ q, q ≤ len → ∃ rows : List (List Value), rows.length = q ∧ (∀ r ∈ rows, r.length = size ∧ ∃ k x, DataW.trod enc P W 0 (fun _ => true) true k e r = some x) ∧ ∀ j u, rows.flatten[j]? = some u → W.cell? (a.add j) = some u := by
      intro q
      induction q with
      | zero => intro _; exact ⟨[], rfl, (by intro r hr; cases hr), fun j u hu => by simp at hu⟩
      | succ q ih =>
        intro hq
        obtain ⟨rows, h1, h2, h3⟩ := ih (by omega)
        obtain ⟨r, hr1, hr2⟩ := hi q (by omega)
        obtain ⟨_, hrl, hat⟩ := World.cells?_some hr1
        have hfl : rows.flatten.length = q * size := by
          rw [← h1]
          clear h3 hr1 hr2 hat ih h1
          induction rows with
          | nil => simp
          | cons x rs ihr =>
            rw [List.flatten_cons, List.length_append, (h2 x (by simp)).1, ihr (fun r hr => h2 r (by simp [hr]))]
            simp [Nat.succ_mul]; omega
        refine ⟨rows ++ [r], by simp [h1], fun r' hr' => ?_, fun j u hu => ?_⟩
        · rcases List.mem_append.1 hr' with h | h
          · exact h2 r' h
          · simp at h; subst h; exact ⟨hrl, _, _, hr2⟩
        · rw [List.flatten_append] at hu
          by_cases hj : j < q * size
          · rw [List.getElem?_append_left (by omega)] at hu
            exact h3 j u hu
          · rw [List.getElem?_append_right (by omega), hfl] at hu
            simp only [List.flatten_cons, List.flatten_nil, List.append_nil] at hu
            have hjl := (List.getElem?_eq_some_iff.1 hu).1
            have h4 := hat (j - q * size) (by omega)
            rw [Go.Deep.add_add, hu] at h4
            rw [show q * size + (j - q * size) = j by omega] at h4
            exact h4
    obtain ⟨rows, h1, h2, h3⟩ := hall len (Nat.le_refl _)
    have hfl : rows.flatten.length = len * size := by
      rw [← h1]
      clear h3 hall h1
      induction rows with
      | nil => simp
      | cons x rs ihr =>
        rw [List.flatten_cons, List.length_append, (h2 x (by simp)).1, ihr (fun r hr => h2 r (by simp [hr]))]
        simp [Nat.succ_mul]; omega
    refine ⟨rows, Or.inr ⟨a, m, by rw [h1], by rw [hfl, h1], fun hn => ?_⟩, h2, Or.inr ⟨_, _, by rw [hx], by simp [h1]⟩, fun A q c e => by injection e; omega⟩
    rw [h1] at hn
    have hlt : 0 < rows.flatten.length := by rw [hfl]; exact Nat.mul_pos hn h0
    have hc0 := h3 0 _ (List.getElem?_eq_getElem hlt)
    obtain ⟨bl, off, spot⟩ := a
    have hc0' : W.cell? ⟨bl, off, spot⟩ = some (rows.flatten[0]'hlt) := by simpa [Addr.add] using hc0
    have := Go.Proofs.cell_spot hc0'
    subst this
    exact ⟨bl, off, rfl, cell_lt hc0', fun j u hu => by have := h3 j u hu; rw [add_lit'] at this; exact this⟩
end
end Go.Proofs.Ytlbhkendbngmaaa
