/- Writing into a row of one's own: a cell, an element's cells. -/
import Derived.Test.YtpmgleioldlolaaOz
namespace Go.Proofs.Ytpmgleioldlolaa
open Go.RowKit

section
variable {w : World} {B : Nat} {e : TypeId} {size n cap g : Nat} {xs : List Value}
theorem own_cells (h : w.ownsRow B e size (.slice (some ⟨g, 0, none⟩) n cap) n xs) : ∃ cur : Array Value, B ≤ g ∧ w.heap[g]? = some (.cells cur e (0, 0)) ∧ n ≤ cap ∧ cap ≤ maxLen ∧ cur.size = cap * size ∧ cur.toList.take (n * size) = xs := by
  obtain ⟨_, ⟨hv, _⟩ | ⟨g', cap', cur, hv, h1, h2, h3, h4, h5, h6⟩⟩ := h
  · cases hv
  · simp only [Value.slice.injEq, Option.some.injEq, Addr.mk.injEq, and_true, true_and] at hv
    obtain ⟨rfl, rfl⟩ := hv
    exact ⟨cur, h1, h2, h3, h4, h5, h6⟩
theorem own_frozen (h : w.ownsRow B e size (.slice (some ⟨g, 0, none⟩) n cap) n xs) (j : Nat) : w.frozen? ⟨g, j, none⟩ = false := by
  obtain ⟨cur, _, h2, _⟩ := own_cells h
  simp [World.frozen?, h2]
/-- a cell of the row is written -/
theorem own_set (h : w.ownsRow B e size (.slice (some ⟨g, 0, none⟩) n cap) n xs) (j : Nat) (u : Value) : (w.setCell ⟨g, j, none⟩ u).ownsRow B e size (.slice (some ⟨g, 0, none⟩) n cap) n (xs.set j u) := by
  obtain ⟨cur, h1, h2, h3, h4, h5, h6⟩ := own_cells h
  refine ⟨by rw [List.length_set]; exact h.1, Or.inr ⟨g, cap, cur.setIfInBounds j u, rfl, h1, heap_setCell_same _ _ _ _ _ _ h2, h3, h4, by simpa using h5, ?_⟩⟩
  rw [Array.toList_setIfInBounds, ← h6, List.take_set]
theorem own_set_below {B' : Nat} {w0 : World} (hb : Below B' w0 w) (hg : B' ≤ g) (j : Nat) (u : Value) : Below B' w0 (w.setCell ⟨g, j, none⟩ u) := hb.setCell hg u
end
end Go.Proofs.Ytpmgleioldlolaa
