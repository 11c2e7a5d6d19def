/- What comes in as a slice of strings, opened as a list of words that is read. -/
import Derived.Test.YtjjfmffmcchlmaaDoorLd
import Derived.ProofKit
import Derived.SliceStrings
namespace Go.Proofs.YtjjfmffmcchlmaaDoor
open Go.RowKit Go.ChangeShapes Go.WideShapes Go.ChangeAt

theorem cell_lt {w : World} {p : Addr} {u : Value} (h : w.cell? p = some u) : p.block < w.heap.size := by
  rcases Nat.lt_or_ge p.block w.heap.size with h' | h'
  · exact h'
  · unfold World.cell? at h
    rw [Array.getElem?_eq_none h'] at h
    simp at h

theorem cellsStr : Tryd.prog.cellsOf 9 = 1 := by kernel_rfl
theorem bytesStr : Tryd.prog.bytesOf 9 = 16 := by kernel_rfl

theorem open_words {H : Type} {enc : TypeId × Value → H} {W : World} {r : Reach} {b0 : Nat} {v : Value} {d : DataW H} {ps : List MemPlace} (hval : Value.okWide Tryd.prog W r b0 22 v)
    (h : DataW.Trod enc Tryd.prog W 0 (fun _ => true) true 22 v d ps) :
    ∃ xs, RdB W W.heap.size v xs ∧ ((d = .nil ∧ xs = []) ∨ ∃ es sp, d = .slice es sp ∧ xs.length = es.length) := by
  obtain ⟨a0, len, cap, rfl⟩ := okWide_slice Tryd.underlying22 hval
  obtain ⟨fuel, hf⟩ := h
  rcases open_strings Tryd.underlying22 Tryd.underlying9 cellsStr hf with ⟨hcs, hx⟩ | ⟨a, len', cap', ss, hcs, _, hl, hm, hz, hx, hcell, hwz⟩
  · simp [Value.cells] at hcs
    obtain ⟨rfl, rfl, rfl⟩ := hcs
    simp only [Prod.mk.injEq] at hx
    exact ⟨[], ⟨_, _, rfl, fun i hi => absurd hi (by simp)⟩, Or.inl ⟨hx.1, rfl⟩⟩
  · simp [Value.cells] at hcs
    obtain ⟨rfl, rfl, rfl⟩ := hcs
    simp only [Prod.mk.injEq] at hx
    obtain ⟨rfl, rfl⟩ := hx
    simp only [if_true] at hz
    have hlen : ((ss.take len).map (·.data.toList)).length = len := by simp; omega
    refine ⟨(ss.take len).map (·.data.toList), ⟨some a, cap, by rw [hlen], fun i hi => ⟨a, rfl, ?_⟩⟩, Or.inr ⟨_, _, rfl, by simp [strs]⟩⟩
    rw [hlen] at hi
    have hi2 : i < ss.length := by omega
    have hc := hcell i hi2
    have e : ss.getD i ByteArray.empty = ss[i] := by simp [List.getD, hi2]
    rw [e] at hc
    have hb := cell_lt hc
    rw [block_add] at hb
    refine ⟨hb, ?_⟩
    rw [hc]
    simp [strV]
end Go.Proofs.YtjjfmffmcchlmaaDoor
