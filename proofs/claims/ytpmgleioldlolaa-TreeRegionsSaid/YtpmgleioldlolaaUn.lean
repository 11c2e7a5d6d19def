/- What comes in at the laws of layer 7: states. -/
import Derived.Test.YtpmgleioldlolaaUm
import Derived.Test.YtpmgleioldlolaaOo
import Derived.Test.YtpmgleioldlolaaRows
namespace Go.Proofs.Ytpmgleioldlolaa
open Go.RowKit Go.ChangeShapes Go.WideShapes Go.ChangeAt

theorem cellsState : Try.prog.cellsOf 35 = 6 := by kernel_rfl
theorem bytesState : Try.prog.bytesOf 35 = 96 := by kernel_rfl
theorem cellsI : Try.prog.cellsOf 3 = 1 := by kernel_rfl
theorem cellsS : Try.prog.cellsOf 9 = 1 := by kernel_rfl
theorem cellsSlA : Try.prog.cellsOf 33 = 1 := by kernel_rfl

section
variable {H : Type} {enc : TypeId × Value → H} {W : World} {fuel : Nat} {cs : List Value}
theorem slice_row {x : DataW H × List MemPlace} (h : DataW.trod enc Try.prog W 0 (fun _ => true) true fuel 33 cs = some x) : ∃ A n c, cs = [.slice A n c] := by
  rcases Go.Deep.open_slice Try.underlying33 h with ⟨hcs, _⟩ | ⟨a, len, cap, m, k, D, Pl, hcs, _⟩
  · exact ⟨_, _, _, hcs⟩
  · exact ⟨_, _, _, hcs⟩
set_option maxRecDepth 100000 in
theorem state_struct {x : DataW H × List MemPlace} (h : DataW.trod enc Try.prog W 0 (fun _ => true) true fuel 35 cs = some x) : ∃ s : SM, cs = stV s := by
  obtain ⟨xs, n, rfl, _, hl, hxl, hf⟩ := DataW.trod_struct Try.underlying35 h
  rw [cellsState] at hl
  match cs, hl with
  | [u0, u1, u2, u3, u4, u5], _ =>
    have e0 : DataW.trod enc Try.prog W 0 (fun _ => true) true n 9 (([u0, u1, u2, u3, u4, u5].drop 0).take (Try.prog.cellsOf 9)) = xs[0]? := hf 0 _ rfl
    have e1 : DataW.trod enc Try.prog W 0 (fun _ => true) true n 3 (([u0, u1, u2, u3, u4, u5].drop 1).take (Try.prog.cellsOf 3)) = xs[1]? := hf 1 _ rfl
    have e2 : DataW.trod enc Try.prog W 0 (fun _ => true) true n 3 (([u0, u1, u2, u3, u4, u5].drop 2).take (Try.prog.cellsOf 3)) = xs[2]? := hf 2 _ rfl
    have e3 : DataW.trod enc Try.prog W 0 (fun _ => true) true n 9 (([u0, u1, u2, u3, u4, u5].drop 3).take (Try.prog.cellsOf 9)) = xs[3]? := hf 3 _ rfl
    have e4 : DataW.trod enc Try.prog W 0 (fun _ => true) true n 33 (([u0, u1, u2, u3, u4, u5].drop 4).take (Try.prog.cellsOf 33)) = xs[4]? := hf 4 _ rfl
    have e5 : DataW.trod enc Try.prog W 0 (fun _ => true) true n 33 (([u0, u1, u2, u3, u4, u5].drop 5).take (Try.prog.cellsOf 33)) = xs[5]? := hf 5 _ rfl
    have hx6 : xs.length = 6 := hxl
    rw [cellsS, List.getElem?_eq_getElem (by omega)] at e0 e3
    rw [cellsI, List.getElem?_eq_getElem (by omega)] at e1 e2
    rw [cellsSlA, List.getElem?_eq_getElem (by omega)] at e4 e5
    obtain ⟨s, h0, _, _⟩ := DataW.trod_string Try.underlying9 e0
    obtain ⟨k, h1, _, _⟩ := DataW.trod_int Try.underlying3 e1
    obtain ⟨d, h2, _, _⟩ := DataW.trod_int Try.underlying3 e2
    obtain ⟨s3, h3, _, _⟩ := DataW.trod_string Try.underlying9 e3
    obtain ⟨a4, n4, c4, h4⟩ := slice_row e4
    obtain ⟨a5, n5, c5, h5⟩ := slice_row e5
    simp at h0 h1 h2 h3 h4 h5
    exact ⟨⟨s, k, d, s3, a4, n4, c4, a5, n5, c5⟩, by rw [h0, h1, h2, h3, h4, h5]; rfl⟩
end

theorem rows_of {α : Type} (f : α → List Value) : ∀ rows : List (List Value), (∀ r ∈ rows, ∃ a, r = f a) → ∃ l : List α, rows = l.map f
  | [], _ => ⟨[], rfl⟩
  | r :: rs, h => by
    obtain ⟨a, ha⟩ := h r (by simp)
    obtain ⟨l, hl⟩ := rows_of f rs (fun r hr => h r (by simp [hr]))
    exact ⟨a :: l, by rw [ha, hl]; rfl⟩
set_option maxRecDepth 100000 in
/-- a list of states as an argument -/
theorem open_states {H : Type} {enc : TypeId × Value → H} {W : World} {r : Reach} {b0 : Nat} {v : Value} {d : DataW H} {ps : List MemPlace} (hval : Value.okWide Try.prog W r b0 22 v)
    (h : DataW.Trod enc Try.prog W 0 (fun _ => true) true 22 v d ps) :
    ∃ xs, RdT W v xs ∧ ((d = .nil ∧ xs = []) ∨ ∃ es sp, d = .slice es sp ∧ xs.length = es.length) ∧ ∀ A m c, v = .slice A m c → m ≤ c := by
  obtain ⟨a0, len, cap, rfl⟩ := okWide_slice Try.underlying22 hval
  obtain ⟨fuel, hf⟩ := h
  obtain ⟨rows, h1, h2, h3, h4⟩ := open_inn Try.underlying22 cellsState (by decide) hf
  obtain ⟨xs, rfl⟩ := rows_of stV rows (fun r hr => by
    obtain ⟨_, k, x, hx⟩ := h2 r hr
    exact state_struct hx)
  have hfl : (xs.map stV).flatten = flatT xs := by simp [flatT, List.flatMap_def]
  rw [hfl, List.length_map] at h1
  refine ⟨xs, h1, ?_, h4⟩
  rcases h3 with ⟨e1, e2⟩ | ⟨es, sp, e1, e2⟩
  · exact Or.inl ⟨e1, List.map_eq_nil_iff.1 e2⟩
  · exact Or.inr ⟨es, sp, e1, by rw [← e2, List.length_map]⟩
end Go.Proofs.Ytpmgleioldlolaa
