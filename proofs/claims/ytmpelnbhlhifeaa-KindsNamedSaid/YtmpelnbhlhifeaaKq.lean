/- What comes in at the laws of layer 4: cells, variables, names, a scope. -/
import Derived.Test.YtmpelnbhlhifeaaOo
import Derived.Test.YtmpelnbhlhifeaaKb
namespace Go.Proofs.Ytmpelnbhlhifeaa
open Go.RowKit Go.ChangeShapes Go.WideShapes Go.ChangeAt

theorem cellsCell : Try.prog.cellsOf 38 = 3 := by kernel_rfl
theorem bytesCell : Try.prog.bytesOf 38 = 32 := by kernel_rfl
theorem cellsVar : Try.prog.cellsOf 44 = 7 := by kernel_rfl
theorem bytesVar : Try.prog.bytesOf 44 = 64 := by kernel_rfl
theorem cellsVal : Try.prog.cellsOf 42 = 3 := by kernel_rfl
theorem cellsI : Try.prog.cellsOf 3 = 1 := by kernel_rfl
theorem cellsI64 : Try.prog.cellsOf 2 = 1 := by kernel_rfl
theorem cellsS : Try.prog.cellsOf 9 = 1 := by kernel_rfl
theorem bytesStr : Try.prog.bytesOf 9 = 16 := by kernel_rfl

section
variable {H : Type} {enc : TypeId × Value → H} {W : World} {base : Nat} {sp : Nat → Bool} {held : Bool} {fuel : Nat} {cs : List Value}

set_option maxRecDepth 100000 in
theorem cell_struct {x : DataW H × List MemPlace} (h : DataW.trod enc Try.prog W base sp held fuel 38 cs = some x) : ∃ (o a : Int) (s : ByteArray), cs = [.int .i64 o, .int .i64 a, .string s] ∧ s.size ≤ maxLen := by
  obtain ⟨xs, n, rfl, _, hl, hxl, hf⟩ := DataW.trod_struct Try.underlying38 h
  rw [cellsCell] at hl
  match cs, hl with
  | [u0, u1, u2], _ =>
    have e0 : DataW.trod enc Try.prog W base sp held n 3 (([u0, u1, u2].drop 0).take (Try.prog.cellsOf 3)) = xs[0]? := hf 0 _ rfl
    have e1 : DataW.trod enc Try.prog W base sp held n 2 (([u0, u1, u2].drop 1).take (Try.prog.cellsOf 2)) = xs[1]? := hf 1 _ rfl
    have e2 : DataW.trod enc Try.prog W base sp held n 9 (([u0, u1, u2].drop 2).take (Try.prog.cellsOf 9)) = xs[2]? := hf 2 _ rfl
    have hx3 : xs.length = 3 := hxl
    rw [cellsI, List.getElem?_eq_getElem (by omega)] at e0
    rw [cellsI64, List.getElem?_eq_getElem (by omega)] at e1
    rw [cellsS, List.getElem?_eq_getElem (by omega)] at e2
    obtain ⟨o, h0, _, _⟩ := DataW.trod_int Try.underlying3 e0
    obtain ⟨a, h1, _, _⟩ := DataW.trod_int Try.underlying2 e1
    obtain ⟨s, h2, _, hs⟩ := DataW.trod_string Try.underlying9 e2
    simp at h0 h1 h2
    exact ⟨o, a, s, by rw [h0, h1, h2], hs⟩


theorem int3 {u0 u1 u2 : Value} {x : DataW H × List MemPlace} (h : DataW.trod enc Try.prog W base sp held fuel 42 [u0, u1, u2] = some x) : ∃ a b c : Int, u0 = .int .i64 a ∧ u1 = .int .i64 b ∧ u2 = .int .i64 c := by
  obtain ⟨xs, n, rfl, _, hl, hxl, hf⟩ := DataW.trod_struct Try.underlying42 h
  have e0 : DataW.trod enc Try.prog W base sp held n 3 (([u0, u1, u2].drop 0).take (Try.prog.cellsOf 3)) = xs[0]? := hf 0 _ rfl
  have e1 : DataW.trod enc Try.prog W base sp held n 2 (([u0, u1, u2].drop 1).take (Try.prog.cellsOf 2)) = xs[1]? := hf 1 _ rfl
  have e2 : DataW.trod enc Try.prog W base sp held n 2 (([u0, u1, u2].drop 2).take (Try.prog.cellsOf 2)) = xs[2]? := hf 2 _ rfl
  have hx3 : xs.length = 3 := hxl
  rw [cellsI, List.getElem?_eq_getElem (by omega)] at e0
  rw [cellsI64, List.getElem?_eq_getElem (by omega)] at e1 e2
  obtain ⟨a, h0, _, _⟩ := DataW.trod_int Try.underlying3 e0
  obtain ⟨b, h1, _, _⟩ := DataW.trod_int Try.underlying2 e1
  obtain ⟨c, h2, _, _⟩ := DataW.trod_int Try.underlying2 e2
  simp at h0 h1 h2
  exact ⟨a, b, c, h0, h1, h2⟩

set_option maxRecDepth 100000 in
theorem var_struct {x : DataW H × List MemPlace} (h : DataW.trod enc Try.prog W base sp held fuel 44 cs = some x) : ∃ v : VM, cs = varV v ∧ v.nm.length ≤ maxLen := by
  obtain ⟨xs, n, rfl, _, hl, hxl, hf⟩ := DataW.trod_struct Try.underlying44 h
  rw [cellsVar] at hl
  match cs, hl with
  | [u0, u1, u2, u3, u4, u5, u6], _ =>
    have e0 : DataW.trod enc Try.prog W base sp held n 9 (([u0, u1, u2, u3, u4, u5, u6].drop 0).take (Try.prog.cellsOf 9)) = xs[0]? := hf 0 _ rfl
    have e1 : DataW.trod enc Try.prog W base sp held n 3 (([u0, u1, u2, u3, u4, u5, u6].drop 1).take (Try.prog.cellsOf 3)) = xs[1]? := hf 1 _ rfl
    have e2 : DataW.trod enc Try.prog W base sp held n 2 (([u0, u1, u2, u3, u4, u5, u6].drop 2).take (Try.prog.cellsOf 2)) = xs[2]? := hf 2 _ rfl
    have e3 : DataW.trod enc Try.prog W base sp held n 2 (([u0, u1, u2, u3, u4, u5, u6].drop 3).take (Try.prog.cellsOf 2)) = xs[3]? := hf 3 _ rfl
    have e4 : DataW.trod enc Try.prog W base sp held n 42 (([u0, u1, u2, u3, u4, u5, u6].drop 4).take (Try.prog.cellsOf 42)) = xs[4]? := hf 4 _ rfl
    have hx5 : xs.length = 5 := hxl
    rw [cellsS, List.getElem?_eq_getElem (by omega)] at e0
    rw [cellsI, List.getElem?_eq_getElem (by omega)] at e1
    rw [cellsI64, List.getElem?_eq_getElem (by omega)] at e2 e3
    rw [cellsVal, List.getElem?_eq_getElem (by omega)] at e4
    obtain ⟨s, h0, _, hs⟩ := DataW.trod_string Try.underlying9 e0
    obtain ⟨k, h1, _, _⟩ := DataW.trod_int Try.underlying3 e1
    obtain ⟨lo, h2, _, _⟩ := DataW.trod_int Try.underlying2 e2
    obtain ⟨hi, h3, _, _⟩ := DataW.trod_int Try.underlying2 e3
    obtain ⟨a, b, c, h4, h5, h6⟩ := int3 (u0 := u4) (u1 := u5) (u2 := u6) e4
    simp at h0 h1 h2 h3
    refine ⟨⟨s.data.toList, k, lo, hi, a, b, c⟩, by rw [h0, h1, h2, h3, h4, h5, h6]; rfl, ?_⟩
    show s.data.toList.length ≤ _
    rw [sz0]; exact hs
theorem str_row {x : DataW H × List MemPlace} (h : DataW.trod enc Try.prog W base sp held fuel 9 cs = some x) (_hl : cs.length = 1) : ∃ l : List UInt8, cs = [bstr l] ∧ l.length ≤ maxLen := by
  obtain ⟨s, h0, _, hs⟩ := DataW.trod_string Try.underlying9 h
  exact ⟨s.data.toList, h0, by rw [sz0]; exact hs⟩
end

theorem rows_of {α : Type} (f : α → List Value) (q : α → Prop) : ∀ rows : List (List Value), (∀ r ∈ rows, ∃ a, r = f a ∧ q a) → ∃ l : List α, rows = l.map f ∧ ∀ a ∈ l, q a
  | [], _ => ⟨[], rfl, fun _ h => by cases h⟩
  | r :: rs, h => by
    obtain ⟨a, ha, hq⟩ := h r (by simp)
    obtain ⟨l, hl, hql⟩ := rows_of f q rs (fun r hr => h r (by simp [hr]))
    refine ⟨a :: l, by rw [ha, hl]; rfl, fun b hb => ?_⟩
    rcases List.mem_cons.1 hb with rfl | hb
    · exact hq
    · exact hql b hb
theorem inn_rdI {w : World} {v : Value} {cs : List CM} (h : Inn w 3 v cs.length (flat cs)) : RdI w v cs := by
  rcases h with ⟨rfl, h1, _⟩ | ⟨ad, c, rfl, _, h⟩
  · exact Or.inl ⟨rfl, List.eq_nil_of_length_eq_zero h1⟩
  · refine Or.inr ⟨ad, c, rfl, some ad, c, rfl, fun i hi => ?_⟩
    obtain ⟨b, o, rfl, _, hc⟩ := h (by omega)
    obtain ⟨f0, f1, f2⟩ := flat_at hi
    refine ⟨b, o, rfl, hc _ _ f0, ?_, ?_⟩
    · rw [Nat.add_assoc]; exact hc _ _ f1
    · rw [Nat.add_assoc]; exact hc _ _ f2

section
variable {H : Type} {enc : TypeId × Value → H} {W : World} {n : Nat} {v : Value} {y : DataW H × List MemPlace}
theorem cells_in (h : DataW.trod enc Try.prog W 0 (fun _ => true) true n 22 [v] = some y) :
    ∃ cs, RdI W v cs ∧ Names cs ∧ ((y.1 = .nil ∧ cs = []) ∨ ∃ es sp, y.1 = .slice es sp ∧ cs.length = es.length) ∧ ∀ A m c, v = .slice A m c → m ≤ c := by
  obtain ⟨rows, h1, h2, h3, h4⟩ := open_inn Try.underlying22 cellsCell (by decide) h
  obtain ⟨cs, rfl, hq⟩ := rows_of cellV (fun c : CM => c.nm.length ≤ 9223372036854775807) rows (fun r hr => by
    obtain ⟨_, k, x, hx⟩ := h2 r hr
    obtain ⟨o, a, s, rfl, hs⟩ := cell_struct hx
    exact ⟨⟨o, a, s.data.toList⟩, rfl, by show s.data.toList.length ≤ _; rw [sz0]; unfold maxLen at hs; exact hs⟩)
  have hf : (cs.map cellV).flatten = flat cs := by simp [flat, List.flatMap_def]
  rw [hf, List.length_map] at h1
  refine ⟨cs, inn_rdI h1, hq, ?_, h4⟩
  rcases h3 with ⟨e1, e2⟩ | ⟨es, sp, e1, e2⟩
  · exact Or.inl ⟨e1, List.map_eq_nil_iff.1 e2⟩
  · exact Or.inr ⟨es, sp, e1, by rw [← e2, List.length_map]⟩
theorem vars_in (h : DataW.trod enc Try.prog W 0 (fun _ => true) true n 23 [v] = some y) :
    ∃ vs, RdV W v vs ∧ (∀ x ∈ vs, x.nm.length ≤ 9223372036854775807) ∧ ((y.1 = .nil ∧ vs = []) ∨ ∃ es sp, y.1 = .slice es sp ∧ vs.length = es.length) ∧ ∀ A m c, v = .slice A m c → m ≤ c := by
  obtain ⟨rows, h1, h2, h3, h4⟩ := open_inn Try.underlying23 cellsVar (by decide) h
  obtain ⟨vs, rfl, hq⟩ := rows_of varV (fun x : VM => x.nm.length ≤ 9223372036854775807) rows (fun r hr => by
    obtain ⟨_, k, x, hx⟩ := h2 r hr
    obtain ⟨v, rfl, hs⟩ := var_struct hx
    exact ⟨v, rfl, by unfold maxLen at hs; exact hs⟩)
  have hf : (vs.map varV).flatten = flatV vs := by simp [flatV, List.flatMap_def]
  rw [hf, List.length_map] at h1
  refine ⟨vs, h1, hq, ?_, h4⟩
  rcases h3 with ⟨e1, e2⟩ | ⟨es, sp, e1, e2⟩
  · exact Or.inl ⟨e1, List.map_eq_nil_iff.1 e2⟩
  · exact Or.inr ⟨es, sp, e1, by rw [← e2, List.length_map]⟩
theorem strs_in (h : DataW.trod enc Try.prog W 0 (fun _ => true) true n 24 [v] = some y) :
    ∃ ss, RdW W v ss ∧ (∀ x ∈ ss, x.length ≤ 9223372036854775807) ∧ ((y.1 = .nil ∧ ss = []) ∨ ∃ es sp, y.1 = .slice es sp ∧ ss.length = es.length) ∧ ∀ A m c, v = .slice A m c → m ≤ c := by
  obtain ⟨rows, h1, h2, h3, h4⟩ := open_inn Try.underlying24 cellsS (by decide) h
  obtain ⟨ss, rfl, hq⟩ := rows_of (fun l : List UInt8 => [bstr l]) (fun x => x.length ≤ 9223372036854775807) rows (fun r hr => by
    obtain ⟨hl, k, x, hx⟩ := h2 r hr
    obtain ⟨l, rfl, hs⟩ := str_row hx hl
    exact ⟨l, rfl, by unfold maxLen at hs; exact hs⟩)
  have hf : (ss.map (fun l : List UInt8 => [bstr l])).flatten = ss.map bstr := by
    clear h1 h2 h3 hq
    induction ss with
    | nil => rfl
    | cons x r ih => simpa using ih
  rw [hf, List.length_map] at h1
  refine ⟨ss, h1, hq, ?_, h4⟩
  rcases h3 with ⟨e1, e2⟩ | ⟨es, sp, e1, e2⟩
  · exact Or.inl ⟨e1, List.map_eq_nil_iff.1 e2⟩
  · exact Or.inr ⟨es, sp, e1, by rw [← e2, List.length_map]⟩
end

set_option maxRecDepth 100000 in
/-- a list of cells as an argument -/
theorem open_cells {H : Type} {enc : TypeId × Value → H} {W : World} {r : Reach} {b0 : Nat} {v : Value} {d : DataW H} {ps : List MemPlace} (hval : Value.okWide Try.prog W r b0 22 v)
    (h : DataW.Trod enc Try.prog W 0 (fun _ => true) true 22 v d ps) :
    ∃ cs, RdI W v cs ∧ Names cs ∧ ((d = .nil ∧ cs = []) ∨ ∃ es sp, d = .slice es sp ∧ cs.length = es.length) ∧ ∀ A m c, v = .slice A m c → m ≤ c := by
  obtain ⟨a0, len, cap, rfl⟩ := okWide_slice Try.underlying22 hval
  obtain ⟨fuel, hf⟩ := h
  exact cells_in (y := (d, ps)) hf
end Go.Proofs.Ytmpelnbhlhifeaa
