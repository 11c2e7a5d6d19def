/- What comes in at the laws of layer 5: a value, values, a world; its bounds. -/
import Derived.Test.YtpidikbhjiaogaaRows
import Derived.Test.YtpidikbhjiaogaaKq
import Derived.Test.YtpidikbhjiaogaaVg
namespace Go.Proofs.Ytpidikbhjiaogaa
open Go.RowKit Go.ChangeShapes Go.WideShapes Go.ChangeAt Go.Joins

theorem wf_in {n : Int} (h : (Lit.int .i64 n).wf = true) : inL n = true := by
  have h1 : IntKind.i64.min = -9223372036854775808 := by kernel_rfl
  have h2 : IntKind.i64.max = 9223372036854775807 := by kernel_rfl
  simp [Lit.wf, h1, h2] at h
  exact inL_iff.2 h
theorem bytesVal : Try.prog.bytesOf 23 = 24 := by kernel_rfl

section
variable {H : Type} {enc : TypeId × Value → H} {W : World} {base : Nat} {sp : Nat → Bool} {held : Bool} {fuel : Nat} {cs : List Value}
set_option maxRecDepth 100000 in
theorem val_struct {x : DataW H × List MemPlace} (h : DataW.trod enc Try.prog W base sp held fuel 23 cs = some x) : ∃ v : VA, cs = cellsV v ∧ inL v.a = true := by
  obtain ⟨xs, n, rfl, _, hl, hxl, hf⟩ := DataW.trod_struct Try.underlying23 h
  rw [cellsVal] at hl
  match cs, hl with
  | [u0, u1, u2], _ =>
    have e0 : DataW.trod enc Try.prog W base sp held n 3 (([u0, u1, u2].drop 0).take (Try.prog.cellsOf 3)) = xs[0]? := hf 0 _ rfl
    have e1 : DataW.trod enc Try.prog W base sp held n 2 (([u0, u1, u2].drop 1).take (Try.prog.cellsOf 2)) = xs[1]? := hf 1 _ rfl
    have e2 : DataW.trod enc Try.prog W base sp held n 2 (([u0, u1, u2].drop 2).take (Try.prog.cellsOf 2)) = xs[2]? := hf 2 _ rfl
    have hx3 : xs.length = 3 := hxl
    rw [cellsI, List.getElem?_eq_getElem (by omega)] at e0
    rw [cellsI64, List.getElem?_eq_getElem (by omega)] at e1 e2
    obtain ⟨a, h0, _, _⟩ := DataW.trod_int Try.underlying3 e0
    obtain ⟨b, h1, _, hw⟩ := DataW.trod_int Try.underlying2 e1
    obtain ⟨c, h2, _, _⟩ := DataW.trod_int Try.underlying2 e2
    simp at h0 h1 h2
    exact ⟨⟨a, b, c⟩, by rw [h0, h1, h2]; rfl, wf_in hw⟩
end

section
variable {H : Type} {enc : TypeId × Value → H} {W : World} {n : Nat} {v : Value} {y : DataW H × List MemPlace}
theorem vals_in (h : DataW.trod enc Try.prog W 0 (fun _ => true) true n 28 [v] = some y) :
    ∃ xs, RdX W v xs ∧ (∀ x ∈ xs, inL x.a = true) ∧ ((y.1 = .nil ∧ xs = []) ∨ ∃ es sp, y.1 = .slice es sp ∧ xs.length = es.length) := by
  obtain ⟨rows, h1, h2, h3, _⟩ := open_inn Try.underlying28 cellsVal (by decide) h
  obtain ⟨xs, rfl, hq⟩ := rows_of cellsV (fun x : VA => inL x.a = true) rows (fun r hr => by
    obtain ⟨_, k, x, hx⟩ := h2 r hr
    exact val_struct hx)
  have hf : (xs.map cellsV).flatten = flatX xs := by simp [flatX, List.flatMap_def]
  rw [hf, List.length_map] at h1
  refine ⟨xs, h1, hq, ?_⟩
  rcases h3 with ⟨e1, e2⟩ | ⟨es, sp, e1, e2⟩
  · exact Or.inl ⟨e1, List.map_eq_nil_iff.1 e2⟩
  · exact Or.inr ⟨es, sp, e1, by rw [← e2, List.length_map]⟩
end

set_option maxRecDepth 100000 in
theorem open_value {H : Type} {enc : TypeId × Value → H} {W : World} {r : Reach} {b0 : Nat} {v : Value} {d : DataW H} {ps : List MemPlace} (hval : Value.okWide Try.prog W r b0 23 v)
    (h : DataW.Trod enc Try.prog W 0 (fun _ => true) true 23 v d ps) : ∃ k a b : Int, v = .agg #[.int .i64 k, .int .i64 a, .int .i64 b] := by
  obtain ⟨v0, v1, v2, y0, y1, y2, n, rfl, _, _, h0, h1, h2⟩ := open_agg3 Try.underlying23 (by kernel_rfl) (by kernel_rfl) hval h
  obtain ⟨k, e0, _, _⟩ := DataW.trod_int Try.underlying3 h0
  obtain ⟨a, e1, _, _⟩ := DataW.trod_int Try.underlying2 h1
  obtain ⟨b, e2, _, _⟩ := DataW.trod_int Try.underlying2 h2
  simp at e0 e1 e2
  exact ⟨k, a, b, by rw [e0, e1, e2]⟩

set_option maxRecDepth 100000 in
theorem open_world {H : Type} {enc : TypeId × Value → H} {W : World} {r : Reach} {b0 : Nat} {v : Value} {d : DataW H} {ps : List MemPlace} (hval : Value.okWide Try.prog W r b0 31 v)
    (h : DataW.Trod enc Try.prog W 0 (fun _ => true) true 31 v d ps) :
    ∃ (vv xv sv : Value) (vs : List VM) (xs : List VA) (ss : List (List UInt8)) (d1 d2 d3 : DataW H), v = .agg #[vv, xv, sv] ∧ d = .agg [d1, d2, d3] ∧ RdV W vv vs ∧ RdX W xv xs ∧ RdW W sv ss ∧ (∀ x ∈ xs, inL x.a = true) ∧
      ((d1 = .nil ∧ vs = []) ∨ ∃ es sp, d1 = .slice es sp ∧ vs.length = es.length) ∧ ((d2 = .nil ∧ xs = []) ∨ ∃ es sp, d2 = .slice es sp ∧ xs.length = es.length) ∧ ((d3 = .nil ∧ ss = []) ∨ ∃ es sp, d3 = .slice es sp ∧ ss.length = es.length) := by
  obtain ⟨v0, v1, v2, y0, y1, y2, n, rfl, rfl, _, h0, h1, h2⟩ := open_agg3 Try.underlying31 (by kernel_rfl) (by kernel_rfl) hval h
  obtain ⟨vs, a1, _, a2, _⟩ := vars_in h0
  obtain ⟨xs, b1, b2, b3⟩ := vals_in h1
  obtain ⟨ss, c1, _, c2, _⟩ := strs_in h2
  exact ⟨v0, v1, v2, vs, xs, ss, y0.1, y1.1, y2.1, rfl, rfl, a1, b1, c1, b2, a2, b3, c2⟩

set_option maxRecDepth 100000 in
theorem world_sized {H : Type} {ts : List TypeId} {ds : List (DataW H)} (h : (DataW.weightsEach Try.prog ts ds).all (· ≤ reachBytes) = true) {j : Nat} {d1 d2 d3 : DataW H} {vs : List VM} {xs : List VA} {ss : List (List UInt8)} (ht : ts[j]? = some 31) (hd : ds[j]? = some (.agg [d1, d2, d3]))
    (h1 : (d1 = .nil ∧ vs = []) ∨ ∃ es sp, d1 = .slice es sp ∧ vs.length = es.length) (h2 : (d2 = .nil ∧ xs = []) ∨ ∃ es sp, d2 = .slice es sp ∧ xs.length = es.length) (h3 : (d3 = .nil ∧ ss = []) ∨ ∃ es sp, d3 = .slice es sp ∧ ss.length = es.length) : vs.length * 64 ≤ reachBytes ∧ xs.length * 24 ≤ reachBytes ∧ ss.length * 16 ≤ reachBytes := by
  refine ⟨?_, ?_, ?_⟩
  · rcases h1 with ⟨_, rfl⟩ | ⟨es, sp, rfl, hl⟩
    · simp
    · have := List.all_eq_true.1 h _ (DataW.weights_mem_each ht hd ((es.length + sp.length) * Try.prog.bytesOf 39) (by simp [DataW.weights, DataW.weightsEach, Try.underlying31, Try.underlying27]))
      rw [bytesVar] at this
      simp at this
      omega
  · rcases h2 with ⟨_, rfl⟩ | ⟨es, sp, rfl, hl⟩
    · simp
    · have := List.all_eq_true.1 h _ (DataW.weights_mem_each ht hd ((es.length + sp.length) * Try.prog.bytesOf 23) (by simp [DataW.weights, DataW.weightsEach, Try.underlying31, Try.underlying28]))
      rw [bytesVal] at this
      simp at this
      omega
  · rcases h3 with ⟨_, rfl⟩ | ⟨es, sp, rfl, hl⟩
    · simp
    · have := List.all_eq_true.1 h _ (DataW.weights_mem_each ht hd ((es.length + sp.length) * Try.prog.bytesOf 9) (by simp [DataW.weights, DataW.weightsEach, Try.underlying31, Try.underlying29]))
      rw [bytesStr] at this
      simp at this
      omega
end Go.Proofs.Ytpidikbhjiaogaa
