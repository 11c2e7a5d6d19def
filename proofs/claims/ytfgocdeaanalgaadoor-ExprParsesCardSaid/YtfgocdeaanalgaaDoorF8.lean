/- What comes in as a slice of cells, opened; the table of operators, out of what the card lays. -/
import Derived.Test.YtfgocdeaanalgaaDoorF7
import Derived.ProofKit
import Derived.Deep.Slices
import Derived.Lib.LaidTab
import Derived.Lib.LaidU8
import Derived.LaidMore
namespace Go.Proofs.YtfgocdeaanalgaaDoor
open Go.RowKit Go.ChangeShapes Go.WideShapes Go.ChangeAt

theorem cellsCell : Tryd.prog.cellsOf 38 = 3 := by kernel_rfl
theorem bytesCell : Tryd.prog.bytesOf 38 = 32 := by kernel_rfl
theorem cellsI : Tryd.prog.cellsOf 3 = 1 := by kernel_rfl
theorem cellsI64 : Tryd.prog.cellsOf 2 = 1 := by kernel_rfl
theorem cellsS : Tryd.prog.cellsOf 9 = 1 := by kernel_rfl
theorem cellsOp : Tryd.prog.cellsOf 63 = 3 := by kernel_rfl
theorem cellsOps : Tryd.prog.cellsOf 64 = 39 := by kernel_rfl

section
variable {H : Type} {enc : TypeId × Value → H} {W : World} {base : Nat} {sp : Nat → Bool} {held : Bool} {fuel : Nat} {cs : List Value}

theorem cell_struct {x : DataW H × List MemPlace} (h : DataW.trod enc Tryd.prog W base sp held fuel 38 cs = some x) : ∃ (o a : Int) (s : ByteArray), cs = [.int .i64 o, .int .i64 a, .string s] ∧ s.size ≤ maxLen := by
  obtain ⟨xs, n, rfl, _, hl, hxl, hf⟩ := DataW.trod_struct Tryd.underlying38 h
  rw [cellsCell] at hl
  match cs, hl with
  | [u0, u1, u2], _ =>
    have e0 : DataW.trod enc Tryd.prog W base sp held n 3 (([u0, u1, u2].drop 0).take (Tryd.prog.cellsOf 3)) = xs[0]? := hf 0 _ rfl
    have e1 : DataW.trod enc Tryd.prog W base sp held n 2 (([u0, u1, u2].drop 1).take (Tryd.prog.cellsOf 2)) = xs[1]? := hf 1 _ rfl
    have e2 : DataW.trod enc Tryd.prog W base sp held n 9 (([u0, u1, u2].drop 2).take (Tryd.prog.cellsOf 9)) = xs[2]? := hf 2 _ rfl
    have hx3 : xs.length = 3 := hxl
    rw [cellsI, List.getElem?_eq_getElem (by omega)] at e0
    rw [cellsI64, List.getElem?_eq_getElem (by omega)] at e1
    rw [cellsS, List.getElem?_eq_getElem (by omega)] at e2
    obtain ⟨o, h0, _, _⟩ := DataW.trod_int Tryd.underlying3 e0
    obtain ⟨a, h1, _, _⟩ := DataW.trod_int Tryd.underlying2 e1
    obtain ⟨s, h2, _, hs⟩ := DataW.trod_string Tryd.underlying9 e2
    simp at h0 h1 h2
    exact ⟨o, a, s, by rw [h0, h1, h2], hs⟩

theorem op_struct {o st : Int} {b : List UInt8} {q : List MemPlace} (h : DataW.trod enc Tryd.prog W base sp held fuel 63 cs = some (.agg [.lit (.int .i64 o), .lit (.string b), .lit (.int .i64 st)], q)) : cs = [.int .i64 o, .string ⟨b.toArray⟩, .int .i64 st] := by
  obtain ⟨xs, n, rfl, hx, hl, hxl, hf⟩ := DataW.trod_struct Tryd.underlying63 h
  rw [cellsOp] at hl
  match cs, hl with
  | [u0, u1, u2], _ =>
    have e0 : DataW.trod enc Tryd.prog W base sp held n 3 (([u0, u1, u2].drop 0).take (Tryd.prog.cellsOf 3)) = xs[0]? := hf 0 _ rfl
    have e1 : DataW.trod enc Tryd.prog W base sp held n 9 (([u0, u1, u2].drop 1).take (Tryd.prog.cellsOf 9)) = xs[1]? := hf 1 _ rfl
    have e2 : DataW.trod enc Tryd.prog W base sp held n 3 (([u0, u1, u2].drop 2).take (Tryd.prog.cellsOf 3)) = xs[2]? := hf 2 _ rfl
    have hx3 : xs.length = 3 := hxl
    match xs, hx3 with
    | [y0, y1, y2], _ =>
      rw [cellsI] at e0 e2
      rw [cellsS] at e1
      obtain ⟨z0, h0, g0, _⟩ := DataW.trod_int Tryd.underlying3 (show _ = some y0 from e0)
      obtain ⟨z1, h1, g1, _⟩ := DataW.trod_string Tryd.underlying9 (show _ = some y1 from e1)
      obtain ⟨z2, h2, g2, _⟩ := DataW.trod_int Tryd.underlying3 (show _ = some y2 from e2)
      simp at h0 h1 h2
      subst g0; subst g1; subst g2
      simp at hx
      obtain ⟨⟨rfl, rfl, rfl⟩, _⟩ := hx
      rw [h0, h1, h2]
end

/-- what comes in as a slice of cells -/
theorem open_cells {H : Type} {enc : TypeId × Value → H} {W : World} {r : Reach} {b0 : Nat} {v : Value} {d : DataW H} {ps : List MemPlace} (hval : Value.okWide Tryd.prog W r b0 22 v)
    (h : DataW.Trod enc Tryd.prog W 0 (fun _ => true) true 22 v d ps) :
    ∃ cs, RdI W v cs ∧ Names cs ∧ ((d = .nil ∧ cs = []) ∨ ∃ es sp, d = .slice es sp ∧ cs.length = es.length) := by
  obtain ⟨a0, len, cap, rfl⟩ := okWide_slice Tryd.underlying22 hval
  obtain ⟨fuel, hf⟩ := h
  rcases Go.Deep.open_slice Tryd.underlying22 hf with ⟨hcs, hx⟩ | ⟨a, len', cap', m, n, D, Pl, hcs, _, hl, hm, hmm, hx, hi⟩
  · simp [Value.cells] at hcs
    obtain ⟨rfl, rfl, rfl⟩ := hcs
    simp only [Prod.mk.injEq] at hx
    exact ⟨[], Or.inl ⟨rfl, rfl⟩, (by intro c hc; cases hc), Or.inl ⟨hx.1, rfl⟩⟩
  · simp [Value.cells] at hcs
    obtain ⟨rfl, rfl, rfl⟩ := hcs
    rw [if_pos rfl] at hmm
    subst hmm
    have hxd := congrArg Prod.fst hx
    simp only at hxd
    subst hxd
    clear hx
    have hc : ∀ i, i < len → ∃ (c : CM), c.nm.length ≤ maxLen ∧ W.cell? (a.add (i * 3)) = some (.int .i64 c.op) ∧ W.cell? (a.add (i * 3 + 1)) = some (.int .i64 c.a) ∧ W.cell? (a.add (i * 3 + 2)) = some (bstr c.nm) := by
      intro i hil
      obtain ⟨cs', hc1, hc2⟩ := hi i (by omega)
      rw [cellsCell] at hc1
      obtain ⟨o, b, s, rfl, hs⟩ := cell_struct hc2
      obtain ⟨_, _, hat⟩ := World.cells?_some hc1
      refine ⟨⟨o, b, s.data.toList⟩, by simp only; rw [sz0]; exact hs, ?_, ?_, ?_⟩
      · have := hat 0 (by omega); rw [Go.Deep.add_add] at this; exact this
      · have := hat 1 (by omega); rw [Go.Deep.add_add] at this; exact this
      · have := hat 2 (by omega); rw [Go.Deep.add_add] at this; exact this
    have hall : ∀ k, k ≤ len → ∃ cs : List CM, cs.length = k ∧ ∀ i (h : i < cs.length), cs[i].nm.length ≤ maxLen ∧ W.cell? (a.add (i * 3)) = some (.int .i64 cs[i].op) ∧ W.cell? (a.add (i * 3 + 1)) = some (.int .i64 cs[i].a) ∧ W.cell? (a.add (i * 3 + 2)) = some (bstr cs[i].nm) := by
      intro k
      induction k with
      | zero => intro _; exact ⟨[], rfl, fun i h => absurd h (by simp)⟩
      | succ k ih =>
        intro hk
        obtain ⟨cs, h1, h2⟩ := ih (by omega)
        obtain ⟨c, h3⟩ := hc k (by omega)
        refine ⟨cs ++ [c], by simp [h1], fun i hi => ?_⟩
        by_cases hik : i < cs.length
        · rw [List.getElem_append_left hik]; exact h2 i hik
        · have : i = k := by simp at hi; omega
          subst this
          rw [List.getElem_append_right (by omega)]
          simp only [h1, Nat.sub_self, List.getElem_cons_zero]
          exact h3
    obtain ⟨cs, hlen, hcs⟩ := hall len (Nat.le_refl _)
    refine ⟨cs, Or.inr ⟨a, m, by rw [hlen], ⟨some a, m, by rw [hlen], fun i hik => ?_⟩⟩, ?_, Or.inr ⟨_, _, rfl, by simp [hlen]⟩⟩
    · have h0 : 0 < cs.length := by omega
      obtain ⟨_, k0, _, _⟩ := hcs 0 h0
      obtain ⟨bl, off, spot⟩ := a
      have k0 : W.cell? ⟨bl, off, spot⟩ = some (.int .i64 (cs[0]'h0).op) := by simpa [Addr.add] using k0
      have := Go.Proofs.cell_spot k0
      subst this
      obtain ⟨_, k1, k2, k3⟩ := hcs i hik
      rw [add_lit'] at k1 k2 k3
      exact ⟨bl, off, rfl, k1, by rw [Nat.add_assoc]; exact k2, by rw [Nat.add_assoc]; exact k3⟩
    · intro c hc
      obtain ⟨i, hi, rfl⟩ := List.mem_iff_getElem.1 hc
      have := (hcs i hi).1
      unfold maxLen at this
      exact this

/-- a table of operators that reads as the program's text lays it -/
theorem ops_of {W : World} (h : Lib.VarReads Tryd.prog W "quintain/expr.operators" (.agg (tabOps.map fun o => .agg [.lit (.int .i64 o.1), .lit (.string o.2.1), .lit (.int .i64 o.2.2)]))) : Ops W := by
  obtain ⟨g, t, cs, fuel, p, hg, ht, hv, hd⟩ := h
  obtain rfl := Option.some.inj (gOps.symm.trans hg)
  obtain rfl : 64 = t := Option.some.inj ((show (Tryd.prog.globals[0]?).map (·.type) = some 64 by kernel_rfl).symm.trans ht)
  unfold Ops
  rw [hv]
  congr 1
  apply Array.toList_inj.1
  have hlen : cs.toList.length = 39 := by
    cases fuel with
    | zero => simp [DataW.trod] at hd
    | succ fuel =>
      simp only [DataW.trod, Tryd.underlying64] at hd
      split at hd
      · rename_i hl
        rw [cellsOps] at hl
        simpa using hl
      · cases hd
  have hrow : ∀ i, i < 13 → (cs.toList.drop (i * 3)).take 3 = opRow (tabAt i) := by
    intro i hi
    obtain ⟨f', d, q, hd1, hd2⟩ := Lib.array_elem Tryd.underlying64 hd i hi
    rw [cellsOp] at hd2
    have hd3 : d = .agg [.lit (.int .i64 (tabAt i).1), .lit (.string (tabAt i).2.1), .lit (.int .i64 (tabAt i).2.2)] := by
      rw [List.getElem?_map, List.getElem?_eq_getElem (by simp [tabOps]; omega)] at hd1
      have := Option.some.inj hd1
      rw [← this]
      unfold tabAt
      rw [List.getD_eq_getElem?_getD, List.getElem?_eq_getElem (by simp [tabOps]; omega)]
      rfl
    rw [hd3] at hd2
    exact op_struct hd2
  apply List.ext_getElem?
  intro j
  by_cases hj : j < 39
  · have h1 := hrow (j / 3) (by omega)
    obtain ⟨t0, t1, t2⟩ := tab_cells (j / 3) (by omega)
    rw [← Array.getElem?_toList] at t0 t1 t2
    have hc : j = j / 3 * 3 ∨ j = j / 3 * 3 + 1 ∨ j = j / 3 * 3 + 2 := by omega
    have get : ∀ r, r < 3 → cs.toList[j / 3 * 3 + r]? = (opRow (tabAt (j / 3)))[r]? := by
      intro r hr
      rw [← h1, List.getElem?_take, if_pos hr, List.getElem?_drop]
    rcases hc with e | e | e
    · rw [e]; exact (get 0 (by omega)).trans (by rw [t0]; rfl)
    · rw [e]; exact (get 1 (by omega)).trans (by rw [t1]; rfl)
    · rw [e]; exact (get 2 (by omega)).trans (by rw [t2]; rfl)
  · rw [List.getElem?_eq_none (by omega), List.getElem?_eq_none (by simp [opsCells, tabOps, opRow]; omega)]
end Go.Proofs.YtfgocdeaanalgaaDoor
