/- Own texts, joined: Oq, F8, A13. -/
import Derived.Test.YtcnfcililiehlaaGreatDoorR3
import Derived.Test.YtcnfcililiehlaaGreatDoorR4
import Derived.Test.YtcnfcililiehlaaGreatDoorR7
import Derived.Test.YtcnfcililiehlaaGreatDoorR27
import Derived.ProofKit
import Derived.Deep.Slices
import Derived.Lib.LaidTab
import Derived.Lib.LaidU8
import Derived.LaidMore
namespace Go.Proofs.YtcnfcililiehlaaGreatDoor
open Go.RowKit Go.ChangeShapes Go.WideShapes Go.ChangeAt
section
variable {H : Type} {enc : TypeId × Value -> H} {P : Program} {W : World}
theorem flat_len {size : Nat} : ∀ (rows : List (List Value)), (∀ r ∈ rows, r.length = size) -> rows.flatten.length = rows.length * size
 | [], _ => by simp
 | x :: rs, h => by
  rw [List.flatten_cons, List.length_append, h x (by simp), flat_len rs (fun r hr => h r (by simp [hr]))];simp [Nat.succ_mul]; omega
theorem open_rows {t e : TypeId} {size n : Nat} {v : Value} {y : DataW H × List MemPlace} (ht : P.underlying t = some (.slice e)) (hC : P.cellsOf e = size) (h0 : 0 < size)
 (h : DataW.trod enc P W 0 (fun _ => true) true n t [v] = some y) :
 ∃ rows : List (List Value), Inn W size v rows.length rows.flatten /\
  ((y.1 = .nil /\ rows = []) \/ ∃ es sp, y.1 = .slice es sp /\ rows.length = es.length /\ ∀ (i : Nat) r, rows[i]? = some r -> ∃ (k : Nat) (d : DataW H) (q : List MemPlace), es[i]? = some d /\ DataW.trod enc P W 0 (fun _ => true) true k e r = some (d, q)) /\ ∀ A m c, v = .slice A m c -> m <= c := by
 rcases Go.Deep.open_slice ht h with ⟨hcs, hx⟩ | ⟨a, len, cap, m, k, D, Pl, hcs, _, hl, hm, hmm, hx, hi⟩
 ·simp at hcs;subst hcs;exact ⟨[], Inn.nil _ _, Or.inl ⟨by rw [hx], rfl⟩, fun A m c e => by injection e; omega⟩
 ·simp at hcs;subst hcs;rw [if_pos rfl] at hmm;subst hmm;rw [hC] at hi;have hall : ∀ q, q <= len -> ∃ rows : List (List Value), rows.length = q /\ (∀ (i : Nat) r, rows[i]? = some r -> r.length = size /\ DataW.trod enc P W 0 (fun _ => true) true k e r = some (D i, Pl i)) /\ ∀ j u, rows.flatten[j]? = some u -> W.cell? (a.add j) = some u := by
   intro q
   induction q with
   | zero => intro _; exact ⟨[], rfl, (by intro i r hr; simp at hr), fun j u hu => by simp at hu⟩
   | succ q ih =>
    intro hq;obtain ⟨rows, h1, h2, h3⟩ := ih (by omega);obtain ⟨r, hr1, hr2⟩ := hi q (by omega);obtain ⟨_, hrl, hat⟩ := World.cells?_some hr1;have hfl : rows.flatten.length = q * size := by
     rw [flat_len rows (fun r hr => by obtain ⟨i, hi'⟩ := List.getElem?_of_mem hr; exact (h2 i r hi').1), h1]
    refine ⟨rows ++ [r], by simp [h1], fun i r' hr' => ?_, fun j u hu => ?_⟩
    ·by_cases hi' : i < rows.length
     ·rw [List.getElem?_append_left hi'] at hr';exact h2 i r' hr'
     ·rw [List.getElem?_append_right (by omega)] at hr';have h0 : i - rows.length = 0 := by
       have := (List.getElem?_eq_some_iff.1 hr').1;simp at this; omega
      rw [h0] at hr';simp at hr';subst hr';have : i = q := by omega
      subst this;exact ⟨hrl, hr2⟩
    ·rw [List.flatten_append] at hu;by_cases hj : j < q * size
     ·rw [List.getElem?_append_left (by omega)] at hu;exact h3 j u hu
     ·rw [List.getElem?_append_right (by omega), hfl] at hu;simp only [List.flatten_cons, List.flatten_nil, List.append_nil] at hu;have hjl := (List.getElem?_eq_some_iff.1 hu).1;have h4 := hat (j - q * size) (by omega);rw [Go.Deep.add_add, hu] at h4;rw [show q * size + (j - q * size) = j by omega] at h4;exact h4
  obtain ⟨rows, h1, h2, h3⟩ := hall len (Nat.le_refl _);have hfl : rows.flatten.length = len * size := by
   rw [flat_len rows (fun r hr => by obtain ⟨i, hi'⟩ := List.getElem?_of_mem hr; exact (h2 i r hi').1), h1]
  refine ⟨rows, Or.inr ⟨a, m, by rw [h1], by rw [hfl, h1], fun hn => ?_⟩, Or.inr ⟨_, _, by rw [hx], by simp [h1], fun i r hr => ?_⟩, fun A q c e => by injection e; omega⟩
  ·rw [h1] at hn;have hlt : 0 < rows.flatten.length := by rw [hfl]; exact Nat.mul_pos hn h0
   have hc0 := h3 0 _ (List.getElem?_eq_getElem hlt);obtain ⟨bl, off, spot⟩ := a;have hc0' : W.cell? ⟨bl, off, spot⟩ = some (rows.flatten[0]'hlt) := by simpa [Addr.add] using hc0
   have := Go.Proofs.cell_spot hc0';subst this;exact ⟨bl, off, rfl, cell_lt hc0', fun j u hu => by have := h3 j u hu; rw [add_lit'] at this; exact this⟩
  ·have hil : i < len := by rw [<- h1]; exact (List.getElem?_eq_some_iff.1 hr).1
   exact ⟨k, D i, Pl i, by simp [hil], (h2 i r hr).2⟩
theorem rows_at {α : Type} (f : α -> List Value) (q : Nat -> α -> Prop) : ∀ (rows : List (List Value)) (o : Nat), (∀ (i : Nat) r, rows[i]? = some r -> ∃ a, r = f a /\ q (o + i) a) -> ∃ l : List α, rows = l.map f /\ ∀ (i : Nat) a, l[i]? = some a -> q (o + i) a
 | [], _, _ => ⟨[], rfl, fun i a h => by simp at h⟩
 | r :: rs, o, h => by
  obtain ⟨a, ha, hq⟩ := h 0 r rfl;obtain ⟨l, hl, hql⟩ := rows_at f q rs (o + 1) (fun i r hr => by
   obtain ⟨a, h1, h2⟩ := h (i + 1) r hr;exact ⟨a, h1, by rw [show o + 1 + i = o + (i + 1) by omega]; exact h2⟩)
  refine ⟨a :: l, by rw [ha, hl]; rfl, fun i b hb => ?_⟩;cases i with
  | zero => simp at hb; subst hb; exact hq
  | succ i => have := hql i b (by simpa using hb); rw [show o + (i + 1) = o + 1 + i by omega]; exact this
theorem weights_all {e : TypeId} : ∀ (es : List (DataW H)) (i : Nat) (d : DataW H), es[i]? = some d -> ∀ x ∈ d.weights P e, x ∈ DataW.weightsAll P e es
 | [], i, d, h, _, _ => by simp at h
 | d0 :: r, 0, d, h, x, hx => by
  simp at h; subst h;simp only [DataW.weightsAll, List.mem_append]; exact Or.inl hx
 | d0 :: r, i + 1, d, h, x, hx => by
  simp only [DataW.weightsAll, List.mem_append];exact Or.inr (weights_all r i d (by simpa using h) x hx)
end
end Go.Proofs.YtcnfcililiehlaaGreatDoor
namespace Go.Proofs.YtcnfcililiehlaaGreatDoor
open Go.RowKit Go.ChangeShapes Go.WideShapes Go.ChangeAt
theorem cellsOp : Tryz.prog.cellsOf 192 = 3 := by kernel_rfl
theorem cellsOps : Tryz.prog.cellsOf 212 = 39 := by kernel_rfl
section
variable {H : Type} {enc : TypeId × Value -> H} {W : World} {base : Nat} {sp : Nat -> Bool} {held : Bool} {fuel : Nat} {cs : List Value}
set_option maxRecDepth 100000 in
theorem op_struct {o st : Int} {b : List UInt8} {q : List MemPlace} (h : DataW.trod enc Tryz.prog W base sp held fuel 192 cs = some (.agg [.lit (.int .i64 o), .lit (.string b), .lit (.int .i64 st)], q)) : cs = [.int .i64 o, .string ⟨b.toArray⟩, .int .i64 st] := by
 obtain ⟨xs, n, rfl, hx, hl, hxl, hf⟩ := DataW.trod_struct Tryz.underlying192 h;rw [cellsOp] at hl
 match cs, hl with
 | [u0, u1, u2], _ =>
  have e0 : DataW.trod enc Tryz.prog W base sp held n 3 (([u0, u1, u2].drop 0).take (Tryz.prog.cellsOf 3)) = xs[0]? := hf 0 _ rfl;have e1 : DataW.trod enc Tryz.prog W base sp held n 9 (([u0, u1, u2].drop 1).take (Tryz.prog.cellsOf 9)) = xs[1]? := hf 1 _ rfl;have e2 : DataW.trod enc Tryz.prog W base sp held n 3 (([u0, u1, u2].drop 2).take (Tryz.prog.cellsOf 3)) = xs[2]? := hf 2 _ rfl;have hx3 : xs.length = 3 := hxl
  match xs, hx3 with
  | [y0, y1, y2], _ =>
   rw [cellsI] at e0 e2;rw [cellsS] at e1;obtain ⟨z0, h0, g0, _⟩ := DataW.trod_int Tryz.underlying3 (show _ = some y0 from e0);obtain ⟨z1, h1, g1, _⟩ := DataW.trod_string Tryz.underlying9 (show _ = some y1 from e1);obtain ⟨z2, h2, g2, _⟩ := DataW.trod_int Tryz.underlying3 (show _ = some y2 from e2);simp at h0 h1 h2;subst g0; subst g1; subst g2;simp at hx;obtain ⟨⟨rfl, rfl, rfl⟩, _⟩ := hx;rw [h0, h1, h2]
end
set_option maxRecDepth 100000 in
theorem ops_of {W : World} (h : Lib.VarReads Tryz.prog W "quintain/expr.operators" (.agg (tabOps.map fun o => .agg [.lit (.int .i64 o.1), .lit (.string o.2.1), .lit (.int .i64 o.2.2)]))) : Ops W := by
 obtain ⟨g, t, cs, fuel, p, hg, ht, hv, hd⟩ := h;obtain rfl := Option.some.inj (gOps.symm.trans hg);obtain rfl : 212 = t := Option.some.inj ((show (Tryz.prog.globals[1]?).map (·.type) = some 212 by kernel_rfl).symm.trans ht);unfold Ops;rw [hv]
 congr 1
 apply Array.toList_inj.1;have hlen : cs.toList.length = 39 := by
  cases fuel with
  | zero => simp [DataW.trod] at hd
  | succ fuel =>
   simp only [DataW.trod, Tryz.underlying212] at hd;split at hd
   ·rename_i hl
    rw [cellsOps] at hl
    simpa using hl
   ·cases hd
 have hrow : ∀ i, i < 13 -> (cs.toList.drop (i * 3)).take 3 = opRow (tabAt i) := by
  intro i hi;obtain ⟨f', d, q, hd1, hd2⟩ := Lib.array_elem Tryz.underlying212 hd i hi;rw [cellsOp] at hd2;have hd3 : d = .agg [.lit (.int .i64 (tabAt i).1), .lit (.string (tabAt i).2.1), .lit (.int .i64 (tabAt i).2.2)] := by
   rw [List.getElem?_map, List.getElem?_eq_getElem (by simp [tabOps]; omega)] at hd1;have := Option.some.inj hd1;rw [<- this];unfold tabAt;rw [List.getD_eq_getElem?_getD, List.getElem?_eq_getElem (by simp [tabOps]; omega)];rfl
  rw [hd3] at hd2;exact op_struct hd2
 apply List.ext_getElem?;intro j;by_cases hj : j < 39
 ·have h1 := hrow (j / 3) (by omega);obtain ⟨t0, t1, t2⟩ := tab_cells (j / 3) (by omega);rw [<- Array.getElem?_toList] at t0 t1 t2;have hc : j = j / 3 * 3 \/ j = j / 3 * 3 + 1 \/ j = j / 3 * 3 + 2 := by omega
  have get : ∀ r, r < 3 -> cs.toList[j / 3 * 3 + r]? = (opRow (tabAt (j / 3)))[r]? := by
   intro r hr;rw [<- h1, List.getElem?_take, if_pos hr, List.getElem?_drop]
  rcases hc with e | e | e
  ·rw [e]; exact (get 0 (by omega)).trans (by rw [t0]; rfl)
  ·rw [e]; exact (get 1 (by omega)).trans (by rw [t1]; rfl)
  ·rw [e]; exact (get 2 (by omega)).trans (by rw [t2]; rfl)
 ·rw [List.getElem?_eq_none (by omega), List.getElem?_eq_none (by simp [opsCells, tabOps, opRow]; omega)]
end Go.Proofs.YtcnfcililiehlaaGreatDoor
namespace Go.Proofs.YtcnfcililiehlaaGreatDoor
open Go.RowKit Go.ChangeShapes Go.WideShapes Go.ChangeAt Go.Joins
theorem cellsAct : Tryz.prog.cellsOf 116 = 3 := by kernel_rfl
theorem cellsSlC : Tryz.prog.cellsOf 114 = 1 := by kernel_rfl
theorem bytesAct : Tryz.prog.bytesOf 116 = 48 := by kernel_rfl
theorem ml_of {W : World} (h : W.ShapedOpen Tryz.prog) : ML W :=
 Go.Proofs.cell_of_shapedOpen_int (zero := #[.int .i64 0]) (t := 3) h (of_decide_eq_true (by kernel_rfl)) (by kernel_rfl) rfl (by kernel_rfl) (by kernel_rfl) Tryz.underlying3
section
variable {H : Type} {enc : TypeId × Value -> H} {W : World} {fuel : Nat} {cs : List Value}
set_option maxRecDepth 100000 in
theorem act_struct {x : DataW H × List MemPlace} (h : DataW.trod enc Tryz.prog W 0 (fun _ => true) true fuel 116 cs = some x) :
 ∃ (k : Int) (s : ByteArray) (v : Value) (y : DataW H × List MemPlace) (n : Nat) (d0 : DataW H), cs = [.int .i64 k, .string s, v] /\ x.1 = .agg [d0, .lit (.string s.data.toList), y.1] /\ DataW.trod enc Tryz.prog W 0 (fun _ => true) true n 114 [v] = some y := by
 obtain ⟨xs, n, rfl, hx, hl, hxl, hf⟩ := DataW.trod_struct Tryz.underlying116 h;rw [cellsAct] at hl
 match cs, hl with
 | [u0, u1, u2], _ =>
  have e0 : DataW.trod enc Tryz.prog W 0 (fun _ => true) true n 3 (([u0, u1, u2].drop 0).take (Tryz.prog.cellsOf 3)) = xs[0]? := hf 0 _ rfl;have e1 : DataW.trod enc Tryz.prog W 0 (fun _ => true) true n 9 (([u0, u1, u2].drop 1).take (Tryz.prog.cellsOf 9)) = xs[1]? := hf 1 _ rfl;have e2 : DataW.trod enc Tryz.prog W 0 (fun _ => true) true n 114 (([u0, u1, u2].drop 2).take (Tryz.prog.cellsOf 114)) = xs[2]? := hf 2 _ rfl;have hx3 : xs.length = 3 := hxl
  match xs, hx3 with
  | [y0, y1, y2], _ =>
   rw [cellsI] at e0;rw [cellsS] at e1;rw [cellsSlC] at e2;obtain ⟨a, h0, _, _⟩ := DataW.trod_int Tryz.underlying3 (show _ = some y0 from e0);obtain ⟨s, h1, g1, _⟩ := DataW.trod_string Tryz.underlying9 (show _ = some y1 from e1);simp at h0 h1;refine ⟨a, s, u2, y2, n, y0.1, by rw [h0, h1], by rw [hx, g1]; rfl, e2⟩
end
section
variable {H : Type} {enc : TypeId × Value -> H} {W : World} {n : Nat} {v : Value} {y : DataW H × List MemPlace}
set_option maxRecDepth 100000 in
theorem acts_in (h : DataW.trod enc Tryz.prog W 0 (fun _ => true) true n 48 [v] = some y) (hw : ∀ x ∈ y.1.weights Tryz.prog 48, x <= 140737488355328) :
 ∃ ps, RdA W v ps /\ ps.length * 48 <= 140737488355328 /\ ∀ A m c, v = .slice A m c -> m <= c := by
 obtain ⟨rows, h1, h2, h4⟩ := open_rows Tryz.underlying48 cellsAct (by decide) h;rcases h2 with ⟨_, rfl⟩ | ⟨es, sp, hy, hl, hr⟩
 ·exact ⟨[], ⟨h1, fun p hp => by cases hp⟩, by simp, h4⟩
 ·rw [hy] at hw;simp only [DataW.weights, Tryz.underlying48, List.mem_cons, List.mem_append] at hw;obtain ⟨ps, rfl, hps⟩ := rows_at actV (fun _ (p : AP) => ActR W p) rows 0 (fun i r hir => by
   obtain ⟨k, d, q, he, ht⟩ := hr i r hir;obtain ⟨ak, s, u, z, m, d0, rfl, hd, hz⟩ := act_struct ht;obtain ⟨cs, hc1, hc2, hc3, _⟩ := cells_in hz;refine ⟨(⟨ak, s.data.toList, cs⟩, u), by simp only [actV]; rw [bstr_of], hc1, ?_, hc2, ?_⟩
   ·rcases hc3 with ⟨_, rfl⟩ | ⟨es2, sp2, hz2, hl2⟩
    ·simp
    ·have hm := hw ((es2.length + sp2.length) * Tryz.prog.bytesOf 176) (Or.inr (Or.inl (weights_all es i d he _ (by
      simp only at hd;rw [hd, hz2];simp [DataW.weights, DataW.weightsEach, Tryz.underlying116, Tryz.underlying114]))))
     rw [bytesCell] at hm;simp only; omega
   ·have hm := hw s.data.toList.length (Or.inr (Or.inl (weights_all es i d he _ (by
     simp only at hd;rw [hd];simp [DataW.weights, DataW.weightsEach, Tryz.underlying116]))))
    exact hm)
  have hf : (ps.map actV).flatten = flatA ps := by simp [flatA, List.flatMap_def]
  rw [hf, List.length_map] at h1;refine ⟨ps, ⟨h1, fun p hp => ?_⟩, ?_, h4⟩
  ·obtain ⟨i, hi⟩ := List.getElem?_of_mem hp;exact hps i p hi
  ·have hm := hw ((es.length + sp.length) * Tryz.prog.bytesOf 116) (Or.inl rfl);rw [bytesAct] at hm;rw [List.length_map] at hl;omega
end
end Go.Proofs.YtcnfcililiehlaaGreatDoor
