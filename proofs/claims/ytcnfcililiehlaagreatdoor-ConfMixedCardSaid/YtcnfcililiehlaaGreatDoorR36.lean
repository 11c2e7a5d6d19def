/- Own texts, joined: Xs, Xt. -/
import Derived.Test.YtcnfcililiehlaaGreatDoorR33
import Derived.Test.YtcnfcililiehlaaGreatDoorR35
namespace Go.Proofs.YtcnfcililiehlaaGreatDoor.Ch.Vd
open Go.RowKit Go.ChangeShapes Go.WideShapes Go.ChangeAt Go.Joins
theorem cellsSt : Tryz.prog.cellsOf 50 = 6 := by kernel_rfl
theorem cellsTr : Tryz.prog.cellsOf 121 = 5 := by kernel_rfl
theorem cellsCh : Tryz.prog.cellsOf 27 = 5 := by kernel_rfl
theorem cellsSlA : Tryz.prog.cellsOf 48 = 1 := by kernel_rfl
theorem cellsSlS : Tryz.prog.cellsOf 22 = 1 := by kernel_rfl
theorem cellsSlV : Tryz.prog.cellsOf 23 = 1 := by kernel_rfl
theorem cellsSlSt : Tryz.prog.cellsOf 24 = 1 := by kernel_rfl
theorem cellsSlT : Tryz.prog.cellsOf 25 = 1 := by kernel_rfl
theorem bytesSt : Tryz.prog.bytesOf 50 = 96 := by kernel_rfl
theorem bytesTr : Tryz.prog.bytesOf 121 = 88 := by kernel_rfl
section
variable {H : Type} {enc : TypeId × Value -> H} {W : World} {fuel : Nat} {cs : List Value}
set_option maxRecDepth 100000 in
theorem val8 {u0 u1 u2 : Value} {x : DataW H × List MemPlace} (h : DataW.trod enc Tryz.prog W 0 (fun _ => true) true fuel 84 [u0, u1, u2] = some x) : ∃ a b c : Int, u0 = .int .i64 a /\ u1 = .int .i64 b /\ u2 = .int .i64 c := by
 obtain ⟨xs, n, rfl, _, hl, hxl, hf⟩ := DataW.trod_struct Tryz.underlying84 h;have e0 : DataW.trod enc Tryz.prog W 0 (fun _ => true) true n 3 (([u0, u1, u2].drop 0).take (Tryz.prog.cellsOf 3)) = xs[0]? := hf 0 _ rfl;have e1 : DataW.trod enc Tryz.prog W 0 (fun _ => true) true n 2 (([u0, u1, u2].drop 1).take (Tryz.prog.cellsOf 2)) = xs[1]? := hf 1 _ rfl;have e2 : DataW.trod enc Tryz.prog W 0 (fun _ => true) true n 2 (([u0, u1, u2].drop 2).take (Tryz.prog.cellsOf 2)) = xs[2]? := hf 2 _ rfl;have hx3 : xs.length = 3 := hxl;rw [cellsI, List.getElem?_eq_getElem (by omega)] at e0;rw [cellsI64, List.getElem?_eq_getElem (by omega)] at e1 e2;obtain ⟨a, h0, _, _⟩ := DataW.trod_int Tryz.underlying3 e0;obtain ⟨b, h1, _, _⟩ := DataW.trod_int Tryz.underlying2 e1;obtain ⟨c, h2, _, _⟩ := DataW.trod_int Tryz.underlying2 e2;simp at h0 h1 h2;exact ⟨a, b, c, h0, h1, h2⟩
set_option maxRecDepth 100000 in
theorem var8 {x : DataW H × List MemPlace} (h : DataW.trod enc Tryz.prog W 0 (fun _ => true) true fuel 86 cs = some x) : ∃ v : VM, cs = vaV v := by
 obtain ⟨xs, n, rfl, hx, hl, hxl, hf⟩ := DataW.trod_struct Tryz.underlying86 h;rw [cellsVar] at hl
 match cs, hl with
 | [u0, u1, u2, u3, u4, u5, u6], _ =>
  have e0 : DataW.trod enc Tryz.prog W 0 (fun _ => true) true n 9 (([u0, u1, u2, u3, u4, u5, u6].drop 0).take (Tryz.prog.cellsOf 9)) = xs[0]? := hf 0 _ rfl;have e1 : DataW.trod enc Tryz.prog W 0 (fun _ => true) true n 3 (([u0, u1, u2, u3, u4, u5, u6].drop 1).take (Tryz.prog.cellsOf 3)) = xs[1]? := hf 1 _ rfl;have e2 : DataW.trod enc Tryz.prog W 0 (fun _ => true) true n 2 (([u0, u1, u2, u3, u4, u5, u6].drop 2).take (Tryz.prog.cellsOf 2)) = xs[2]? := hf 2 _ rfl;have e3 : DataW.trod enc Tryz.prog W 0 (fun _ => true) true n 2 (([u0, u1, u2, u3, u4, u5, u6].drop 3).take (Tryz.prog.cellsOf 2)) = xs[3]? := hf 3 _ rfl;have e4 : DataW.trod enc Tryz.prog W 0 (fun _ => true) true n 84 (([u0, u1, u2, u3, u4, u5, u6].drop 4).take (Tryz.prog.cellsOf 84)) = xs[4]? := hf 4 _ rfl;have hx5 : xs.length = 5 := hxl
  match xs, hx5 with
  | [y0, y1, y2, y3, y4], _ =>
   rw [cellsS] at e0;rw [cellsI] at e1;rw [cellsI64] at e2 e3;rw [cellsVal] at e4;obtain ⟨s, h0, _, _⟩ := DataW.trod_string Tryz.underlying9 (show _ = some y0 from e0);obtain ⟨k, h1, _, _⟩ := DataW.trod_int Tryz.underlying3 (show _ = some y1 from e1);obtain ⟨lo, h2, _, _⟩ := DataW.trod_int Tryz.underlying2 (show _ = some y2 from e2);obtain ⟨hi, h3, _, _⟩ := DataW.trod_int Tryz.underlying2 (show _ = some y3 from e3);obtain ⟨a, b, c, h4, h5, h6⟩ := val8 (u0 := u4) (u1 := u5) (u2 := u6) (show _ = some y4 from e4);simp at h0 h1 h2 h3;exact ⟨⟨s.data.toList, k, lo, hi, a, b, c⟩, by rw [h0, h1, h2, h3, h4, h5, h6]; rfl⟩
set_option maxRecDepth 100000 in
theorem state8 {x : DataW H × List MemPlace} (h : DataW.trod enc Tryz.prog W 0 (fun _ => true) true fuel 50 cs = some x) :
 ∃ (s i : ByteArray) (k dp : Int) (v1 v2 : Value) (y1 y2 : DataW H × List MemPlace) (n : Nat) (d1 d2 : DataW H), cs = [.string s, .int .i64 k, .int .i64 dp, .string i, v1, v2] /\ x.1 = .agg [.lit (.string s.data.toList), d1, d2, .lit (.string i.data.toList), y1.1, y2.1] /\ DataW.trod enc Tryz.prog W 0 (fun _ => true) true n 48 [v1] = some y1 /\ DataW.trod enc Tryz.prog W 0 (fun _ => true) true n 48 [v2] = some y2 := by
 obtain ⟨xs, n, rfl, hx, hl, hxl, hf⟩ := DataW.trod_struct Tryz.underlying50 h;rw [cellsSt] at hl
 match cs, hl with
 | [u0, u1, u2, u3, u4, u5], _ =>
  have e0 : DataW.trod enc Tryz.prog W 0 (fun _ => true) true n 9 (([u0, u1, u2, u3, u4, u5].drop 0).take (Tryz.prog.cellsOf 9)) = xs[0]? := hf 0 _ rfl;have e1 : DataW.trod enc Tryz.prog W 0 (fun _ => true) true n 3 (([u0, u1, u2, u3, u4, u5].drop 1).take (Tryz.prog.cellsOf 3)) = xs[1]? := hf 1 _ rfl;have e2 : DataW.trod enc Tryz.prog W 0 (fun _ => true) true n 3 (([u0, u1, u2, u3, u4, u5].drop 2).take (Tryz.prog.cellsOf 3)) = xs[2]? := hf 2 _ rfl;have e3 : DataW.trod enc Tryz.prog W 0 (fun _ => true) true n 9 (([u0, u1, u2, u3, u4, u5].drop 3).take (Tryz.prog.cellsOf 9)) = xs[3]? := hf 3 _ rfl;have e4 : DataW.trod enc Tryz.prog W 0 (fun _ => true) true n 48 (([u0, u1, u2, u3, u4, u5].drop 4).take (Tryz.prog.cellsOf 48)) = xs[4]? := hf 4 _ rfl;have e5 : DataW.trod enc Tryz.prog W 0 (fun _ => true) true n 48 (([u0, u1, u2, u3, u4, u5].drop 5).take (Tryz.prog.cellsOf 48)) = xs[5]? := hf 5 _ rfl;have hx6 : xs.length = 6 := hxl
  match xs, hx6 with
  | [y0, y1, y2, y3, y4, y5], _ =>
   rw [cellsS] at e0 e3;rw [cellsI] at e1 e2;rw [cellsSlA] at e4 e5;obtain ⟨s, h0, g0, _⟩ := DataW.trod_string Tryz.underlying9 (show _ = some y0 from e0);obtain ⟨k, h1, _, _⟩ := DataW.trod_int Tryz.underlying3 (show _ = some y1 from e1);obtain ⟨dp, h2, _, _⟩ := DataW.trod_int Tryz.underlying3 (show _ = some y2 from e2);obtain ⟨i, h3, g3, _⟩ := DataW.trod_string Tryz.underlying9 (show _ = some y3 from e3);simp at h0 h1 h2 h3;exact ⟨s, i, k, dp, u4, u5, y4, y5, n, y1.1, y2.1, by rw [h0, h1, h2, h3], by rw [hx, g0, g3]; rfl, e4, e5⟩
set_option maxRecDepth 100000 in
theorem trans8 {x : DataW H × List MemPlace} (h : DataW.trod enc Tryz.prog W 0 (fun _ => true) true fuel 121 cs = some x) :
 ∃ (fr : Int) (s t : ByteArray) (v1 v2 : Value) (y1 y2 : DataW H × List MemPlace) (n : Nat) (d0 : DataW H), cs = [.int .i64 fr, .string s, v1, .string t, v2] /\ x.1 = .agg [d0, .lit (.string s.data.toList), y1.1, .lit (.string t.data.toList), y2.1] /\ DataW.trod enc Tryz.prog W 0 (fun _ => true) true n 114 [v1] = some y1 /\ DataW.trod enc Tryz.prog W 0 (fun _ => true) true n 48 [v2] = some y2 := by
 obtain ⟨xs, n, rfl, hx, hl, hxl, hf⟩ := DataW.trod_struct Tryz.underlying121 h;rw [cellsTr] at hl
 match cs, hl with
 | [u0, u1, u2, u3, u4], _ =>
  have e0 : DataW.trod enc Tryz.prog W 0 (fun _ => true) true n 3 (([u0, u1, u2, u3, u4].drop 0).take (Tryz.prog.cellsOf 3)) = xs[0]? := hf 0 _ rfl;have e1 : DataW.trod enc Tryz.prog W 0 (fun _ => true) true n 9 (([u0, u1, u2, u3, u4].drop 1).take (Tryz.prog.cellsOf 9)) = xs[1]? := hf 1 _ rfl;have e2 : DataW.trod enc Tryz.prog W 0 (fun _ => true) true n 114 (([u0, u1, u2, u3, u4].drop 2).take (Tryz.prog.cellsOf 114)) = xs[2]? := hf 2 _ rfl;have e3 : DataW.trod enc Tryz.prog W 0 (fun _ => true) true n 9 (([u0, u1, u2, u3, u4].drop 3).take (Tryz.prog.cellsOf 9)) = xs[3]? := hf 3 _ rfl;have e4 : DataW.trod enc Tryz.prog W 0 (fun _ => true) true n 48 (([u0, u1, u2, u3, u4].drop 4).take (Tryz.prog.cellsOf 48)) = xs[4]? := hf 4 _ rfl;have hx5 : xs.length = 5 := hxl
  match xs, hx5 with
  | [y0, y1, y2, y3, y4], _ =>
   rw [cellsI] at e0;rw [cellsS] at e1 e3;rw [cellsSlC] at e2;rw [cellsSlA] at e4;obtain ⟨fr, h0, _, _⟩ := DataW.trod_int Tryz.underlying3 (show _ = some y0 from e0);obtain ⟨s, h1, g1, _⟩ := DataW.trod_string Tryz.underlying9 (show _ = some y1 from e1);obtain ⟨t, h3, g3, _⟩ := DataW.trod_string Tryz.underlying9 (show _ = some y3 from e3);simp at h0 h1 h3;exact ⟨fr, s, t, u2, u4, y2, y4, n, y0.1, by rw [h0, h1, h3], by rw [hx, g1, g3]; rfl, e2, e4⟩
end
section
variable {H : Type} {enc : TypeId × Value -> H} {W : World} {n : Nat} {v : Value} {y : DataW H × List MemPlace}
theorem blk_in (h : DataW.trod enc Tryz.prog W 0 (fun _ => true) true n 48 [v] = some y) (hw : ∀ x ∈ y.1.weights Tryz.prog 48, x <= 140737488355328) : ∃ l, BlkR W v l /\ l.length <= 140737488355328 := by
 obtain ⟨ps, h1, h2, _⟩ := acts_in h hw;exact ⟨ps.map Prod.fst, ⟨ps, rfl, h1, by omega⟩, by rw [List.length_map]; omega⟩
theorem gd_in (h : DataW.trod enc Tryz.prog W 0 (fun _ => true) true n 114 [v] = some y) (hw : ∀ x ∈ y.1.weights Tryz.prog 114, x <= 140737488355328) : ∃ l, GdR W v l /\ l.length <= 140737488355328 /\ Names l := by
 obtain ⟨cs, h1, hn, h3, _⟩ := cells_in h;have hb : cs.length * 32 <= 140737488355328 := by
  rcases h3 with ⟨_, rfl⟩ | ⟨es, sp, hz, hl⟩
  ·simp
  ·rw [hz] at hw;have hm := hw ((es.length + sp.length) * Tryz.prog.bytesOf 176) (by simp [DataW.weights, Tryz.underlying114]);rw [bytesCell] at hm;omega
 exact ⟨cs, ⟨h1, hb⟩, by omega, hn⟩
set_option maxRecDepth 100000 in
theorem vars8 (h : DataW.trod enc Tryz.prog W 0 (fun _ => true) true n 23 [v] = some y) (hw : ∀ x ∈ y.1.weights Tryz.prog 23, x <= 140737488355328) :
 ∃ vs : List VM, Inn W 7 v vs.length (flatV vs) /\ vs.length * 64 <= 140737488355328 := by
 obtain ⟨rows, h1, h2, h4⟩ := open_rows Tryz.underlying23 cellsVar (by decide) h;rcases h2 with ⟨_, rfl⟩ | ⟨es, sp, hy, hl, hr⟩
 ·exact ⟨[], h1, by simp⟩
 ·rw [hy] at hw;simp only [DataW.weights, Tryz.underlying23, List.mem_cons, List.mem_append] at hw;obtain ⟨vs, rfl, _⟩ := rows_at vaV (fun _ (_ : VM) => True) rows 0 (fun i r hir => by
   obtain ⟨k, d, q, he, ht⟩ := hr i r hir;obtain ⟨x, rfl⟩ := var8 ht;exact ⟨x, rfl, trivial⟩)
  have hf : (vs.map vaV).flatten = flatV vs := by simp [flatV, List.flatMap_def]
  rw [hf, List.length_map] at h1;refine ⟨vs, h1, ?_⟩
  ·have hm := hw ((es.length + sp.length) * Tryz.prog.bytesOf 86) (Or.inl rfl);rw [bytesVar] at hm;rw [List.length_map] at hl;omega
set_option maxRecDepth 100000 in
theorem states8 (h : DataW.trod enc Tryz.prog W 0 (fun _ => true) true n 24 [v] = some y) (hw : ∀ x ∈ y.1.weights Tryz.prog 24, x <= 140737488355328) :
 ∃ ps : List SP, Inn W 6 v ps.length (flatS ps) /\ (∀ p ∈ ps, StR W p /\ p.1.en.length <= 140737488355328 /\ p.1.ex.length <= 140737488355328) /\ ps.length * 96 <= 140737488355328 := by
 obtain ⟨rows, h1, h2, h4⟩ := open_rows Tryz.underlying24 cellsSt (by decide) h;rcases h2 with ⟨_, rfl⟩ | ⟨es, sp, hy, hl, hr⟩
 ·exact ⟨[], h1, (fun p hp => by cases hp), by simp⟩
 ·rw [hy] at hw;simp only [DataW.weights, Tryz.underlying24, List.mem_cons, List.mem_append] at hw;obtain ⟨ps, rfl, hps⟩ := rows_at stV (fun _ (p : SP) => StR W p /\ p.1.en.length <= 140737488355328 /\ p.1.ex.length <= 140737488355328) rows 0 (fun i r hir => by
   obtain ⟨k, d, q, he, ht⟩ := hr i r hir;obtain ⟨s, ini, kd, dp, v1, v2, y1, y2, m, d1, d2, rfl, hd, t1, t2⟩ := state8 ht;simp only at hd;have hin : ∀ x, x ∈ (DataW.agg [.lit (.string s.data.toList), d1, d2, .lit (.string ini.data.toList), y1.1, y2.1] : DataW H).weights Tryz.prog 50 -> x <= 140737488355328 := fun x hx => hw x (Or.inr (Or.inl (weights_all es i d he _ (by rw [hd]; exact hx))))
   obtain ⟨l1, a1, a2⟩ := blk_in t1 (fun x hx => hin x (by simp [DataW.weights, DataW.weightsEach, Tryz.underlying50, hx]));obtain ⟨l2, b1, b2⟩ := blk_in t2 (fun x hx => hin x (by simp [DataW.weights, DataW.weightsEach, Tryz.underlying50, hx]));exact ⟨(⟨s.data.toList, kd, dp, ini.data.toList, l1, l2⟩, v1, v2), by simp only [stV]; rw [bstr_of, bstr_of], ⟨a1, b1⟩, a2, b2⟩)
  have hf : (ps.map stV).flatten = flatS ps := by simp [flatS, List.flatMap_def]
  rw [hf, List.length_map] at h1;refine ⟨ps, h1, fun p hp => ?_, ?_⟩
  ·obtain ⟨i, hi⟩ := List.getElem?_of_mem hp;exact hps i p hi
  ·have hm := hw ((es.length + sp.length) * Tryz.prog.bytesOf 50) (Or.inl rfl);rw [bytesSt] at hm;rw [List.length_map] at hl;omega
set_option maxRecDepth 100000 in
theorem transs8 (h : DataW.trod enc Tryz.prog W 0 (fun _ => true) true n 25 [v] = some y) (hw : ∀ x ∈ y.1.weights Tryz.prog 25, x <= 140737488355328) :
 ∃ ps : List TP, Inn W 5 v ps.length (flatT ps) /\ (∀ p ∈ ps, TrR W p /\ Names p.1.gd /\ p.1.ac.length <= 140737488355328) /\ ps.length * 88 <= 140737488355328 /\ ∀ A m c, v = .slice A m c -> m <= c := by
 obtain ⟨rows, h1, h2, h4⟩ := open_rows Tryz.underlying25 cellsTr (by decide) h;rcases h2 with ⟨_, rfl⟩ | ⟨es, sp, hy, hl, hr⟩
 ·exact ⟨[], h1, (fun p hp => by cases hp), by simp, h4⟩
 ·rw [hy] at hw;simp only [DataW.weights, Tryz.underlying25, List.mem_cons, List.mem_append] at hw;obtain ⟨ps, rfl, hps⟩ := rows_at trV (fun _ (p : TP) => TrR W p /\ Names p.1.gd /\ p.1.ac.length <= 140737488355328) rows 0 (fun i r hir => by
   obtain ⟨k, d, q, he, ht⟩ := hr i r hir;obtain ⟨fr, s, t, v1, v2, y1, y2, m, d0, rfl, hd, t1, t2⟩ := trans8 ht;simp only at hd;have hin : ∀ x, x ∈ (DataW.agg [d0, .lit (.string s.data.toList), y1.1, .lit (.string t.data.toList), y2.1] : DataW H).weights Tryz.prog 121 -> x <= 140737488355328 := fun x hx => hw x (Or.inr (Or.inl (weights_all es i d he _ (by rw [hd]; exact hx))))
   obtain ⟨l1, a1, _, a2⟩ := gd_in t1 (fun x hx => hin x (by simp [DataW.weights, DataW.weightsEach, Tryz.underlying121, hx]));obtain ⟨l2, b1, b2⟩ := blk_in t2 (fun x hx => hin x (by simp [DataW.weights, DataW.weightsEach, Tryz.underlying121, hx]));exact ⟨(⟨fr, s.data.toList, l1, t.data.toList, l2⟩, v1, v2), by simp only [trV]; rw [bstr_of, bstr_of], ⟨a1, b1⟩, a2, b2⟩)
  have hf : (ps.map trV).flatten = flatT ps := by simp [flatT, List.flatMap_def]
  rw [hf, List.length_map] at h1;refine ⟨ps, h1, fun p hp => ?_, ?_, h4⟩
  ·obtain ⟨i, hi⟩ := List.getElem?_of_mem hp;exact hps i p hi
  ·have hm := hw ((es.length + sp.length) * Tryz.prog.bytesOf 121) (Or.inl rfl);rw [bytesTr] at hm;rw [List.length_map] at hl;omega
set_option maxRecDepth 100000 in
theorem strs8 (h : DataW.trod enc Tryz.prog W 0 (fun _ => true) true n 22 [v] = some y) (hw : ∀ x ∈ y.1.weights Tryz.prog 22, x <= 140737488355328) :
 ∃ ss : List (List UInt8), Inn W 1 v ss.length (strsV ss) /\ ss.length * 16 <= 140737488355328 := by
 obtain ⟨rows, h1, h2, h4⟩ := open_rows Tryz.underlying22 cellsS (by decide) h;rcases h2 with ⟨_, rfl⟩ | ⟨es, sp, hy, hl, hr⟩
 ·exact ⟨[], h1, by simp⟩
 ·rw [hy] at hw;simp only [DataW.weights, Tryz.underlying22, List.mem_cons, List.mem_append] at hw;obtain ⟨ss, rfl, _⟩ := rows_at (fun l : List UInt8 => [bstr l]) (fun _ (_ : List UInt8) => True) rows 0 (fun i r hir => by
   obtain ⟨k, d, q, he, ht⟩ := hr i r hir;obtain ⟨s, h0, _, _⟩ := DataW.trod_string Tryz.underlying9 ht;exact ⟨s.data.toList, by rw [h0, bstr_of], trivial⟩)
  have hf : (ss.map (fun l : List UInt8 => [bstr l])).flatten = strsV ss := by
   clear h1 hl hr hy hw;unfold strsV
   induction ss with
   | nil => rfl
   | cons x r ih => simpa using ih
  rw [hf, List.length_map] at h1;refine ⟨ss, h1, ?_⟩
  ·have hm := hw ((es.length + sp.length) * Tryz.prog.bytesOf 9) (Or.inl rfl);rw [bytesStr] at hm;rw [List.length_map] at hl;omega
end
structure ChIn9 (W : World) (c : CH) (e1 v1 s1 t1 : Value) (sp : List SP) (tp : List TP) : Prop where
 m : ChM W c e1 v1 s1 t1 sp tp
 sb : Sb c
 es : c.es.length * 16 <= 140737488355328
 vs : c.vs.length * 64 <= 140737488355328
 ss : sp.length * 96 <= 140737488355328
 ts : tp.length * 88 <= 140737488355328
 tc : ∀ A m c, t1 = .slice A m c -> m <= c
 gn : ∀ t ∈ c.ts, Names t.gd
set_option maxRecDepth 100000 in
theorem open_chart9 {H : Type} {enc : TypeId × Value -> H} {W : World} {r : Reach} {b0 : Nat} {v : Value} {d : DataW H} {ps : List MemPlace} (hval : Value.okWide Tryz.prog W r b0 27 v)
 (h : DataW.Trod enc Tryz.prog W 0 (fun _ => true) true 27 v d ps) {ts : List TypeId} {ds : List (DataW H)} (hsz : (DataW.weightsEach Tryz.prog ts ds).all (· <= reachBytes) = true) {j : Nat} (ht : ts[j]? = some 27) (hd : ds[j]? = some d) :
 ∃ (c : CH) (e1 v1 s1 t1 : Value) (sp : List SP) (tp : List TP), v = .agg #[bstr c.nm, e1, v1, s1, t1] /\ ChIn9 W c e1 v1 s1 t1 sp tp := by
 have hw : ∀ x ∈ d.weights Tryz.prog 27, x <= 140737488355328 := fun x hx => by
  have := List.all_eq_true.1 hsz _ (DataW.weights_mem_each ht hd x hx);unfold reachBytes at this;simp at this;omega
 obtain ⟨cs, rfl, hcs⟩ := okWide_struct Tryz.underlying27 hval;obtain ⟨fuel, hf⟩ := h;obtain ⟨xs, n, _, hx, _, hxl, hfl⟩ := DataW.trod_struct Tryz.underlying27 hf;have h5 : cs.size = 5 := hcs.trans cellsCh;obtain ⟨l⟩ := cs
 match l, h5 with
 | [u0, u1, u2, u3, u4], _ =>
  have e0 : DataW.trod enc Tryz.prog W 0 (fun _ => true) true n 9 (([u0, u1, u2, u3, u4].drop 0).take (Tryz.prog.cellsOf 9)) = xs[0]? := hfl 0 _ rfl;have e1 : DataW.trod enc Tryz.prog W 0 (fun _ => true) true n 22 (([u0, u1, u2, u3, u4].drop 1).take (Tryz.prog.cellsOf 22)) = xs[1]? := hfl 1 _ rfl;have e2 : DataW.trod enc Tryz.prog W 0 (fun _ => true) true n 23 (([u0, u1, u2, u3, u4].drop 2).take (Tryz.prog.cellsOf 23)) = xs[2]? := hfl 2 _ rfl;have e3 : DataW.trod enc Tryz.prog W 0 (fun _ => true) true n 24 (([u0, u1, u2, u3, u4].drop 3).take (Tryz.prog.cellsOf 24)) = xs[3]? := hfl 3 _ rfl;have e4 : DataW.trod enc Tryz.prog W 0 (fun _ => true) true n 25 (([u0, u1, u2, u3, u4].drop 4).take (Tryz.prog.cellsOf 25)) = xs[4]? := hfl 4 _ rfl;have hx5 : xs.length = 5 := hxl
  match xs, hx5 with
  | [y0, y1, y2, y3, y4], _ =>
   rw [cellsS] at e0;rw [cellsSlS] at e1;rw [cellsSlV] at e2;rw [cellsSlSt] at e3;rw [cellsSlT] at e4;obtain ⟨s, h0, g0, _⟩ := DataW.trod_string Tryz.underlying9 (show _ = some y0 from e0);simp at h0;simp only [Prod.mk.injEq] at hx;obtain ⟨hd0, _⟩ := hx;have hdd : d = .agg [.lit (.string s.data.toList), y1.1, y2.1, y3.1, y4.1] := by rw [hd0, g0]; rfl
   rw [hdd] at hw;obtain ⟨es, a1, a3⟩ := strs8 (show _ = some y1 from e1) (fun x hx => hw x (by simp [DataW.weights, DataW.weightsEach, Tryz.underlying27, hx]));obtain ⟨vs, b1, b3⟩ := vars8 (show _ = some y2 from e2) (fun x hx => hw x (by simp [DataW.weights, DataW.weightsEach, Tryz.underlying27, hx]));obtain ⟨sp, c1, c2, c3⟩ := states8 (show _ = some y3 from e3) (fun x hx => hw x (by simp [DataW.weights, DataW.weightsEach, Tryz.underlying27, hx]));obtain ⟨tp, d1, d2, d3, d4⟩ := transs8 (show _ = some y4 from e4) (fun x hx => hw x (by simp [DataW.weights, DataW.weightsEach, Tryz.underlying27, hx]));refine ⟨⟨s.data.toList, es, vs, sp.map Prod.fst, tp.map Prod.fst⟩, u1, u2, u3, u4, sp, tp, by rw [h0, bstr_of], ⟨a1, b1, rfl, c1, rfl, d1, fun p hp => (c2 p hp).1, fun p hp => (d2 p hp).1, ?_, ?_, ?_, ?_⟩, ⟨fun x hx => ?_, fun x hx => ?_⟩, a3, b3, c3, d3, d4, fun x hx => by obtain ⟨p, hp, rfl⟩ := List.mem_map.1 hx; exact (d2 p hp).2.1⟩
   ·simp only; omega
   ·simp only; omega
   ·omega
   ·omega
   ·obtain ⟨p, hp, rfl⟩ := List.mem_map.1 hx; have := (c2 p hp).2; omega
   ·obtain ⟨p, hp, rfl⟩ := List.mem_map.1 hx; have := (d2 p hp).2; omega
end Go.Proofs.YtcnfcililiehlaaGreatDoor.Ch.Vd
namespace Go.Proofs.YtcnfcililiehlaaGreatDoor.Ch.Vd
open Go.RowKit
theorem box_cells {W : World} {D : Nat} {t : TypeId} {x0 x1 x2 x3 x4 : Value} (h : W.heap[D]? = some (.cells #[x0, x1, x2, x3, x4] t (0, 0))) : W.cell? ⟨D, 0, none⟩ = some x0 /\ W.cell? ⟨D, 1, none⟩ = some x1 /\ W.cell? ⟨D, 2, none⟩ = some x2 /\ W.cell? ⟨D, 3, none⟩ = some x3 /\ W.cell? ⟨D, 4, none⟩ = some x4 := by simp [World.cell?, h]
theorem one_strs (l : List (List UInt8)) : ∀ u ∈ strsV l, u.oneCell' = true := by
 intro u hu;obtain ⟨x, _, rfl⟩ := List.mem_map.1 hu;rfl
theorem one_vars (l : List VM) : ∀ u ∈ flatV l, u.oneCell' = true := by
 intro u hu;obtain ⟨x, _, hx⟩ := List.mem_flatMap.1 hu;simp only [vaV, List.mem_cons, List.not_mem_nil, or_false] at hx;rcases hx with rfl | rfl | rfl | rfl | rfl | rfl | rfl <;> rfl
theorem one_states {W : World} (l : List SP) (h : ∀ p ∈ l, StR W p) : ∀ u ∈ flatS l, u.oneCell' = true := by
 intro u hu;obtain ⟨x, hxl, hx⟩ := List.mem_flatMap.1 hu;obtain ⟨A, c, h1⟩ := BlkR.form (h x hxl).1;obtain ⟨B, d, h2⟩ := BlkR.form (h x hxl).2;simp only [stV, List.mem_cons, List.not_mem_nil, or_false] at hx;rcases hx with rfl | rfl | rfl | rfl | rfl | rfl
 ·rfl
 ·rfl
 ·rfl
 ·rfl
 ·rw [h1]; rfl
 ·rw [h2]; rfl
theorem one_transs {W : World} (l : List TP) (h : ∀ p ∈ l, TrR W p) : ∀ u ∈ flatT l, u.oneCell' = true := by
 intro u hu;obtain ⟨x, hxl, hx⟩ := List.mem_flatMap.1 hu;obtain ⟨A, c, h1⟩ := (h x hxl).1.1.slice;obtain ⟨B, d, h2⟩ := BlkR.form (h x hxl).2;simp only [trV, List.mem_cons, List.not_mem_nil, or_false] at hx;rcases hx with rfl | rfl | rfl | rfl | rfl
 ·rfl
 ·rfl
 ·rw [h1]; rfl
 ·rfl
 ·rw [h2]; rfl
theorem cp_step {w W w5 : World} {D j : Nat} {x : Array Value} {t : TypeId} {o : Obj} {v' : Value} (hb : Below w.heap.size w W) (hD : w.heap.size <= D) (hx : W.heap[D]? = some (.cells x t (0, 0))) (hg : (W.alloc o).grownBy w5 (some W.heap.size)) :
 Below w.heap.size w (w5.setCell ⟨D, j, none⟩ v') /\ w5.heap[D]? = some (.cells x t (0, 0)) /\ (w5.setCell ⟨D, j, none⟩ v').heap[D]? = some (.cells (x.setIfInBounds j v') t (0, 0)) /\ (∀ k, k < W.heap.size -> k ≠ D -> (w5.setCell ⟨D, j, none⟩ v').heap[k]? = W.heap[k]?) /\ W.heap.size <= (w5.setCell ⟨D, j, none⟩ v').heap.size /\ (∀ k, k ≠ D -> (w5.setCell ⟨D, j, none⟩ v').heap[k]? = w5.heap[k]?) := by
 have hlt := lt_of_heap hx;have h1 : w5.heap[D]? = some (.cells x t (0, 0)) := (hg.block D (by simp; omega) (by simp; omega)).trans (heap_old hx);have hz : W.heap.size + 1 <= w5.heap.size := by have := hg.size; simpa using this
 refine ⟨?_, h1, setCell_row h1 v', fun k hk hkD => ?_, ?_, fun k hkD => Below.heap_setCell _ _ _ k (fun e => hkD e)⟩
 ·exact ((hb.alloc hb.size o).grown hg (by have := hb.size; simp; omega) (fun k hk => by cases hk; exact hb.size)).setCell (p := ⟨D, j, none⟩) hD v'
 ·rw [Below.heap_setCell _ _ _ k (fun e => hkD e)];exact (hg.block k (by simp; omega) (by simp; omega)).trans (Below.heap_alloc W _ _ hk)
 ·simp; omega
structure Cp9 (c : CH) (sp : List SP) (tp : List TP) (w : World) (e : Ending) (w' : World) : Prop where
 ret : ∃ e1 v1 s1 t1, e = .returned (.agg #[bstr c.nm, e1, v1, s1, t1]) /\ ChM w' c e1 v1 s1 t1 sp tp /\ ∃ B, w.heap.size <= B /\ w'.ownsRow B 9 1 e1 c.es.length (strsV c.es) /\ w'.ownsRow B 50 6 s1 sp.length (flatS sp) /\ w'.ownsRow B 121 5 t1 tp.length (flatT tp)
 below : Below w.heap.size w w'
end Go.Proofs.YtcnfcililiehlaaGreatDoor.Ch.Vd
