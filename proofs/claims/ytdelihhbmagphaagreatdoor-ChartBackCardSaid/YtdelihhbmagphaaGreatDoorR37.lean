/- Own texts, joined: Tl, Tk, Tu. -/
import Derived.Test.YtdelihhbmagphaaGreatDoorR16
import Derived.Test.YtdelihhbmagphaaGreatDoorR36
namespace Go.Proofs.YtdelihhbmagphaaGreatDoor.Ch
open Go.RowKit Go.ChangeShapes Go.WideShapes Go.ChangeAt Go.Joins
theorem cellsSt : Tryz.prog.cellsOf 67 = 6 := by kernel_rfl
theorem cellsTr : Tryz.prog.cellsOf 71 = 5 := by kernel_rfl
theorem cellsCh : Tryz.prog.cellsOf 27 = 5 := by kernel_rfl
theorem cellsSlA : Tryz.prog.cellsOf 65 = 1 := by kernel_rfl
theorem cellsSlS : Tryz.prog.cellsOf 22 = 1 := by kernel_rfl
theorem cellsSlV : Tryz.prog.cellsOf 23 = 1 := by kernel_rfl
theorem cellsSlSt : Tryz.prog.cellsOf 24 = 1 := by kernel_rfl
theorem cellsSlT : Tryz.prog.cellsOf 25 = 1 := by kernel_rfl
theorem bytesSt : Tryz.prog.bytesOf 67 = 96 := by kernel_rfl
theorem bytesTr : Tryz.prog.bytesOf 71 = 88 := by kernel_rfl
theorem i64_of {n : Int} (h : (Lit.int .i64 n).wf = true) : I64 n := by
 have h1 : IntKind.i64.min = -9223372036854775808 := by kernel_rfl
 have h2 : IntKind.i64.max = 9223372036854775807 := by kernel_rfl
 simp [Lit.wf, h1, h2] at h
 exact h
theorem showA_le (l : List AM) : (showA l).1.length ≤ 4704 := by
 by_cases h : rightA l = true
 ·exact (a_len (Or.inr h)).2
 ·have : showA l = ([], 1) := if_neg h
  rw [this]; simp
theorem showP_le (cs : List CM) : (showP cs).1.length ≤ 574 := by
 by_cases h : rightB cs = true
 ·exact show_len h
 ·rw [show_no (by simpa using h)]; simp
section
variable {H : Type} {enc : TypeId × Value → H} {W : World} {fuel : Nat} {cs : List Value}
set_option maxRecDepth 100000 in
theorem val8 {u0 u1 u2 : Value} {x : DataW H × List MemPlace} (h : DataW.trod enc Tryz.prog W 0 (fun _ => true) true fuel 62 [u0, u1, u2] = some x) : ∃ a b c : Int, u0 = .int .i64 a ∧ u1 = .int .i64 b ∧ u2 = .int .i64 c ∧ I64 b := by
 obtain ⟨xs, n, rfl, _, hl, hxl, hf⟩ := DataW.trod_struct Tryz.underlying62 h
 have e0 : DataW.trod enc Tryz.prog W 0 (fun _ => true) true n 3 (([u0, u1, u2].drop 0).take (Tryz.prog.cellsOf 3)) = xs[0]? := hf 0 _ rfl
 have e1 : DataW.trod enc Tryz.prog W 0 (fun _ => true) true n 2 (([u0, u1, u2].drop 1).take (Tryz.prog.cellsOf 2)) = xs[1]? := hf 1 _ rfl
 have e2 : DataW.trod enc Tryz.prog W 0 (fun _ => true) true n 2 (([u0, u1, u2].drop 2).take (Tryz.prog.cellsOf 2)) = xs[2]? := hf 2 _ rfl
 have hx3 : xs.length = 3 := hxl
 rw [cellsI, List.getElem?_eq_getElem (by omega)] at e0
 rw [cellsI64, List.getElem?_eq_getElem (by omega)] at e1 e2
 obtain ⟨a, h0, _, _⟩ := DataW.trod_int Tryz.underlying3 e0
 obtain ⟨b, h1, _, hw⟩ := DataW.trod_int Tryz.underlying2 e1
 obtain ⟨c, h2, _, _⟩ := DataW.trod_int Tryz.underlying2 e2
 simp at h0 h1 h2
 exact ⟨a, b, c, h0, h1, h2, i64_of hw⟩
set_option maxRecDepth 100000 in
theorem var8 {x : DataW H × List MemPlace} (h : DataW.trod enc Tryz.prog W 0 (fun _ => true) true fuel 64 cs = some x) : ∃ (v : VM) (d1 d2 d3 d4 : DataW H), cs = vaV v ∧ I64 v.lo ∧ I64 v.hi ∧ I64 v.ia ∧ x.1 = .agg [.lit (.string v.nm), d1, d2, d3, d4] := by
 obtain ⟨xs, n, rfl, hx, hl, hxl, hf⟩ := DataW.trod_struct Tryz.underlying64 h
 rw [cellsVar] at hl
 match cs, hl with
 | [u0, u1, u2, u3, u4, u5, u6], _ =>
  have e0 : DataW.trod enc Tryz.prog W 0 (fun _ => true) true n 9 (([u0, u1, u2, u3, u4, u5, u6].drop 0).take (Tryz.prog.cellsOf 9)) = xs[0]? := hf 0 _ rfl
  have e1 : DataW.trod enc Tryz.prog W 0 (fun _ => true) true n 3 (([u0, u1, u2, u3, u4, u5, u6].drop 1).take (Tryz.prog.cellsOf 3)) = xs[1]? := hf 1 _ rfl
  have e2 : DataW.trod enc Tryz.prog W 0 (fun _ => true) true n 2 (([u0, u1, u2, u3, u4, u5, u6].drop 2).take (Tryz.prog.cellsOf 2)) = xs[2]? := hf 2 _ rfl
  have e3 : DataW.trod enc Tryz.prog W 0 (fun _ => true) true n 2 (([u0, u1, u2, u3, u4, u5, u6].drop 3).take (Tryz.prog.cellsOf 2)) = xs[3]? := hf 3 _ rfl
  have e4 : DataW.trod enc Tryz.prog W 0 (fun _ => true) true n 62 (([u0, u1, u2, u3, u4, u5, u6].drop 4).take (Tryz.prog.cellsOf 62)) = xs[4]? := hf 4 _ rfl
  have hx5 : xs.length = 5 := hxl
  match xs, hx5 with
  | [y0, y1, y2, y3, y4], _ =>
   rw [cellsS] at e0
   rw [cellsI] at e1
   rw [cellsI64] at e2 e3
   rw [cellsVal] at e4
   obtain ⟨s, h0, g0, _⟩ := DataW.trod_string Tryz.underlying9 (show _ = some y0 from e0)
   obtain ⟨k, h1, _, _⟩ := DataW.trod_int Tryz.underlying3 (show _ = some y1 from e1)
   obtain ⟨lo, h2, _, w2⟩ := DataW.trod_int Tryz.underlying2 (show _ = some y2 from e2)
   obtain ⟨hi, h3, _, w3⟩ := DataW.trod_int Tryz.underlying2 (show _ = some y3 from e3)
   obtain ⟨a, b, c, h4, h5, h6, w5⟩ := val8 (u0 := u4) (u1 := u5) (u2 := u6) (show _ = some y4 from e4)
   simp at h0 h1 h2 h3
   exact ⟨⟨s.data.toList, k, lo, hi, a, b, c⟩, y1.1, y2.1, y3.1, y4.1, by rw [h0, h1, h2, h3, h4, h5, h6]; rfl, i64_of w2, i64_of w3, w5, by rw [hx, g0]; rfl⟩
set_option maxRecDepth 100000 in
theorem state8 {x : DataW H × List MemPlace} (h : DataW.trod enc Tryz.prog W 0 (fun _ => true) true fuel 67 cs = some x) :
  ∃ (s i : ByteArray) (k dp : Int) (v1 v2 : Value) (y1 y2 : DataW H × List MemPlace) (n : Nat) (d1 d2 : DataW H), cs = [.string s, .int .i64 k, .int .i64 dp, .string i, v1, v2] ∧ x.1 = .agg [.lit (.string s.data.toList), d1, d2, .lit (.string i.data.toList), y1.1, y2.1] ∧ I64 dp ∧ DataW.trod enc Tryz.prog W 0 (fun _ => true) true n 65 [v1] = some y1 ∧ DataW.trod enc Tryz.prog W 0 (fun _ => true) true n 65 [v2] = some y2 := by
 obtain ⟨xs, n, rfl, hx, hl, hxl, hf⟩ := DataW.trod_struct Tryz.underlying67 h
 rw [cellsSt] at hl
 match cs, hl with
 | [u0, u1, u2, u3, u4, u5], _ =>
  have e0 : DataW.trod enc Tryz.prog W 0 (fun _ => true) true n 9 (([u0, u1, u2, u3, u4, u5].drop 0).take (Tryz.prog.cellsOf 9)) = xs[0]? := hf 0 _ rfl
  have e1 : DataW.trod enc Tryz.prog W 0 (fun _ => true) true n 3 (([u0, u1, u2, u3, u4, u5].drop 1).take (Tryz.prog.cellsOf 3)) = xs[1]? := hf 1 _ rfl
  have e2 : DataW.trod enc Tryz.prog W 0 (fun _ => true) true n 3 (([u0, u1, u2, u3, u4, u5].drop 2).take (Tryz.prog.cellsOf 3)) = xs[2]? := hf 2 _ rfl
  have e3 : DataW.trod enc Tryz.prog W 0 (fun _ => true) true n 9 (([u0, u1, u2, u3, u4, u5].drop 3).take (Tryz.prog.cellsOf 9)) = xs[3]? := hf 3 _ rfl
  have e4 : DataW.trod enc Tryz.prog W 0 (fun _ => true) true n 65 (([u0, u1, u2, u3, u4, u5].drop 4).take (Tryz.prog.cellsOf 65)) = xs[4]? := hf 4 _ rfl
  have e5 : DataW.trod enc Tryz.prog W 0 (fun _ => true) true n 65 (([u0, u1, u2, u3, u4, u5].drop 5).take (Tryz.prog.cellsOf 65)) = xs[5]? := hf 5 _ rfl
  have hx6 : xs.length = 6 := hxl
  match xs, hx6 with
  | [y0, y1, y2, y3, y4, y5], _ =>
   rw [cellsS] at e0 e3
   rw [cellsI] at e1 e2
   rw [cellsSlA] at e4 e5
   obtain ⟨s, h0, g0, _⟩ := DataW.trod_string Tryz.underlying9 (show _ = some y0 from e0)
   obtain ⟨k, h1, _, _⟩ := DataW.trod_int Tryz.underlying3 (show _ = some y1 from e1)
   obtain ⟨dp, h2, _, w2⟩ := DataW.trod_int Tryz.underlying3 (show _ = some y2 from e2)
   obtain ⟨i, h3, g3, _⟩ := DataW.trod_string Tryz.underlying9 (show _ = some y3 from e3)
   simp at h0 h1 h2 h3
   exact ⟨s, i, k, dp, u4, u5, y4, y5, n, y1.1, y2.1, by rw [h0, h1, h2, h3], by rw [hx, g0, g3]; rfl, i64_of w2, e4, e5⟩
set_option maxRecDepth 100000 in
theorem trans8 {x : DataW H × List MemPlace} (h : DataW.trod enc Tryz.prog W 0 (fun _ => true) true fuel 71 cs = some x) :
  ∃ (fr : Int) (s t : ByteArray) (v1 v2 : Value) (y1 y2 : DataW H × List MemPlace) (n : Nat) (d0 : DataW H), cs = [.int .i64 fr, .string s, v1, .string t, v2] ∧ x.1 = .agg [d0, .lit (.string s.data.toList), y1.1, .lit (.string t.data.toList), y2.1] ∧ DataW.trod enc Tryz.prog W 0 (fun _ => true) true n 69 [v1] = some y1 ∧ DataW.trod enc Tryz.prog W 0 (fun _ => true) true n 65 [v2] = some y2 := by
 obtain ⟨xs, n, rfl, hx, hl, hxl, hf⟩ := DataW.trod_struct Tryz.underlying71 h
 rw [cellsTr] at hl
 match cs, hl with
 | [u0, u1, u2, u3, u4], _ =>
  have e0 : DataW.trod enc Tryz.prog W 0 (fun _ => true) true n 3 (([u0, u1, u2, u3, u4].drop 0).take (Tryz.prog.cellsOf 3)) = xs[0]? := hf 0 _ rfl
  have e1 : DataW.trod enc Tryz.prog W 0 (fun _ => true) true n 9 (([u0, u1, u2, u3, u4].drop 1).take (Tryz.prog.cellsOf 9)) = xs[1]? := hf 1 _ rfl
  have e2 : DataW.trod enc Tryz.prog W 0 (fun _ => true) true n 69 (([u0, u1, u2, u3, u4].drop 2).take (Tryz.prog.cellsOf 69)) = xs[2]? := hf 2 _ rfl
  have e3 : DataW.trod enc Tryz.prog W 0 (fun _ => true) true n 9 (([u0, u1, u2, u3, u4].drop 3).take (Tryz.prog.cellsOf 9)) = xs[3]? := hf 3 _ rfl
  have e4 : DataW.trod enc Tryz.prog W 0 (fun _ => true) true n 65 (([u0, u1, u2, u3, u4].drop 4).take (Tryz.prog.cellsOf 65)) = xs[4]? := hf 4 _ rfl
  have hx5 : xs.length = 5 := hxl
  match xs, hx5 with
  | [y0, y1, y2, y3, y4], _ =>
   rw [cellsI] at e0
   rw [cellsS] at e1 e3
   rw [cellsSlC] at e2
   rw [cellsSlA] at e4
   obtain ⟨fr, h0, _, _⟩ := DataW.trod_int Tryz.underlying3 (show _ = some y0 from e0)
   obtain ⟨s, h1, g1, _⟩ := DataW.trod_string Tryz.underlying9 (show _ = some y1 from e1)
   obtain ⟨t, h3, g3, _⟩ := DataW.trod_string Tryz.underlying9 (show _ = some y3 from e3)
   simp at h0 h1 h3
   exact ⟨fr, s, t, u2, u4, y2, y4, n, y0.1, by rw [h0, h1, h3], by rw [hx, g1, g3]; rfl, e2, e4⟩
end
section
variable {H : Type} {enc : TypeId × Value → H} {W : World} {n : Nat} {v : Value} {y : DataW H × List MemPlace}
theorem blk_in (h : DataW.trod enc Tryz.prog W 0 (fun _ => true) true n 65 [v] = some y) (hw : ∀ x ∈ y.1.weights Tryz.prog 65, x ≤ 140737488355328) : ∃ l, BlkR W v l ∧ l.length ≤ 140737488355328 := by
 obtain ⟨ps, h1, h2, _⟩ := acts_in h hw
 exact ⟨ps.map Prod.fst, ⟨ps, rfl, h1, by omega⟩, by rw [List.length_map]; omega⟩
theorem gd_in (h : DataW.trod enc Tryz.prog W 0 (fun _ => true) true n 69 [v] = some y) (hw : ∀ x ∈ y.1.weights Tryz.prog 69, x ≤ 140737488355328) : ∃ l, GdR W v l ∧ l.length ≤ 140737488355328 := by
 obtain ⟨cs, h1, _, h3, _⟩ := cells_in h
 have hb : cs.length * 32 ≤ 140737488355328 := by
  rcases h3 with ⟨_, rfl⟩ | ⟨es, sp, hz, hl⟩
  ·simp
  ·rw [hz] at hw
   have hm := hw ((es.length + sp.length) * Tryz.prog.bytesOf 96) (by simp [DataW.weights, Tryz.underlying69])
   rw [bytesCell] at hm
   omega
 exact ⟨cs, ⟨h1, hb⟩, by omega⟩
set_option maxRecDepth 100000 in
theorem vars8 (h : DataW.trod enc Tryz.prog W 0 (fun _ => true) true n 23 [v] = some y) (hw : ∀ x ∈ y.1.weights Tryz.prog 23, x ≤ 140737488355328) :
  ∃ vs : List VM, Inn W 7 v vs.length (flatV vs) ∧ (∀ x ∈ vs, VaZ x) ∧ vs.length * 64 ≤ 140737488355328 := by
 obtain ⟨rows, h1, h2, h4⟩ := open_rows Tryz.underlying23 cellsVar (by decide) h
 rcases h2 with ⟨_, rfl⟩ | ⟨es, sp, hy, hl, hr⟩
 ·exact ⟨[], h1, (fun p hp => by cases hp), by simp⟩
 ·rw [hy] at hw
  simp only [DataW.weights, Tryz.underlying23, List.mem_cons, List.mem_append] at hw
  obtain ⟨vs, rfl, hvs⟩ := rows_at vaV (fun _ (x : VM) => VaZ x) rows 0 (fun i r hir => by
   obtain ⟨k, d, q, he, ht⟩ := hr i r hir
   obtain ⟨x, d1, d2, d3, d4, rfl, b1, b2, b3, hd⟩ := var8 ht
   refine ⟨x, rfl, ?_, b1, b2, b3⟩
   exact hw x.nm.length (Or.inr (Or.inl (weights_all es i d he _ (by
    simp only at hd
    rw [hd]
    simp [DataW.weights, DataW.weightsEach, Tryz.underlying64])))))
  have hf : (vs.map vaV).flatten = flatV vs := by simp [flatV, List.flatMap_def]
  rw [hf, List.length_map] at h1
  refine ⟨vs, h1, fun p hp => ?_, ?_⟩
  ·obtain ⟨i, hi⟩ := List.getElem?_of_mem hp
   exact hvs i p hi
  ·have hm := hw ((es.length + sp.length) * Tryz.prog.bytesOf 64) (Or.inl rfl)
   rw [bytesVar] at hm
   rw [List.length_map] at hl
   omega
set_option maxRecDepth 100000 in
theorem states8 (h : DataW.trod enc Tryz.prog W 0 (fun _ => true) true n 24 [v] = some y) (hw : ∀ x ∈ y.1.weights Tryz.prog 24, x ≤ 140737488355328) :
  ∃ ps : List SP, Inn W 6 v ps.length (flatS ps) ∧ (∀ p ∈ ps, StR W p ∧ StZ p.1 ∧ p.1.en.length ≤ 140737488355328 ∧ p.1.ex.length ≤ 140737488355328) ∧ ps.length * 96 ≤ 140737488355328 := by
 obtain ⟨rows, h1, h2, h4⟩ := open_rows Tryz.underlying24 cellsSt (by decide) h
 rcases h2 with ⟨_, rfl⟩ | ⟨es, sp, hy, hl, hr⟩
 ·exact ⟨[], h1, (fun p hp => by cases hp), by simp⟩
 ·rw [hy] at hw
  simp only [DataW.weights, Tryz.underlying24, List.mem_cons, List.mem_append] at hw
  obtain ⟨ps, rfl, hps⟩ := rows_at stV (fun _ (p : SP) => StR W p ∧ StZ p.1 ∧ p.1.en.length ≤ 140737488355328 ∧ p.1.ex.length ≤ 140737488355328) rows 0 (fun i r hir => by
   obtain ⟨k, d, q, he, ht⟩ := hr i r hir
   obtain ⟨s, ini, kd, dp, v1, v2, y1, y2, m, d1, d2, rfl, hd, hdp, t1, t2⟩ := state8 ht
   simp only at hd
   have hin : ∀ x, x ∈ (DataW.agg [.lit (.string s.data.toList), d1, d2, .lit (.string ini.data.toList), y1.1, y2.1] : DataW H).weights Tryz.prog 67 → x ≤ 140737488355328 := fun x hx => hw x (Or.inr (Or.inl (weights_all es i d he _ (by rw [hd]; exact hx))))
   obtain ⟨l1, a1, a2⟩ := blk_in t1 (fun x hx => hin x (by simp [DataW.weights, DataW.weightsEach, Tryz.underlying67, hx]))
   obtain ⟨l2, b1, b2⟩ := blk_in t2 (fun x hx => hin x (by simp [DataW.weights, DataW.weightsEach, Tryz.underlying67, hx]))
   have c1 := hin s.data.toList.length (by simp [DataW.weights, DataW.weightsEach, Tryz.underlying67])
   have c2 := hin ini.data.toList.length (by simp [DataW.weights, DataW.weightsEach, Tryz.underlying67])
   have g1 := showA_le l1; have g2 := showA_le l2
   refine ⟨(⟨s.data.toList, kd, dp, ini.data.toList, l1, l2⟩, v1, v2), by simp only [stV]; rw [bstr_of, bstr_of], ⟨a1, b1⟩, ⟨c1, c2, hdp, ?_, ?_, ?_, ?_⟩, a2, b2⟩
   ·simp only; omega
   ·simp only; omega
   ·simp only; omega
   ·simp only; omega)
  have hf : (ps.map stV).flatten = flatS ps := by simp [flatS, List.flatMap_def]
  rw [hf, List.length_map] at h1
  refine ⟨ps, h1, fun p hp => ?_, ?_⟩
  ·obtain ⟨i, hi⟩ := List.getElem?_of_mem hp
   exact hps i p hi
  ·have hm := hw ((es.length + sp.length) * Tryz.prog.bytesOf 67) (Or.inl rfl)
   rw [bytesSt] at hm
   rw [List.length_map] at hl
   omega
set_option maxRecDepth 100000 in
theorem transs8 (h : DataW.trod enc Tryz.prog W 0 (fun _ => true) true n 25 [v] = some y) (hw : ∀ x ∈ y.1.weights Tryz.prog 25, x ≤ 140737488355328) :
  ∃ ps : List TP, Inn W 5 v ps.length (flatT ps) ∧ (∀ p ∈ ps, TrR W p ∧ TrZ p.1 ∧ p.1.gd.length ≤ 140737488355328 ∧ p.1.ac.length ≤ 140737488355328) ∧ ps.length * 88 ≤ 140737488355328 := by
 obtain ⟨rows, h1, h2, h4⟩ := open_rows Tryz.underlying25 cellsTr (by decide) h
 rcases h2 with ⟨_, rfl⟩ | ⟨es, sp, hy, hl, hr⟩
 ·exact ⟨[], h1, (fun p hp => by cases hp), by simp⟩
 ·rw [hy] at hw
  simp only [DataW.weights, Tryz.underlying25, List.mem_cons, List.mem_append] at hw
  obtain ⟨ps, rfl, hps⟩ := rows_at trV (fun _ (p : TP) => TrR W p ∧ TrZ p.1 ∧ p.1.gd.length ≤ 140737488355328 ∧ p.1.ac.length ≤ 140737488355328) rows 0 (fun i r hir => by
   obtain ⟨k, d, q, he, ht⟩ := hr i r hir
   obtain ⟨fr, s, t, v1, v2, y1, y2, m, d0, rfl, hd, t1, t2⟩ := trans8 ht
   simp only at hd
   have hin : ∀ x, x ∈ (DataW.agg [d0, .lit (.string s.data.toList), y1.1, .lit (.string t.data.toList), y2.1] : DataW H).weights Tryz.prog 71 → x ≤ 140737488355328 := fun x hx => hw x (Or.inr (Or.inl (weights_all es i d he _ (by rw [hd]; exact hx))))
   obtain ⟨l1, a1, a2⟩ := gd_in t1 (fun x hx => hin x (by simp [DataW.weights, DataW.weightsEach, Tryz.underlying71, hx]))
   obtain ⟨l2, b1, b2⟩ := blk_in t2 (fun x hx => hin x (by simp [DataW.weights, DataW.weightsEach, Tryz.underlying71, hx]))
   have c1 := hin s.data.toList.length (by simp [DataW.weights, DataW.weightsEach, Tryz.underlying71])
   have c2 := hin t.data.toList.length (by simp [DataW.weights, DataW.weightsEach, Tryz.underlying71])
   have g1 := showP_le l1; have g2 := showA_le l2
   refine ⟨(⟨fr, s.data.toList, l1, t.data.toList, l2⟩, v1, v2), by simp only [trV]; rw [bstr_of, bstr_of], ⟨a1, b1⟩, ⟨c1, c2, ?_, ?_, ?_⟩, a2, b2⟩
   ·simp only; omega
   ·simp only; omega
   ·simp only; omega)
  have hf : (ps.map trV).flatten = flatT ps := by simp [flatT, List.flatMap_def]
  rw [hf, List.length_map] at h1
  refine ⟨ps, h1, fun p hp => ?_, ?_⟩
  ·obtain ⟨i, hi⟩ := List.getElem?_of_mem hp
   exact hps i p hi
  ·have hm := hw ((es.length + sp.length) * Tryz.prog.bytesOf 71) (Or.inl rfl)
   rw [bytesTr] at hm
   rw [List.length_map] at hl
   omega
set_option maxRecDepth 100000 in
theorem strs8 (h : DataW.trod enc Tryz.prog W 0 (fun _ => true) true n 22 [v] = some y) (hw : ∀ x ∈ y.1.weights Tryz.prog 22, x ≤ 140737488355328) :
  ∃ ss : List (List UInt8), Inn W 1 v ss.length (strsV ss) ∧ (∀ x ∈ ss, x.length ≤ 140737488355328) ∧ ss.length * 16 ≤ 140737488355328 := by
 obtain ⟨rows, h1, h2, h4⟩ := open_rows Tryz.underlying22 cellsS (by decide) h
 rcases h2 with ⟨_, rfl⟩ | ⟨es, sp, hy, hl, hr⟩
 ·exact ⟨[], h1, (fun p hp => by cases hp), by simp⟩
 ·rw [hy] at hw
  simp only [DataW.weights, Tryz.underlying22, List.mem_cons, List.mem_append] at hw
  obtain ⟨ss, rfl, hss⟩ := rows_at (fun l : List UInt8 => [bstr l]) (fun _ (x : List UInt8) => x.length ≤ 140737488355328) rows 0 (fun i r hir => by
   obtain ⟨k, d, q, he, ht⟩ := hr i r hir
   obtain ⟨s, h0, g0, _⟩ := DataW.trod_string Tryz.underlying9 ht
   refine ⟨s.data.toList, by rw [h0, bstr_of], ?_⟩
   exact hw s.data.toList.length (Or.inr (Or.inl (weights_all es i d he _ (by
    simp only [Prod.mk.injEq] at g0
    rw [g0.1]
    simp [DataW.weights])))))
  have hf : (ss.map (fun l : List UInt8 => [bstr l])).flatten = strsV ss := by
   clear h1 hl hr hss hy hw
   unfold strsV
   induction ss with
   | nil => rfl
   | cons x r ih => simpa using ih
  rw [hf, List.length_map] at h1
  refine ⟨ss, h1, fun p hp => ?_, ?_⟩
  ·obtain ⟨i, hi⟩ := List.getElem?_of_mem hp
   exact hss i p hi
  ·have hm := hw ((es.length + sp.length) * Tryz.prog.bytesOf 9) (Or.inl rfl)
   rw [bytesStr] at hm
   rw [List.length_map] at hl
   omega
end
structure ChIn (W : World) (c : CH) (e1 v1 s1 t1 : Value) (sp : List SP) (tp : List TP) : Prop where
 m : ChM W c e1 v1 s1 t1 sp tp
 z : ChZ c
 sm : SmZ c
 es : c.es.length * 16 ≤ 140737488355328
 vs : c.vs.length * 64 ≤ 140737488355328
 ss : sp.length * 96 ≤ 140737488355328
 ts : tp.length * 88 ≤ 140737488355328
set_option maxRecDepth 100000 in
theorem open_chart {H : Type} {enc : TypeId × Value → H} {W : World} {r : Reach} {b0 : Nat} {v : Value} {d : DataW H} {ps : List MemPlace} (hval : Value.okWide Tryz.prog W r b0 27 v)
  (h : DataW.Trod enc Tryz.prog W 0 (fun _ => true) true 27 v d ps) {ts : List TypeId} {ds : List (DataW H)} (hsz : (DataW.weightsEach Tryz.prog ts ds).all (· ≤ reachBytes) = true) {j : Nat} (ht : ts[j]? = some 27) (hd : ds[j]? = some d) :
  ∃ (c : CH) (e1 v1 s1 t1 : Value) (sp : List SP) (tp : List TP), v = .agg #[bstr c.nm, e1, v1, s1, t1] ∧ ChIn W c e1 v1 s1 t1 sp tp := by
 have hw : ∀ x ∈ d.weights Tryz.prog 27, x ≤ 140737488355328 := fun x hx => by
  have := List.all_eq_true.1 hsz _ (DataW.weights_mem_each ht hd x hx)
  unfold reachBytes at this
  simp at this
  omega
 obtain ⟨cs, rfl, hcs⟩ := okWide_struct Tryz.underlying27 hval
 obtain ⟨fuel, hf⟩ := h
 obtain ⟨xs, n, _, hx, _, hxl, hfl⟩ := DataW.trod_struct Tryz.underlying27 hf
 have h5 : cs.size = 5 := hcs.trans cellsCh
 obtain ⟨l⟩ := cs
 match l, h5 with
 | [u0, u1, u2, u3, u4], _ =>
  have e0 : DataW.trod enc Tryz.prog W 0 (fun _ => true) true n 9 (([u0, u1, u2, u3, u4].drop 0).take (Tryz.prog.cellsOf 9)) = xs[0]? := hfl 0 _ rfl
  have e1 : DataW.trod enc Tryz.prog W 0 (fun _ => true) true n 22 (([u0, u1, u2, u3, u4].drop 1).take (Tryz.prog.cellsOf 22)) = xs[1]? := hfl 1 _ rfl
  have e2 : DataW.trod enc Tryz.prog W 0 (fun _ => true) true n 23 (([u0, u1, u2, u3, u4].drop 2).take (Tryz.prog.cellsOf 23)) = xs[2]? := hfl 2 _ rfl
  have e3 : DataW.trod enc Tryz.prog W 0 (fun _ => true) true n 24 (([u0, u1, u2, u3, u4].drop 3).take (Tryz.prog.cellsOf 24)) = xs[3]? := hfl 3 _ rfl
  have e4 : DataW.trod enc Tryz.prog W 0 (fun _ => true) true n 25 (([u0, u1, u2, u3, u4].drop 4).take (Tryz.prog.cellsOf 25)) = xs[4]? := hfl 4 _ rfl
  have hx5 : xs.length = 5 := hxl
  match xs, hx5 with
  | [y0, y1, y2, y3, y4], _ =>
   rw [cellsS] at e0
   rw [cellsSlS] at e1
   rw [cellsSlV] at e2
   rw [cellsSlSt] at e3
   rw [cellsSlT] at e4
   obtain ⟨s, h0, g0, _⟩ := DataW.trod_string Tryz.underlying9 (show _ = some y0 from e0)
   simp at h0
   simp only [Prod.mk.injEq] at hx
   obtain ⟨hd0, _⟩ := hx
   have hdd : d = .agg [.lit (.string s.data.toList), y1.1, y2.1, y3.1, y4.1] := by rw [hd0, g0]; rfl
   rw [hdd] at hw
   obtain ⟨es, a1, a2, a3⟩ := strs8 (show _ = some y1 from e1) (fun x hx => hw x (by simp [DataW.weights, DataW.weightsEach, Tryz.underlying27, hx]))
   obtain ⟨vs, b1, b2, b3⟩ := vars8 (show _ = some y2 from e2) (fun x hx => hw x (by simp [DataW.weights, DataW.weightsEach, Tryz.underlying27, hx]))
   obtain ⟨sp, c1, c2, c3⟩ := states8 (show _ = some y3 from e3) (fun x hx => hw x (by simp [DataW.weights, DataW.weightsEach, Tryz.underlying27, hx]))
   obtain ⟨tp, d1, d2, d3⟩ := transs8 (show _ = some y4 from e4) (fun x hx => hw x (by simp [DataW.weights, DataW.weightsEach, Tryz.underlying27, hx]))
   have hn := hw s.data.toList.length (by simp [DataW.weights, DataW.weightsEach, Tryz.underlying27])
   refine ⟨⟨s.data.toList, es, vs, sp.map Prod.fst, tp.map Prod.fst⟩, u1, u2, u3, u4, sp, tp, by rw [h0, bstr_of], ⟨a1, b1, rfl, c1, rfl, d1, fun p hp => (c2 p hp).1, fun p hp => (d2 p hp).1, ?_, ?_, ?_, ?_⟩, ⟨hn, a2, b2, fun x hx => ?_, fun x hx => ?_⟩, ⟨?_, fun x hx => ?_, fun x hx => ?_⟩, a3, b3, c3, d3⟩
   ·simp only; omega
   ·simp only; omega
   ·omega
   ·omega
   ·obtain ⟨p, hp, rfl⟩ := List.mem_map.1 hx; exact (c2 p hp).2.1
   ·obtain ⟨p, hp, rfl⟩ := List.mem_map.1 hx; exact (d2 p hp).2.1
   ·simp only; omega
   ·obtain ⟨p, hp, rfl⟩ := List.mem_map.1 hx; exact (c2 p hp).2.2
   ·obtain ⟨p, hp, rfl⟩ := List.mem_map.1 hx; exact (d2 p hp).2.2
end Go.Proofs.YtdelihhbmagphaaGreatDoor.Ch
namespace Go.Proofs.YtdelihhbmagphaaGreatDoor.Ch
open Go.RowKit
theorem box_cells {W : World} {D : Nat} {t : TypeId} {x0 x1 x2 x3 x4 : Value} (h : W.heap[D]? = some (.cells #[x0, x1, x2, x3, x4] t (0, 0))) : W.cell? ⟨D, 0, none⟩ = some x0 ∧ W.cell? ⟨D, 1, none⟩ = some x1 ∧ W.cell? ⟨D, 2, none⟩ = some x2 ∧ W.cell? ⟨D, 3, none⟩ = some x3 ∧ W.cell? ⟨D, 4, none⟩ = some x4 := by simp [World.cell?, h]
end Go.Proofs.YtdelihhbmagphaaGreatDoor.Ch
namespace Go.Proofs.YtdelihhbmagphaaGreatDoor.Ch
open Go.RowKit
theorem long_any (c : CH) (e1 v1 s1 t1 : Value) (sp : List SP) (tp : List TP) (w : World) (h : ChM w c e1 v1 s1 t1 sp tp) :
  Calls Tryz.prog 12 #[.agg #[bstr c.nm, e1, v1, s1, t1]] w fun e w' => e = .returned (.bool (decide (200 < sp.length) || decide (200 < tp.length))) ∧ Below w.heap.size w w' := by
 obtain ⟨N, hN, _⟩ := bstr_some c.nm
 rw [hN]
 obtain ⟨A3, c3, rfl⟩ := Inn.form h.ss
 obtain ⟨A4, c4, rfl⟩ := Inn.form h.ts
 have hsl := h.sl; have htl := h.tl
 generalize sp.length = ns at *
 generalize tp.length = nt at *
 clear h hN
 have HAL : Hid (∀ o, Below w.heap.size w (w.alloc o)) := fun o => (Below.refl _ _).alloc (Nat.le_refl _) o
 by_cases h1 : 200 < ns
 ·have e1 : decide (200 < ns) = true := decide_eq_true h1
  rw [e1]
  have z1 : (200 : Int) < (ns : Int) := by omega
  clear e1 h1
  go_enter Tryz.func12, Tryz.ntmps12
  go_wp2
  go_ret
  exact ⟨rfl, HAL.out _⟩
 ·have e1 : decide (200 < ns) = false := decide_eq_false h1
  have z1 : ¬ (200 : Int) < (ns : Int) := by omega
  rw [e1, Bool.false_or]
  clear e1 h1
  by_cases h2 : 200 < nt
  ·have e2 : decide (200 < nt) = true := decide_eq_true h2
   have z2 : (200 : Int) < (nt : Int) := by omega
   rw [e2]
   clear e2 h2
   go_enter Tryz.func12, Tryz.ntmps12
   go_wp2
   go_ret
   exact ⟨rfl, HAL.out _⟩
  ·have e2 : decide (200 < nt) = false := decide_eq_false h2
   have z2 : ¬ (200 : Int) < (nt : Int) := by omega
   rw [e2]
   clear e2 h2
   go_enter Tryz.func12, Tryz.ntmps12
   go_wp2
   go_ret
   exact ⟨rfl, HAL.out _⟩
theorem one_strs (l : List (List UInt8)) : ∀ u ∈ strsV l, u.oneCell' = true := by
 intro u hu
 obtain ⟨x, _, rfl⟩ := List.mem_map.1 hu
 rfl
theorem one_vars (l : List VM) : ∀ u ∈ flatV l, u.oneCell' = true := by
 intro u hu
 obtain ⟨x, _, hx⟩ := List.mem_flatMap.1 hu
 simp only [vaV, List.mem_cons, List.not_mem_nil, or_false] at hx
 rcases hx with rfl | rfl | rfl | rfl | rfl | rfl | rfl <;> rfl
theorem one_states {W : World} (l : List SP) (h : ∀ p ∈ l, StR W p) : ∀ u ∈ flatS l, u.oneCell' = true := by
 intro u hu
 obtain ⟨x, hxl, hx⟩ := List.mem_flatMap.1 hu
 obtain ⟨A, c, h1⟩ := BlkR.form (h x hxl).1
 obtain ⟨B, d, h2⟩ := BlkR.form (h x hxl).2
 simp only [stV, List.mem_cons, List.not_mem_nil, or_false] at hx
 rcases hx with rfl | rfl | rfl | rfl | rfl | rfl
 ·rfl
 ·rfl
 ·rfl
 ·rfl
 ·rw [h1]; rfl
 ·rw [h2]; rfl
theorem one_transs {W : World} (l : List TP) (h : ∀ p ∈ l, TrR W p) : ∀ u ∈ flatT l, u.oneCell' = true := by
 intro u hu
 obtain ⟨x, hxl, hx⟩ := List.mem_flatMap.1 hu
 obtain ⟨A, c, h1⟩ := (h x hxl).1.1.slice
 obtain ⟨B, d, h2⟩ := BlkR.form (h x hxl).2
 simp only [trV, List.mem_cons, List.not_mem_nil, or_false] at hx
 rcases hx with rfl | rfl | rfl | rfl | rfl
 ·rfl
 ·rfl
 ·rw [h1]; rfl
 ·rfl
 ·rw [h2]; rfl
theorem cp_step {w W w5 : World} {D j : Nat} {x : Array Value} {t : TypeId} {o : Obj} {v' : Value} (hb : Below w.heap.size w W) (hD : w.heap.size ≤ D) (hx : W.heap[D]? = some (.cells x t (0, 0))) (hg : (W.alloc o).grownBy w5 (some W.heap.size)) :
  Below w.heap.size w (w5.setCell ⟨D, j, none⟩ v') ∧ w5.heap[D]? = some (.cells x t (0, 0)) ∧ (w5.setCell ⟨D, j, none⟩ v').heap[D]? = some (.cells (x.setIfInBounds j v') t (0, 0)) ∧ (∀ k, k < W.heap.size → k ≠ D → (w5.setCell ⟨D, j, none⟩ v').heap[k]? = W.heap[k]?) ∧ W.heap.size ≤ (w5.setCell ⟨D, j, none⟩ v').heap.size ∧ (∀ k, k ≠ D → (w5.setCell ⟨D, j, none⟩ v').heap[k]? = w5.heap[k]?) := by
 have hlt := lt_of_heap hx
 have h1 : w5.heap[D]? = some (.cells x t (0, 0)) := (hg.block D (by simp; omega) (by simp; omega)).trans (heap_old hx)
 have hz : W.heap.size + 1 ≤ w5.heap.size := by have := hg.size; simpa using this
 refine ⟨?_, h1, setCell_row h1 v', fun k hk hkD => ?_, ?_, fun k hkD => Below.heap_setCell _ _ _ k (fun e => hkD e)⟩
 ·exact ((hb.alloc hb.size o).grown hg (by have := hb.size; simp; omega) (fun k hk => by cases hk; exact hb.size)).setCell (p := ⟨D, j, none⟩) hD v'
 ·rw [Below.heap_setCell _ _ _ k (fun e => hkD e)]
  exact (hg.block k (by simp; omega) (by simp; omega)).trans (Below.heap_alloc W _ _ hk)
 ·simp; omega
structure CpPost (c : CH) (sp : List SP) (tp : List TP) (w : World) (e : Ending) (w' : World) : Prop where
 ret : ∃ e1 v1 s1 t1, e = .returned (.agg #[bstr c.nm, e1, v1, s1, t1]) ∧ ChM w' c e1 v1 s1 t1 sp tp ∧ ∃ A k, t1 = .slice A tp.length k ∧ tp.length ≤ k
 below : Below w.heap.size w w'
set_option maxRecDepth 100000 in
set_option maxHeartbeats 16000000 in
theorem copied_any (c : CH) (e1 v1 s1 t1 : Value) (sp : List SP) (tp : List TP) (w : World) (h : ChIn w c e1 v1 s1 t1 sp tp) :
  Calls Tryz.prog 14 #[.agg #[bstr c.nm, e1, v1, s1, t1]] w (CpPost c sp tp w) := by
 obtain ⟨nm, es, vs, ss, ts⟩ := c
 have HI := Lib.hid h
 obtain ⟨N, hN, _⟩ := bstr_some nm
 obtain ⟨A1, c1, rfl⟩ := Inn.form h.m.es
 obtain ⟨A2, c2, rfl⟩ := Inn.form h.m.vs
 obtain ⟨A3, c3, rfl⟩ := Inn.form h.m.ss
 obtain ⟨A4, c4, rfl⟩ := Inn.form h.m.ts
 simp only
 rw [hN]
 have HN := Lib.hid hN
 have HES : Hid (Inn w 1 (.slice A1 es.length c1) es.length (strsV es)) := h.m.es
 have HVS : Hid (Inn w 7 (.slice A2 vs.length c2) vs.length (flatV vs)) := h.m.vs
 have HSS : Hid (Inn w 6 (.slice A3 sp.length c3) sp.length (flatS sp)) := h.m.ss
 have HTS : Hid (Inn w 5 (.slice A4 tp.length c4) tp.length (flatT tp)) := h.m.ts
 have HOS : Hid (∀ u ∈ flatS sp, u.oneCell' = true) := one_states sp h.m.sd
 have HOT : Hid (∀ u ∈ flatT tp, u.oneCell' = true) := one_transs tp h.m.td
 have les : es.length * 16 ≤ 140737488355328 := h.es
 have lvs : vs.length * 64 ≤ 140737488355328 := h.vs
 have lss : sp.length * 96 ≤ 140737488355328 := h.ss
 have lts : tp.length * 88 ≤ 140737488355328 := h.ts
 obtain ⟨iIS, hi0, hi1, hi2, hi3⟩ := info_of infoStrS
 have IS0 := Lib.hid hi0; have IS1 := Lib.hid hi1; have IS2 := Lib.hid hi2; have IS3 := Lib.hid hi3
 clear hi0 hi1 hi2 hi3
 obtain ⟨iIV, hi0, hi1, hi2, hi3⟩ := info_parts Tryz.infoVar
 have IV0 := Lib.hid hi0; have IV1 := Lib.hid hi1; have IV2 := Lib.hid hi2; have IV3 := Lib.hid hi3
 clear hi0 hi1 hi2 hi3
 obtain ⟨iIT, hi0, hi1, hi2, hi3⟩ := info_parts Tryz.infoState
 have IT0 := Lib.hid hi0; have IT1 := Lib.hid hi1; have IT2 := Lib.hid hi2; have IT3 := Lib.hid hi3
 clear hi0 hi1 hi2 hi3
 obtain ⟨iIR, hi0, hi1, hi2, hi3⟩ := info_parts Tryz.infoTrans
 have IR0 := Lib.hid hi0; have IR1 := Lib.hid hi1; have IR2 := Lib.hid hi2; have IR3 := Lib.hid hi3
 clear hi0 hi1 hi2 hi3 h hN
 obtain ⟨W0, hW0⟩ : ∃ W, W = (w.alloc (.cells #[.string N, .slice A1 es.length c1, .slice A2 vs.length c2, .slice A3 sp.length c3, .slice A4 tp.length c4] 27)).alloc (.cells #[.string ⟨#[]⟩, .slice none 0 0, .slice none 0 0, .slice none 0 0, .slice none 0 0] 27) := ⟨_, rfl⟩
 have hb0 : Below w.heap.size w W0 := by rw [hW0]; exact ((Below.refl _ _).alloc (Nat.le_refl _) _).alloc (by simp) _
 have hx0 : W0.heap[w.heap.size]? = some (.cells #[.string N, .slice A1 es.length c1, .slice A2 vs.length c2, .slice A3 sp.length c3, .slice A4 tp.length c4] 27 (0, 0)) := by rw [hW0]; exact heap_old (World.alloc_heap_new w _)
 have hy0 : W0.heap[w.heap.size + 1]? = some (.cells #[.string ⟨#[]⟩, .slice none 0 0, .slice none 0 0, .slice none 0 0, .slice none 0 0] 27 (0, 0)) := by rw [hW0]; exact heap_at (by simp)
 have hz0 : W0.heap.size = w.heap.size + 1 + 1 := by rw [hW0]; simp
 have HZ := Lib.hid hz0; have HZ0 : Hid (W0.heap.size ≤ W0.heap.size) := Nat.le_refl _
 clear hz0
 have HB0 := Lib.hid hb0; have HX0 := Lib.hid hx0; have HY0 := Lib.hid hy0; have HW0 := Lib.hid hW0
 clear hb0 hx0 hy0 hW0
 go_enter Tryz.func14, Tryz.ntmps14
 go_upto_region 1 with fail
 rw [← HW0.out]
 obtain ⟨d0, d1, d2, d3, d4⟩ := box_cells HX0.out
 have hlt0 : w.heap.size < W0.heap.size := lt_of_heap HX0.out
 have HE0 : Hid ((W0.alloc (.cells #[] 9)).ownsRow W0.heap.size 9 1 (.slice (some ⟨W0.heap.size, 0, none⟩) 0 0) 0 []) := Oz.own_laid (B := W0.heap.size) (e := 9) (size := 1) (n := 0) W0 #[] HZ0.out (by decide) rfl
 have HS0 : Hid (Inn (W0.alloc (.cells #[] 9)) 1 (.slice A1 es.length c1) es.length (strsV es)) := HES.out.below (HB0.out.trans ((Below.refl _ _).alloc HB0.out.size _))
 go_wp2_with (at_builtin; refine Ow.wpList_append rfl (.tmp 3) (.tmp 5) 22 rfl W0.heap.size 9 iIS _ 1 16 Tryz.underlying22 IS0.out IS1.out IS2.out IS3.out rfl (by decide) _ 0 [] rfl HE0.out _ es.length (strsV es) rfl HS0.out (one_strs es) (by unfold maxLen; omega) (by omega) (Nat.le_trans HZ0.out (by simp)) ?_)
 intro v' w' hown hg _
 try simp only [Nat.zero_add, List.nil_append] at hown
 obtain ⟨B1, k1, ev, hk1⟩ := own_cap hown
 subst ev
 obtain ⟨hb, hx', hx, hkeep, hsz, hks⟩ := cp_step (j := 1) (v' := .slice B1 (es.length) k1) HB0.out (Nat.le_refl _) HX0.out hg
 obtain ⟨f0, f1, f2, f3, f4⟩ := box_cells hx'
 have z0 := frozen5 hx' 1
 have HK1 := Lib.hid hk1
 obtain ⟨W1, hWn⟩ : ∃ W, W = w'.setCell ⟨w.heap.size, 1, none⟩ (.slice B1 (es.length) k1) := ⟨_, rfl⟩
 rw [← hWn] at hb hx hkeep hsz hks
 have HOW11 := Lib.hid (Oz.own_same hown (w' := W1) (fun g hg => hks g (by have := (hown.lt g hg).1; have := HZ.out; omega)))
 have HZ1 : Hid (W0.heap.size ≤ W1.heap.size) := Nat.le_trans HZ0.out hsz
 have HB1 := Lib.hid hb; have HX1 := Lib.hid hx; have HKP1 := Lib.hid hkeep; have HSZ1 := Lib.hid hsz; have HW1 := Lib.hid hWn
 have HY1 := Lib.hid ((hkeep _ (lt_of_heap HY0.out) (by omega)).trans HY0.out)
 clear d0 d1 d2 d3 d4 hown hg hb hx' hx hkeep hsz hks hWn hk1 HE0 HS0
 go_upto_region 2 with fail
 rw [← HW1.out]
 clear f0 f1 f2 f3 f4 z0 hlt0
 obtain ⟨d0, d1, d2, d3, d4⟩ := box_cells HX1.out
 have hlt1 : w.heap.size < W1.heap.size := lt_of_heap HX1.out
 have HE1 : Hid ((W1.alloc (.cells #[] 64)).ownsRow W0.heap.size 64 7 (.slice (some ⟨W1.heap.size, 0, none⟩) 0 0) 0 []) := Oz.own_laid (B := W0.heap.size) (e := 64) (size := 7) (n := 0) W1 #[] HZ1.out (by decide) rfl
 have HS1 : Hid (Inn (W1.alloc (.cells #[] 64)) 7 (.slice A2 vs.length c2) vs.length (flatV vs)) := HVS.out.below (HB1.out.trans ((Below.refl _ _).alloc HB1.out.size _))
 go_wp2_with (at_builtin; refine Ow.wpList_append rfl (.tmp 8) (.tmp 10) 23 rfl W0.heap.size 64 iIV _ 7 64 Tryz.underlying23 IV0.out IV1.out IV2.out IV3.out rfl (by decide) _ 0 [] rfl HE1.out _ vs.length (flatV vs) rfl HS1.out (one_vars vs) (by unfold maxLen; omega) (by omega) (Nat.le_trans HZ1.out (by simp)) ?_)
 intro v' w' hown hg _
 try simp only [Nat.zero_add, List.nil_append] at hown
 obtain ⟨B2, k2, ev, hk2⟩ := own_cap hown
 subst ev
 obtain ⟨hb, hx', hx, hkeep, hsz, hks⟩ := cp_step (j := 2) (v' := .slice B2 (vs.length) k2) HB1.out (Nat.le_refl _) HX1.out hg
 obtain ⟨f0, f1, f2, f3, f4⟩ := box_cells hx'
 have z0 := frozen5 hx' 2
 have HK2 := Lib.hid hk2
 obtain ⟨W2, hWn⟩ : ∃ W, W = w'.setCell ⟨w.heap.size, 2, none⟩ (.slice B2 (vs.length) k2) := ⟨_, rfl⟩
 rw [← hWn] at hb hx hkeep hsz hks
 have HOW22 := Lib.hid (Oz.own_same hown (w' := W2) (fun g hg => hks g (by have := (hown.lt g hg).1; have := HZ.out; omega)))
 have HOW12 := Lib.hid (Oz.own_same HOW11.out (w' := W2) (fun g hg => hkeep g (HOW11.out.lt g hg).2 (by have := (HOW11.out.lt g hg).1; have := HZ.out; omega)))
 have HZ2 : Hid (W0.heap.size ≤ W2.heap.size) := Nat.le_trans HZ1.out hsz
 have HB2 := Lib.hid hb; have HX2 := Lib.hid hx; have HKP2 := Lib.hid hkeep; have HSZ2 := Lib.hid hsz; have HW2 := Lib.hid hWn
 have HY2 := Lib.hid ((hkeep _ (lt_of_heap HY1.out) (by omega)).trans HY1.out)
 clear d0 d1 d2 d3 d4 hown hg hb hx' hx hkeep hsz hks hWn hk2 HE1 HS1
 go_upto_region 3 with fail
 rw [← HW2.out]
 clear f0 f1 f2 f3 f4 z0 hlt1
 obtain ⟨d0, d1, d2, d3, d4⟩ := box_cells HX2.out
 have hlt2 : w.heap.size < W2.heap.size := lt_of_heap HX2.out
 have HE2 : Hid ((W2.alloc (.cells #[] 67)).ownsRow W0.heap.size 67 6 (.slice (some ⟨W2.heap.size, 0, none⟩) 0 0) 0 []) := Oz.own_laid (B := W0.heap.size) (e := 67) (size := 6) (n := 0) W2 #[] HZ2.out (by decide) rfl
 have HS2 : Hid (Inn (W2.alloc (.cells #[] 67)) 6 (.slice A3 sp.length c3) sp.length (flatS sp)) := HSS.out.below (HB2.out.trans ((Below.refl _ _).alloc HB2.out.size _))
 go_wp2_with (at_builtin; refine Ow.wpList_append rfl (.tmp 13) (.tmp 15) 24 rfl W0.heap.size 67 iIT _ 6 96 Tryz.underlying24 IT0.out IT1.out IT2.out IT3.out rfl (by decide) _ 0 [] rfl HE2.out _ sp.length (flatS sp) rfl HS2.out HOS.out (by unfold maxLen; omega) (by omega) (Nat.le_trans HZ2.out (by simp)) ?_)
 intro v' w' hown hg _
 try simp only [Nat.zero_add, List.nil_append] at hown
 obtain ⟨B3, k3, ev, hk3⟩ := own_cap hown
 subst ev
 obtain ⟨hb, hx', hx, hkeep, hsz, hks⟩ := cp_step (j := 3) (v' := .slice B3 (sp.length) k3) HB2.out (Nat.le_refl _) HX2.out hg
 obtain ⟨f0, f1, f2, f3, f4⟩ := box_cells hx'
 have z0 := frozen5 hx' 3
 have HK3 := Lib.hid hk3
 obtain ⟨W3, hWn⟩ : ∃ W, W = w'.setCell ⟨w.heap.size, 3, none⟩ (.slice B3 (sp.length) k3) := ⟨_, rfl⟩
 rw [← hWn] at hb hx hkeep hsz hks
 have HOW33 := Lib.hid (Oz.own_same hown (w' := W3) (fun g hg => hks g (by have := (hown.lt g hg).1; have := HZ.out; omega)))
 have HOW13 := Lib.hid (Oz.own_same HOW12.out (w' := W3) (fun g hg => hkeep g (HOW12.out.lt g hg).2 (by have := (HOW12.out.lt g hg).1; have := HZ.out; omega)))
 have HOW23 := Lib.hid (Oz.own_same HOW22.out (w' := W3) (fun g hg => hkeep g (HOW22.out.lt g hg).2 (by have := (HOW22.out.lt g hg).1; have := HZ.out; omega)))
 have HZ3 : Hid (W0.heap.size ≤ W3.heap.size) := Nat.le_trans HZ2.out hsz
 have HB3 := Lib.hid hb; have HX3 := Lib.hid hx; have HKP3 := Lib.hid hkeep; have HSZ3 := Lib.hid hsz; have HW3 := Lib.hid hWn
 have HY3 := Lib.hid ((hkeep _ (lt_of_heap HY2.out) (by omega)).trans HY2.out)
 clear d0 d1 d2 d3 d4 hown hg hb hx' hx hkeep hsz hks hWn hk3 HE2 HS2
 go_upto_region 4 with fail
 rw [← HW3.out]
 clear f0 f1 f2 f3 f4 z0 hlt2
 obtain ⟨d0, d1, d2, d3, d4⟩ := box_cells HX3.out
 have hlt3 : w.heap.size < W3.heap.size := lt_of_heap HX3.out
 have HE3 : Hid ((W3.alloc (.cells #[] 71)).ownsRow W0.heap.size 71 5 (.slice (some ⟨W3.heap.size, 0, none⟩) 0 0) 0 []) := Oz.own_laid (B := W0.heap.size) (e := 71) (size := 5) (n := 0) W3 #[] HZ3.out (by decide) rfl
 have HS3 : Hid (Inn (W3.alloc (.cells #[] 71)) 5 (.slice A4 tp.length c4) tp.length (flatT tp)) := HTS.out.below (HB3.out.trans ((Below.refl _ _).alloc HB3.out.size _))
 go_wp2_with (at_builtin; refine Ow.wpList_append rfl (.tmp 18) (.tmp 20) 25 rfl W0.heap.size 71 iIR _ 5 88 Tryz.underlying25 IR0.out IR1.out IR2.out IR3.out rfl (by decide) _ 0 [] rfl HE3.out _ tp.length (flatT tp) rfl HS3.out HOT.out (by unfold maxLen; omega) (by omega) (Nat.le_trans HZ3.out (by simp)) ?_)
 intro v' w' hown hg _
 try simp only [Nat.zero_add, List.nil_append] at hown
 obtain ⟨B4, k4, ev, hk4⟩ := own_cap hown
 subst ev
 obtain ⟨hb, hx', hx, hkeep, hsz, hks⟩ := cp_step (j := 4) (v' := .slice B4 (tp.length) k4) HB3.out (Nat.le_refl _) HX3.out hg
 obtain ⟨f0, f1, f2, f3, f4⟩ := box_cells hx'
 have z0 := frozen5 hx' 4
 have HK4 := Lib.hid hk4
 obtain ⟨W4, hWn⟩ : ∃ W, W = w'.setCell ⟨w.heap.size, 4, none⟩ (.slice B4 (tp.length) k4) := ⟨_, rfl⟩
 rw [← hWn] at hb hx hkeep hsz hks
 have HOW44 := Lib.hid (Oz.own_same hown (w' := W4) (fun g hg => hks g (by have := (hown.lt g hg).1; have := HZ.out; omega)))
 have HOW14 := Lib.hid (Oz.own_same HOW13.out (w' := W4) (fun g hg => hkeep g (HOW13.out.lt g hg).2 (by have := (HOW13.out.lt g hg).1; have := HZ.out; omega)))
 have HOW24 := Lib.hid (Oz.own_same HOW23.out (w' := W4) (fun g hg => hkeep g (HOW23.out.lt g hg).2 (by have := (HOW23.out.lt g hg).1; have := HZ.out; omega)))
 have HOW34 := Lib.hid (Oz.own_same HOW33.out (w' := W4) (fun g hg => hkeep g (HOW33.out.lt g hg).2 (by have := (HOW33.out.lt g hg).1; have := HZ.out; omega)))
 have HZ4 : Hid (W0.heap.size ≤ W4.heap.size) := Nat.le_trans HZ3.out hsz
 have HB4 := Lib.hid hb; have HX4 := Lib.hid hx; have HKP4 := Lib.hid hkeep; have HSZ4 := Lib.hid hsz; have HW4 := Lib.hid hWn
 have HY4 := Lib.hid ((hkeep _ (lt_of_heap HY3.out) (by omega)).trans HY3.out)
 clear d0 d1 d2 d3 d4 hown hg hb hx' hx hkeep hsz hks hWn hk4 HE3 HS3
 go_upto_region 5 with fail
 rw [← HW4.out]
 clear f0 f1 f2 f3 f4 z0 hlt3
 obtain ⟨d0, d1, d2, d3, d4⟩ := box_cells HX4.out
 obtain ⟨y0, y1, y2, y3, y4⟩ := box_cells HY4.out
 have z0 := frozen5 HY4.out 0; have z1 := frozen5 HY4.out 1; have z2 := frozen5 HY4.out 2; have z3 := frozen5 HY4.out 3; have z4 := frozen5 HY4.out 4
 obtain ⟨Wf, hWf⟩ : ∃ W, W = ((((W4.setCell ⟨w.heap.size + 1, 0, none⟩ (.string N)).setCell ⟨w.heap.size + 1, 1, none⟩ (.slice B1 (es.length) k1)).setCell ⟨w.heap.size + 1, 2, none⟩ (.slice B2 (vs.length) k2)).setCell ⟨w.heap.size + 1, 3, none⟩ (.slice B3 (sp.length) k3)).setCell ⟨w.heap.size + 1, 4, none⟩ (.slice B4 (tp.length) k4) := ⟨_, rfl⟩
 have hhf : Wf.heap[w.heap.size + 1]? = some (.cells #[.string N, .slice B1 (es.length) k1, .slice B2 (vs.length) k2, .slice B3 (sp.length) k3, .slice B4 (tp.length) k4] 27 (0, 0)) := by
  rw [hWf]; exact heap_setCell_same _ _ 4 _ _ _ (heap_setCell_same _ _ 3 _ _ _ (heap_setCell_same _ _ 2 _ _ _ (heap_setCell_same _ _ 1 _ _ _ (heap_setCell_same _ _ 0 _ _ _ HY4.out))))
 have hkf : ∀ k, k ≠ w.heap.size + 1 → Wf.heap[k]? = W4.heap[k]? := fun k hk => by
  rw [hWf, Below.heap_setCell _ _ _ k (fun e => hk e), Below.heap_setCell _ _ _ k (fun e => hk e), Below.heap_setCell _ _ _ k (fun e => hk e), Below.heap_setCell _ _ _ k (fun e => hk e), Below.heap_setCell _ _ _ k (fun e => hk e)]
 have hbf : Below w.heap.size w Wf := by
  rw [hWf]; exact ((((HB4.out.setCell (p := ⟨w.heap.size + 1, 0, none⟩) (by simp) _).setCell (p := ⟨w.heap.size + 1, 1, none⟩) (by simp) _).setCell (p := ⟨w.heap.size + 1, 2, none⟩) (by simp) _).setCell (p := ⟨w.heap.size + 1, 3, none⟩) (by simp) _).setCell (p := ⟨w.heap.size + 1, 4, none⟩) (by simp) _
 have HKF := Lib.hid hkf; have HBF := Lib.hid hbf; have HWF := Lib.hid hWf
 obtain ⟨r0, r1, r2, r3, r4⟩ := box_cells hhf
 have HR := Lib.hid (And.intro r0 (And.intro r1 (And.intro r2 (And.intro r3 r4))))
 clear hhf hkf hbf hWf r0 r1 r2 r3 r4
 go_wp2
 rw [← HWF.out]
 obtain ⟨r0, r1, r2, r3, r4⟩ := HR.out
 refine bodyPost_ret (v := .agg #[.string N, .slice B1 (es.length) k1, .slice B2 (vs.length) k2, .slice B3 (sp.length) k3, .slice B4 (tp.length) k4]) (by simp [results, Tryz.results14, go_sem, r0, r1, r2, r3, r4]) rfl ?_
 refine ⟨⟨_, _, _, _, by rw [HN.out], ?_, _, _, rfl, HK4.out⟩, HBF.out⟩
 have hi := HI.out.m
 have hrow : ∀ {e : TypeId} {size n : Nat} {v : Value} {xs : List Value}, W4.ownsRow W0.heap.size e size v n xs → Wf.ownsRow W0.heap.size e size v n xs := fun h => Oz.own_same h (w' := Wf) (fun g hg => HKF.out g (by have := (h.lt g hg).1; have := HZ.out; omega))
 exact ⟨Inn.of_own (hrow HOW14.out), Inn.of_own (hrow HOW24.out), hi.ssE, Inn.of_own (hrow HOW34.out), hi.tsE, Inn.of_own (hrow HOW44.out), fun p hp => (hi.sd p hp).below HBF.out, fun p hp => (hi.td p hp).below HBF.out, hi.el, hi.vl, hi.sl, hi.tl⟩
end Go.Proofs.YtdelihhbmagphaaGreatDoor.Ch
