/- Layer 16: what comes in as a message, opened. -/
import Derived.Test.YtlbhkendbngmaaaK7
import Derived.Test.YtlbhkendbngmaaaK1
import Derived.Test.YtlbhkendbngmaaaOq
namespace Go.Proofs.Ytlbhkendbngmaaa.Wi
open Go.RowKit Go.ChangeShapes Go.WideShapes Go.ChangeAt Go.Joins
set_option maxRecDepth 100000

theorem cellsI : Try.prog.cellsOf 3 = 1 := by kernel_rfl
theorem cellsI64 : Try.prog.cellsOf 2 = 1 := by kernel_rfl
theorem cellsU64 : Try.prog.cellsOf 22 = 1 := by kernel_rfl
theorem cellsS : Try.prog.cellsOf 9 = 1 := by kernel_rfl
theorem cellsVal : Try.prog.cellsOf 64 = 3 := by kernel_rfl
theorem cellsSet : Try.prog.cellsOf 66 = 4 := by kernel_rfl
theorem cellsPast : Try.prog.cellsOf 68 = 2 := by kernel_rfl
theorem cellsMsg : Try.prog.cellsOf 27 = 9 := by kernel_rfl
theorem cellsSlI : Try.prog.cellsOf 23 = 1 := by kernel_rfl
theorem cellsSlSet : Try.prog.cellsOf 24 = 1 := by kernel_rfl
theorem cellsSlPast : Try.prog.cellsOf 25 = 1 := by kernel_rfl
theorem bytesI : Try.prog.bytesOf 3 = 8 := by kernel_rfl
theorem bytesSet : Try.prog.bytesOf 66 = 32 := by kernel_rfl
theorem bytesPast : Try.prog.bytesOf 68 = 32 := by kernel_rfl
theorem wf_i64 {n : Int} (h : (Lit.int .i64 n).wf = true) : okW n := by
  have h1 : IntKind.i64.min = -9223372036854775808 := by kernel_rfl
  have h2 : IntKind.i64.max = 9223372036854775807 := by kernel_rfl
  simp [Lit.wf, h1, h2] at h
  exact h
theorem wf_u64 {n : Int} (h : (Lit.int .u64 n).wf = true) : 0 ≤ n ∧ n < 18446744073709551616 := by
  have h1 : IntKind.u64.min = 0 := by kernel_rfl
  have h2 : IntKind.u64.max = 18446744073709551615 := by kernel_rfl
  simp [Lit.wf, h1, h2] at h
  omega
section
variable {H : Type} {enc : TypeId × Value → H} {W : World} {n : Nat} {cs : List Value} {v : Value} {y : DataW H × List MemPlace}
theorem ints_in (h : DataW.trod enc Try.prog W 0 (fun _ => true) true n 23 [v] = some y) (hw : ∀ x ∈ y.1.weights Try.prog 23, x ≤ 140737488355328) :
    ∃ l : List Int, Inn W 1 v l.length (intV l) ∧ l.length * 8 ≤ 140737488355328 := by
  obtain ⟨rows, h1, h2, _⟩ := open_rows Try.underlying23 cellsI (by decide) h
  rcases h2 with ⟨_, rfl⟩ | ⟨es, sp, hy, hl, hr⟩
  · exact ⟨[], h1, by simp⟩
  · rw [hy] at hw
    simp only [DataW.weights, Try.underlying23, List.mem_cons, List.mem_append] at hw
    obtain ⟨l, rfl, _⟩ := rows_at (fun z : Int => [Value.int .i64 z]) (fun _ (_ : Int) => True) rows 0 (fun i r hir => by
      obtain ⟨k, d, q, he, ht⟩ := hr i r hir
      obtain ⟨z, h0, _, _⟩ := DataW.trod_int Try.underlying3 ht
      exact ⟨z, h0, trivial⟩)
    have hf : (l.map (fun z : Int => [Value.int .i64 z])).flatten = intV l := by
      clear h1 hl hr hy hw
      unfold intV
      induction l with
      | nil => rfl
      | cons x r ih => simpa using ih
    rw [hf, List.length_map] at h1
    refine ⟨l, h1, ?_⟩
    have hm := hw ((es.length + sp.length) * Try.prog.bytesOf 3) (Or.inl rfl)
    rw [bytesI] at hm
    rw [List.length_map] at hl
    omega
theorem val_in {u0 u1 u2 : Value} {x : DataW H × List MemPlace} (h : DataW.trod enc Try.prog W 0 (fun _ => true) true n 64 [u0, u1, u2] = some x) : ∃ a b c : Int, u0 = .int .i64 a ∧ u1 = .int .i64 b ∧ u2 = .int .i64 c ∧ okW b ∧ okW c := by
  obtain ⟨xs, n, rfl, _, hl, hxl, hf⟩ := DataW.trod_struct Try.underlying64 h
  have e0 : DataW.trod enc Try.prog W 0 (fun _ => true) true n 3 (([u0, u1, u2].drop 0).take (Try.prog.cellsOf 3)) = xs[0]? := hf 0 _ rfl
  have e1 : DataW.trod enc Try.prog W 0 (fun _ => true) true n 2 (([u0, u1, u2].drop 1).take (Try.prog.cellsOf 2)) = xs[1]? := hf 1 _ rfl
  have e2 : DataW.trod enc Try.prog W 0 (fun _ => true) true n 2 (([u0, u1, u2].drop 2).take (Try.prog.cellsOf 2)) = xs[2]? := hf 2 _ rfl
  have hx3 : xs.length = 3 := hxl
  rw [cellsI, List.getElem?_eq_getElem (by omega)] at e0
  rw [cellsI64, List.getElem?_eq_getElem (by omega)] at e1 e2
  obtain ⟨a, h0, _, _⟩ := DataW.trod_int Try.underlying3 e0
  obtain ⟨b, h1, _, hw⟩ := DataW.trod_int Try.underlying2 e1
  obtain ⟨c, h2, _, hw2⟩ := DataW.trod_int Try.underlying2 e2
  simp at h0 h1 h2
  exact ⟨a, b, c, h0, h1, h2, wf_i64 hw, wf_i64 hw2⟩
theorem set_in {x : DataW H × List MemPlace} (h : DataW.trod enc Try.prog W 0 (fun _ => true) true n 66 cs = some x) : ∃ z : SetM, cs = setV z ∧ okW z.a ∧ okW z.b := by
  obtain ⟨xs, n, _, hx, hl, hxl, hf⟩ := DataW.trod_struct Try.underlying66 h
  rw [cellsSet] at hl
  match cs, hl with
  | [u0, u1, u2, u3], _ =>
    have e0 : DataW.trod enc Try.prog W 0 (fun _ => true) true n 3 (([u0, u1, u2, u3].drop 0).take (Try.prog.cellsOf 3)) = xs[0]? := hf 0 _ rfl
    have e1 : DataW.trod enc Try.prog W 0 (fun _ => true) true n 64 (([u0, u1, u2, u3].drop 1).take (Try.prog.cellsOf 64)) = xs[1]? := hf 1 _ rfl
    have hx2 : xs.length = 2 := hxl
    match xs, hx2 with
    | [y0, y1], _ =>
      rw [cellsI] at e0
      rw [cellsVal] at e1
      obtain ⟨a, h0, _, _⟩ := DataW.trod_int Try.underlying3 (show _ = some y0 from e0)
      obtain ⟨p, q, r, h1, h2, h3, w1, w2⟩ := val_in (u0 := u1) (u1 := u2) (u2 := u3) (show _ = some y1 from e1)
      simp at h0
      exact ⟨⟨a, p, q, r⟩, by rw [h0, h1, h2, h3]; rfl, w1, w2⟩
theorem sets_in (h : DataW.trod enc Try.prog W 0 (fun _ => true) true n 24 [v] = some y) (hw : ∀ x ∈ y.1.weights Try.prog 24, x ≤ 140737488355328) :
    ∃ l : List SetM, Inn W 4 v l.length (setsV l) ∧ (∀ x ∈ l, okW x.a ∧ okW x.b) ∧ l.length * 32 ≤ 140737488355328 := by
  obtain ⟨rows, h1, h2, _⟩ := open_rows Try.underlying24 cellsSet (by decide) h
  rcases h2 with ⟨_, rfl⟩ | ⟨es, sp, hy, hl, hr⟩
  · exact ⟨[], h1, (fun p hp => by cases hp), by simp⟩
  · rw [hy] at hw
    simp only [DataW.weights, Try.underlying24, List.mem_cons, List.mem_append] at hw
    obtain ⟨l, rfl, hls⟩ := rows_at setV (fun _ (x : SetM) => okW x.a ∧ okW x.b) rows 0 (fun i r hir => by
      obtain ⟨k, d, q, he, ht⟩ := hr i r hir
      obtain ⟨z, h0, w⟩ := set_in ht
      exact ⟨z, h0, w⟩)
    have hf : (l.map setV).flatten = setsV l := by simp [setsV, List.flatMap_def]
    rw [hf, List.length_map] at h1
    refine ⟨l, h1, fun p hp => ?_, ?_⟩
    · obtain ⟨i, hi⟩ := List.getElem?_of_mem hp
      exact hls i p hi
    · have hm := hw ((es.length + sp.length) * Try.prog.bytesOf 66) (Or.inl rfl)
      rw [bytesSet] at hm
      rw [List.length_map] at hl
      omega
theorem past_in {x : DataW H × List MemPlace} (h : DataW.trod enc Try.prog W 0 (fun _ => true) true n 68 cs = some x) : ∃ (a : Int) (u : Value) (y1 : DataW H × List MemPlace) (d0 : DataW H) (k : Nat), cs = [.int .i64 a, u] ∧ x.1 = .agg [d0, y1.1] ∧ DataW.trod enc Try.prog W 0 (fun _ => true) true k 23 [u] = some y1 := by
  obtain ⟨xs, n, _, hx, hl, hxl, hf⟩ := DataW.trod_struct Try.underlying68 h
  rw [cellsPast] at hl
  match cs, hl with
  | [u0, u1], _ =>
    have e0 : DataW.trod enc Try.prog W 0 (fun _ => true) true n 3 (([u0, u1].drop 0).take (Try.prog.cellsOf 3)) = xs[0]? := hf 0 _ rfl
    have e1 : DataW.trod enc Try.prog W 0 (fun _ => true) true n 23 (([u0, u1].drop 1).take (Try.prog.cellsOf 23)) = xs[1]? := hf 1 _ rfl
    have hx2 : xs.length = 2 := hxl
    match xs, hx2 with
    | [y0, y1], _ =>
      rw [cellsI] at e0
      rw [cellsSlI] at e1
      obtain ⟨a, h0, _, _⟩ := DataW.trod_int Try.underlying3 (show _ = some y0 from e0)
      simp at h0
      exact ⟨a, u1, y1, y0.1, n, by rw [h0], by rw [hx]; rfl, (show _ = some y1 from e1)⟩
theorem pasts_in (h : DataW.trod enc Try.prog W 0 (fun _ => true) true n 25 [v] = some y) (hw : ∀ x ∈ y.1.weights Try.prog 25, x ≤ 140737488355328) :
    ∃ Q : List (PastM × Value), Inn W 2 v Q.length (Q.flatMap pairV) ∧ (∀ q ∈ Q, RdL W q.2 q.1.set ∧ q.1.set.length ≤ 4611686018427387904) ∧ Q.length * 32 ≤ 140737488355328 := by
  obtain ⟨rows, h1, h2, _⟩ := open_rows Try.underlying25 cellsPast (by decide) h
  rcases h2 with ⟨_, rfl⟩ | ⟨es, sp, hy, hl, hr⟩
  · exact ⟨[], h1, (fun p hp => by cases hp), by simp⟩
  · rw [hy] at hw
    simp only [DataW.weights, Try.underlying25, List.mem_cons, List.mem_append] at hw
    obtain ⟨Q, rfl, hls⟩ := rows_at pairV (fun _ (q : PastM × Value) => RdL W q.2 q.1.set ∧ q.1.set.length ≤ 4611686018427387904) rows 0 (fun i r hir => by
      obtain ⟨k, d, q, he, ht⟩ := hr i r hir
      obtain ⟨a, u, y1, d0, k2, rfl, hd, hin⟩ := past_in ht
      simp only at hd
      obtain ⟨l, hi, hz⟩ := ints_in hin (fun x hx => hw x (Or.inr (Or.inl (weights_all es i d he _ (by rw [hd]; simp [DataW.weights, DataW.weightsEach, Try.underlying68, hx])))))
      exact ⟨(⟨a, l⟩, u), rfl, inn_ints hi, by show l.length ≤ _; omega⟩)
    have hf : (Q.map pairV).flatten = Q.flatMap pairV := by simp [List.flatMap_def]
    rw [hf, List.length_map] at h1
    refine ⟨Q, h1, fun p hp => ?_, ?_⟩
    · obtain ⟨i, hi⟩ := List.getElem?_of_mem hp
      exact hls i p hi
    · have hm := hw ((es.length + sp.length) * Try.prog.bytesOf 68) (Or.inl rfl)
      rw [bytesPast] at hm
      rw [List.length_map] at hl
      omega
end
theorem array9 {α : Type} {cs : Array α} (h : cs.size = 9) : ∃ c0 c1 c2 c3 c4 c5 c6 c7 c8, cs = #[c0, c1, c2, c3, c4, c5, c6, c7, c8] := by
  obtain ⟨l⟩ := cs
  match l, h with
  | [c0, c1, c2, c3, c4, c5, c6, c7, c8], _ => exact ⟨c0, c1, c2, c3, c4, c5, c6, c7, c8, rfl⟩
theorem list9 {α : Type} {l : List α} (h : l.length = 9) : ∃ c0 c1 c2 c3 c4 c5 c6 c7 c8, l = [c0, c1, c2, c3, c4, c5, c6, c7, c8] := by
  match l, h with
  | [c0, c1, c2, c3, c4, c5, c6, c7, c8], _ => exact ⟨c0, c1, c2, c3, c4, c5, c6, c7, c8, rfl⟩
set_option maxHeartbeats 1000000 in
theorem open_msg {H : Type} {enc : TypeId × Value → H} {W : World} {r : Reach} {b0 : Nat} {v : Value} {d : DataW H} {ps : List MemPlace} (hval : Value.okWide Try.prog W r b0 27 v)
    (h : DataW.Trod enc Try.prog W 0 (fun _ => true) true 27 v d ps) {ts : List TypeId} {ds : List (DataW H)} (hsz : (DataW.weightsEach Try.prog ts ds).all (· ≤ reachBytes) = true) {j : Nat} (ht : ts[j]? = some 27) (hd : ds[j]? = some d) :
    ∃ (m : MsgM) (Q : List (PastM × Value)) (ev : ByteArray) (t s n u st pa : Value), v = msgV m ev t s n u st pa ∧ MI W m Q ev t s n u st pa := by
  have hw : ∀ x ∈ d.weights Try.prog 27, x ≤ 140737488355328 := fun x hx => by
    have := List.all_eq_true.1 hsz _ (DataW.weights_mem_each ht hd x hx)
    unfold reachBytes at this
    simp at this
    omega
  obtain ⟨cs, rfl, hcs⟩ := okWide_struct Try.underlying27 hval
  obtain ⟨fuel, hf⟩ := h
  obtain ⟨xs, n, _, hx, _, hxl, hfl⟩ := DataW.trod_struct Try.underlying27 hf
  obtain ⟨u0, u1, u2, u3, u4, u5, u6, u7, u8, rfl⟩ := array9 (hcs.trans cellsMsg)
  have f0 : DataW.trod enc Try.prog W 0 (fun _ => true) true n 3 (([u0, u1, u2, u3, u4, u5, u6, u7, u8].drop 0).take (Try.prog.cellsOf 3)) = xs[0]? := hfl 0 _ rfl
  have f1 : DataW.trod enc Try.prog W 0 (fun _ => true) true n 22 (([u0, u1, u2, u3, u4, u5, u6, u7, u8].drop 1).take (Try.prog.cellsOf 22)) = xs[1]? := hfl 1 _ rfl
  have f2 : DataW.trod enc Try.prog W 0 (fun _ => true) true n 9 (([u0, u1, u2, u3, u4, u5, u6, u7, u8].drop 2).take (Try.prog.cellsOf 9)) = xs[2]? := hfl 2 _ rfl
  have f3 : DataW.trod enc Try.prog W 0 (fun _ => true) true n 23 (([u0, u1, u2, u3, u4, u5, u6, u7, u8].drop 3).take (Try.prog.cellsOf 23)) = xs[3]? := hfl 3 _ rfl
  have f4 : DataW.trod enc Try.prog W 0 (fun _ => true) true n 23 (([u0, u1, u2, u3, u4, u5, u6, u7, u8].drop 4).take (Try.prog.cellsOf 23)) = xs[4]? := hfl 4 _ rfl
  have f5 : DataW.trod enc Try.prog W 0 (fun _ => true) true n 23 (([u0, u1, u2, u3, u4, u5, u6, u7, u8].drop 5).take (Try.prog.cellsOf 23)) = xs[5]? := hfl 5 _ rfl
  have f6 : DataW.trod enc Try.prog W 0 (fun _ => true) true n 23 (([u0, u1, u2, u3, u4, u5, u6, u7, u8].drop 6).take (Try.prog.cellsOf 23)) = xs[6]? := hfl 6 _ rfl
  have f7 : DataW.trod enc Try.prog W 0 (fun _ => true) true n 24 (([u0, u1, u2, u3, u4, u5, u6, u7, u8].drop 7).take (Try.prog.cellsOf 24)) = xs[7]? := hfl 7 _ rfl
  have f8 : DataW.trod enc Try.prog W 0 (fun _ => true) true n 25 (([u0, u1, u2, u3, u4, u5, u6, u7, u8].drop 8).take (Try.prog.cellsOf 25)) = xs[8]? := hfl 8 _ rfl
  obtain ⟨y0, y1, y2, y3, y4, y5, y6, y7, y8, rfl⟩ := list9 (show xs.length = 9 from hxl)
  rw [cellsI] at f0
  rw [cellsU64] at f1
  rw [cellsS] at f2
  rw [cellsSlI] at f3 f4 f5 f6
  rw [cellsSlSet] at f7
  rw [cellsSlPast] at f8
  obtain ⟨kd, h0, _, _⟩ := DataW.trod_int Try.underlying3 (show _ = some y0 from f0)
  obtain ⟨stp, h1, _, w1⟩ := DataW.trod_int Try.underlying22 (show _ = some y1 from f1)
  obtain ⟨s, h2, g2, _⟩ := DataW.trod_string Try.underlying9 (show _ = some y2 from f2)
  simp at h0 h1 h2
  simp only [Prod.mk.injEq] at hx
  obtain ⟨hd0, _⟩ := hx
  have hdd : d = .agg [y0.1, y1.1, .lit (.string s.data.toList), y3.1, y4.1, y5.1, y6.1, y7.1, y8.1] := by rw [hd0, g2]; rfl
  rw [hdd] at hw
  obtain ⟨l3, a1, a2⟩ := ints_in (show _ = some y3 from f3) (fun x hx => hw x (by simp [DataW.weights, DataW.weightsEach, Try.underlying27, hx]))
  obtain ⟨l4, b1, b2⟩ := ints_in (show _ = some y4 from f4) (fun x hx => hw x (by simp [DataW.weights, DataW.weightsEach, Try.underlying27, hx]))
  obtain ⟨l5, c1, c2⟩ := ints_in (show _ = some y5 from f5) (fun x hx => hw x (by simp [DataW.weights, DataW.weightsEach, Try.underlying27, hx]))
  obtain ⟨l6, d1, d2⟩ := ints_in (show _ = some y6 from f6) (fun x hx => hw x (by simp [DataW.weights, DataW.weightsEach, Try.underlying27, hx]))
  obtain ⟨l7, e1, e2, e3⟩ := sets_in (show _ = some y7 from f7) (fun x hx => hw x (by simp [DataW.weights, DataW.weightsEach, Try.underlying27, hx]))
  obtain ⟨Q, k1, k2, k3⟩ := pasts_in (show _ = some y8 from f8) (fun x hx => hw x (by simp [DataW.weights, DataW.weightsEach, Try.underlying27, hx]))
  have hn := hw s.data.toList.length (by simp [DataW.weights, DataW.weightsEach, Try.underlying27])
  have w2 := wf_u64 w1
  refine ⟨⟨kd, stp.toNat, s.data.toList, l3, l4, l5, l6, l7, Q.map Prod.fst⟩, Q, s, u3, u4, u5, u6, u7, u8, by rw [h0, h1, h2]; unfold msgV; rw [Int.toNat_of_nonneg w2.1], rfl, by rw [Lib.size_eq]; omega, by show stp.toNat < _; omega, a1, b1, c1, d1, e1, e2, k1, rfl, k2, a2, b2, c2, d2, e3, k3⟩
end Go.Proofs.Ytlbhkendbngmaaa.Wi
