/- Layer 17: what comes in, opened. -/
import Derived.Test.YtlblkakjbjmciaaIm
import Derived.Test.YtlblkakjbjmciaaIn
import Derived.ProofKit
import Derived.SliceStrings
import Derived.ChangeSlices
import Derived.SizedLaws
namespace Go.Proofs.Ytlblkakjbjmciaa.Bg
open Go.RowKit Go.Proofs.Ytlblkakjbjmciaa.Wi Go.ChangeShapes Go.WideShapes Go.ChangeAt

theorem weigh17 {H : Type} {ts : List TypeId} {ds : List (DataW H)} (hsz : (DataW.weightsEach Try.prog ts ds).all (· ≤ reachBytes) = true) {j : Nat} {t : TypeId} {d : DataW H} (ht : ts[j]? = some t) (hd : ds[j]? = some d) : ∀ x ∈ d.weights Try.prog t, x ≤ 140737488355328 := fun x hx => by
  have := List.all_eq_true.1 hsz _ (DataW.weights_mem_each ht hd x hx)
  unfold reachBytes at this
  simp at this
  omega
theorem cellsStr17 : Try.prog.cellsOf 9 = 1 := by kernel_rfl
theorem bytesStr17 : Try.prog.bytesOf 9 = 16 := by kernel_rfl
theorem weights_strs {H : Type} (t : TypeId) : ∀ (l : List ByteArray) (s : ByteArray), s ∈ l → s.data.toList.length ∈ DataW.weightsAll Try.prog t (strs (H := H) l)
  | [], s, h => by cases h
  | x :: r, s, h => by
    show _ ∈ (DataW.weights Try.prog t (.lit (.string x.data.toList) : DataW H)) ++ DataW.weightsAll Try.prog t (strs r)
    rcases List.mem_cons.1 h with rfl | h
    · exact List.mem_append.2 (Or.inl (by simp [DataW.weights]))
    · exact List.mem_append.2 (Or.inr (weights_strs t r s h))
theorem open_texts {H : Type} {enc : TypeId × Value → H} {W : World} {r : Reach} {b0 : Nat} {v : Value} {d : DataW H} {ps : List MemPlace} (hval : Value.okWide Try.prog W r b0 27 v)
    (h : DataW.Trod enc Try.prog W 0 (fun _ => true) true 27 v d ps) {ts : List TypeId} {ds : List (DataW H)} (hsz : (DataW.weightsEach Try.prog ts ds).all (· ≤ reachBytes) = true) {j : Nat} (ht : ts[j]? = some 27) (hd : ds[j]? = some d) :
    ∃ xs, Ins W v xs ∧ xs.length ≤ 140737488355328 ∧ ∀ x ∈ xs, x.length ≤ 281474976710656 := by
  have hw := weigh17 hsz ht hd
  obtain ⟨a0, len, cap, rfl⟩ := okWide_slice Try.underlying27 hval
  obtain ⟨fuel, hf⟩ := h
  rcases open_strings Try.underlying27 Try.underlying9 cellsStr17 hf with ⟨hcs, hx⟩ | ⟨a, len', cap', ss, hcs, _, hl, hm, hz, hx, hcell, hwz⟩
  · simp [Value.cells] at hcs
    obtain ⟨rfl, rfl, rfl⟩ := hcs
    exact ⟨[], ⟨⟨none, 0, rfl, fun i hi => absurd hi (by simp)⟩, fun A n c e => by cases e; exact Nat.le_refl _⟩, by simp, fun x hx => by cases hx⟩
  · simp [Value.cells] at hcs
    obtain ⟨rfl, rfl, rfl⟩ := hcs
    simp only [Prod.mk.injEq] at hx
    obtain ⟨rfl, rfl⟩ := hx
    simp only [if_true] at hz
    simp only [DataW.weights, Try.underlying27, List.mem_cons, List.mem_append] at hw
    have hlen : ((ss.take len).map (·.data.toList)).length = len := by simp; omega
    refine ⟨(ss.take len).map (·.data.toList), ⟨⟨some a, cap, by rw [hlen], fun i hi => ⟨a, rfl, ?_⟩⟩, fun A n c e => by cases e; exact hl⟩, ?_, ?_⟩
    · rw [hlen] at hi
      have hi2 : i < ss.length := by omega
      have hc := hcell i hi2
      have e : ss.getD i ByteArray.empty = ss[i] := by simp [List.getD, hi2]
      rw [e] at hc
      rw [hc]
      simp [bS]
    · rw [hlen]
      have hm2 := hw _ (Or.inl rfl)
      rw [bytesStr17] at hm2
      have h1 : (strs (H := H) (ss.take len)).length = (ss.take len).length := by simp [strs]
      rw [h1, List.length_take] at hm2
      omega
    · intro x hx
      obtain ⟨s, hs, rfl⟩ := List.mem_map.1 hx
      have := hw _ (Or.inr (Or.inl (weights_strs _ _ s hs)))
      omega
theorem cellsInt17 : Try.prog.cellsOf 3 = 1 := by kernel_rfl
theorem bytesInt17 : Try.prog.bytesOf 3 = 8 := by kernel_rfl
theorem open_nums {H : Type} {enc : TypeId × Value → H} {W : World} {r : Reach} {b0 : Nat} {v : Value} {d : DataW H} {ps : List MemPlace} (hval : Value.okWide Try.prog W r b0 30 v)
    (h : DataW.Trod enc Try.prog W 0 (fun _ => true) true 30 v d ps) {ts : List TypeId} {ds : List (DataW H)} (hsz : (DataW.weightsEach Try.prog ts ds).all (· ≤ reachBytes) = true) {j : Nat} (ht : ts[j]? = some 30) (hd : ds[j]? = some d) :
    ∃ l, RdI W v l ∧ l.length ≤ 140737488355328 ∧ ∀ z ∈ l, z ≤ 9223372036854775807 := by
  have hw := weigh17 hsz ht hd
  obtain ⟨a0, len, cap, rfl⟩ := okWide_slice Try.underlying30 hval
  obtain ⟨fuel, hf⟩ := h
  rcases open_ints Try.underlying30 Try.underlying3 cellsInt17 hf with ⟨hcs, hx⟩ | ⟨a, len', cap', zs, hcs, _, hl, hm, hz, hx, hcell, hwz⟩
  · simp [Value.cells] at hcs
    obtain ⟨rfl, rfl, rfl⟩ := hcs
    exact ⟨[], ⟨none, 0, rfl, fun i hi => absurd hi (by simp)⟩, by simp, fun x hx => by cases hx⟩
  · simp [Value.cells] at hcs
    obtain ⟨rfl, rfl, rfl⟩ := hcs
    simp only [Prod.mk.injEq] at hx
    obtain ⟨rfl, rfl⟩ := hx
    simp only [if_true] at hz
    simp only [DataW.weights, Try.underlying30, List.mem_cons, List.mem_append] at hw
    have hlen : (zs.take len).length = len := by simp; omega
    refine ⟨zs.take len, ⟨some a, cap, by rw [hlen], fun i hi => ⟨a, rfl, ?_⟩⟩, ?_, ?_⟩
    · rw [hlen] at hi
      have hi2 : i < zs.length := by omega
      have hc := hcell i hi2
      have e : zs.getD i 0 = zs[i] := by simp [List.getD, hi2]
      rw [e] at hc
      rw [hc, List.getElem_take]
    · rw [hlen]
      have hm2 := hw _ (Or.inl rfl)
      rw [bytesInt17] at hm2
      have h1 : (lits (H := H) .i64 (zs.take len)).length = (zs.take len).length := by simp [lits]
      rw [h1, List.length_take] at hm2
      omega
    · intro z hz2
      have := hwz z (List.mem_of_mem_take hz2)
      have h1 : IntKind.i64.min = -9223372036854775808 := by kernel_rfl
      have h2 : IntKind.i64.max = 9223372036854775807 := by kernel_rfl
      simp [Lit.wf, h1, h2] at this
      omega
theorem bound_lawI (n : Int) (h0 : 0 ≤ n) (hn : n ≤ 255) (s : ByteArray) (hs : s.size ≤ 281474976710656) (w : World) : Calls Try.prog 3 #[.int .u8 n, .string s] w fun e w' => e = .returned (.bool true) ∧ Below w.heap.size w w' := by
  obtain ⟨k, rfl⟩ := Int.eq_ofNat_of_zero_le h0
  exact bound_law k (by omega) s hs w
end Go.Proofs.Ytlblkakjbjmciaa.Bg
