/- Layer 17: one is taken out: those behind it move up. -/
import Derived.Test.YtlblkakjbjmciaaIc
import Derived.Laws.CopyOwn
namespace Go.Proofs.Ytlblkakjbjmciaa.Bg
open Go.RowKit Go.Proofs.Ytlblkakjbjmciaa.Wi
set_option maxRecDepth 100000

/-- a copy of elements of several cells: all is read before anything is written -/
theorem run_copy_rows {P : Program} (w : World) (dT sT ty elem : TypeId) (sz g o dLen dCap : Nat) (a : Addr) (sLen sCap : Nat) (cur : Array Value) (t : TypeId) (cs : List Value)
    (hu : P.underlying dT = some (.slice elem)) (hs : (P.info? elem).map (·.size) = some sz)
    (hg : w.heap[g]? = some (.cells cur t (0, 0))) (hn : cs.length = Nat.min sLen dLen * sz)
    (hsrc : ∀ j v, cs[j]? = some v → w.cell? (a.add j) = some v) (hfit : o + cs.length ≤ cur.size) (h1 : ∀ v ∈ cs, v.oneCell' = true) :
    (Builtin.copy_ #[dT, sT] ty #[.slice (some ⟨g, o, none⟩) dLen dCap, .slice (some a) sLen sCap]).run P w =
      .ok (goInt (Nat.min sLen dLen)) (w.setRow g (cur.toList.take o ++ cs ++ cur.toList.drop (o + cs.length)).toArray) := by
  have hl := run_loadCells_list (P := P) w a cs hsrc
  have hst := run_storeCells_at P g o t cs 0 cur w hg (by simpa using hfit) h1
  cases hq : P.info? elem with
  | none => simp [hq] at hs
  | some i =>
    have hi : i.size = sz := by simpa [hq] using hs
    simp [Builtin.copy_, run_underlying hu, Builtin.lenOf, Builtin.firstCells, sizeOf, typeInfo, hq, hi, ← hn, hl, hst]
theorem Try.sizeData : (Try.prog.info? 41).map (·.size) = some 2 := by kernel_rfl
/-- f, but from k on what stood one place behind -/
def gone (f : Nat → Bytes × Bool) (k n j : Nat) : Bytes × Bool := if k ≤ j ∧ j + 1 < n then f (j + 1) else f j
theorem cell_one (f : Nat → Bytes × Bool) (n j : Nat) : (cellB f n j).oneCell' = true := by
  unfold cellB
  split
  · rfl
  · split <;> rfl
theorem moved {K n k : Nat} {f : Nat → Bytes × Bool} {w : World} (hb : Box K f n w) (hk : k < n) (hn : n ≤ 16) (A2 : Addr) (hA : k + 1 < n → A2 = ⟨K, (k + 1) * 2, none⟩) :
    ∃ W, (∀ (ty : TypeId) (dc sc : Nat), (Builtin.copy_ #[52, 52] ty #[.slice (some ⟨K, k * 2, none⟩) (n - k) dc, .slice (some A2) (n - (k + 1)) sc]).run Try.prog w = .ok (goInt (n - (k + 1) : Nat)) W) ∧ Box K (gone f k n) n W ∧ Fr K w W := by
  obtain ⟨cs, hcs⟩ : ∃ cs : List Value, cs = (List.range ((n - (k + 1)) * 2)).map fun j => cellB f n ((k + 1) * 2 + j) := ⟨_, rfl⟩
  have hlen : cs.length = (n - (k + 1)) * 2 := by rw [hcs]; simp
  have hmin : Nat.min (n - (k + 1)) (n - k) = n - (k + 1) := Nat.min_eq_left (by omega)
  have hat : ∀ j, j < (n - (k + 1)) * 2 → cs[j]? = some (cellB f n ((k + 1) * 2 + j)) := fun j hj => by
    rw [hcs]; simp [List.getElem?_range hj]
  refine ⟨w.setRow K ((bagA f n).toList.take (k * 2) ++ cs ++ (bagA f n).toList.drop (k * 2 + cs.length)).toArray, fun ty dc sc => ?_, ?_, ?_⟩
  · have := run_copy_rows (P := Try.prog) w 52 52 ty 41 2 K (k * 2) (n - k) dc A2 (n - (k + 1)) sc (bagA f n) 44 cs Try.underlying52 Try.sizeData hb (by rw [hmin]; exact hlen)
      (fun j v hj => by
        have hj2 : j < (n - (k + 1)) * 2 := by
          rcases Nat.lt_or_ge j cs.length with h | h
          · omega
          · rw [List.getElem?_eq_none h] at hj; cases hj
        have hA2 := hA (by omega)
        rw [hat j hj2] at hj
        cases hj
        have : A2.add j = ⟨K, (k + 1) * 2 + j, none⟩ := by rw [hA2]; simp [Addr.add]
        rw [this]
        exact hb.cell _ (by omega)) (by rw [bagA_size]; omega) (by
        intro v hv
        rw [hcs] at hv
        obtain ⟨j, _, rfl⟩ := List.mem_map.1 hv
        exact cell_one _ _ _)
    rw [hmin] at this
    exact this
  · unfold Box
    rw [setRow_heap w K (bagA f n) _ 44 (0, 0) hb]
    congr 2
    apply Array.ext_getElem?
    intro j
    rw [List.getElem?_toArray]
    have hsz : (bagA f n).toList.length = 33 := by rw [Array.length_toList]; exact bagA_size f n
    have htl : ((bagA f n).toList.take (k * 2)).length = k * 2 := by rw [List.length_take, hsz]; omega
    have hf : ∀ i, i < 33 → (bagA f n).toList[i]? = some (cellB f n i) := fun i hi => by rw [Array.getElem?_toList]; exact bagA_at f n i hi
    by_cases hj : j < 33
    · rw [bagA_at _ n j hj]
      by_cases h1 : j < k * 2
      · rw [List.append_assoc, List.getElem?_append_left (by omega), List.getElem?_take_of_lt h1, hf j hj]
        unfold cellB gone
        rw [if_neg (show ¬ (k ≤ j / 2 ∧ j / 2 + 1 < n) by omega)]
      · by_cases h2 : j < k * 2 + cs.length
        · rw [List.append_assoc, List.getElem?_append_right (by omega), List.getElem?_append_left (by omega), htl, hat _ (by omega)]
          have e1 : (k + 1) * 2 + (j - k * 2) = j + 2 := by omega
          rw [e1]
          unfold cellB gone
          rw [if_neg (show ¬ j + 2 = 32 by omega), if_neg (show ¬ j = 32 by omega), if_pos (show k ≤ j / 2 ∧ j / 2 + 1 < n by omega), show (j + 2) / 2 = j / 2 + 1 by omega]
          by_cases hp : j % 2 = 0
          · rw [if_pos hp, if_pos (by omega)]
          · rw [if_neg hp, if_neg (by omega)]
        · rw [List.append_assoc, List.getElem?_append_right (by omega), List.getElem?_append_right (by omega), htl, List.getElem?_drop, show k * 2 + cs.length + (j - k * 2 - cs.length) = j by omega, hf j hj]
          unfold cellB gone
          rw [if_neg (show ¬ (k ≤ j / 2 ∧ j / 2 + 1 < n) by omega)]
    · rw [Array.getElem?_eq_none (by rw [bagA_size]; omega), List.getElem?_eq_none (by simp [hsz, hlen]; omega)]
  · exact ⟨rfl, rfl, rfl, by simp [World.setRow], fun q _ hq => setRow_other w K q _ (fun e => hq (by rw [e]))⟩
theorem Try.zeroData : ∀ w, (zeroValue 41).run Try.prog w = .ok (.agg #[.string ⟨#[]⟩, .bool false]) w := fun w => by
  have h : (Try.prog.info? 41).map (·.zero) = some (some (.agg #[.string ⟨#[]⟩, .bool false])) := by kernel_rfl
  cases hq : Try.prog.info? 41 with
  | none => simp [hq] at h
  | some i =>
    have hz : i.zero = some (.agg #[.string ⟨#[]⟩, .bool false]) := by simpa [hq] using h
    simp [zeroValue, typeInfo, hq, hz]
theorem cleared {K m : Nat} {w : World} (c0 : ∃ u, w.cell? ⟨K, m * 2, none⟩ = some u) (c1 : ∃ u, w.cell? ⟨K, m * 2 + 1, none⟩ = some u) (f0 : w.frozen? ⟨K, m * 2, none⟩ = false) (f1 : w.frozen? ⟨K, m * 2 + 1, none⟩ = false) (ty : TypeId) (c : Nat) :
    (Builtin.clear_ #[52] ty #[.slice (some ⟨K, m * 2, none⟩) 1 c]).run Try.prog w = .ok (.tuple #[]) ((w.setCell ⟨K, m * 2, none⟩ (.string ⟨#[]⟩)).setCell ⟨K, m * 2 + 1, none⟩ (.bool false)) := by
  obtain ⟨u0, c0⟩ := c0
  obtain ⟨u1, c1⟩ := c1
  have hz : (Builtin.zeroCells (Value.agg #[.string ⟨#[]⟩, .bool false]).cells 1).toList = [.string ⟨#[]⟩, .bool false] := by simp [Builtin.zeroCells, Value.cells, Array.range]
  have a0 : (⟨K, m * 2, none⟩ : Addr).add 0 = ⟨K, m * 2, none⟩ := rfl
  have a1 : (⟨K, m * 2, none⟩ : Addr).add 1 = ⟨K, m * 2 + 1, none⟩ := rfl
  have d1 : (w.setCell ⟨K, m * 2, none⟩ (.string ⟨#[]⟩)).cell? ⟨K, m * 2 + 1, none⟩ = some u1 := by
    rw [World.cell?_setCell_other w (a := ⟨K, m * 2, none⟩) (b := ⟨K, m * 2 + 1, none⟩) _ (by intro k; injection k with _ k _; omega)]
    exact c1
  have g1 : (w.setCell ⟨K, m * 2, none⟩ (.string ⟨#[]⟩)).frozen? ⟨K, m * 2 + 1, none⟩ = false := by rw [World.frozen?_setCell]; exact f1
  have s0 := fun q => run_store Try.prog w ⟨K, m * 2, none⟩ (.string ⟨#[]⟩) q rfl
  have s1 := fun q => run_store Try.prog (w.setCell ⟨K, m * 2, none⟩ (.string ⟨#[]⟩)) ⟨K, m * 2 + 1, none⟩ (.bool false) q rfl
  simp [c0, f0] at s0
  simp [d1, g1] at s1
  simp [Builtin.clear_, run_underlying Try.underlying52, hz, storeCells, a0, a1, s0, s1]
theorem gone_fn {L : Bag} {k : Nat} (hk : k < L.length) : upd (gone (fn L) k L.length) (L.length - 1) ([], false) = fn (L.eraseIdx k) := by
  funext j
  unfold upd gone fn
  simp only [List.getD_eq_getElem?_getD, List.getElem?_eraseIdx]
  by_cases e : j = L.length - 1
  · rw [if_pos e]
    by_cases h1 : j < k
    · omega
    · rw [if_neg h1, List.getElem?_eq_none (by omega)]; rfl
  · rw [if_neg e]
    by_cases h1 : j < k
    · rw [if_pos h1, if_neg (by omega)]
    · rw [if_neg h1]
      by_cases h2 : j + 1 < L.length
      · rw [if_pos ⟨by omega, h2⟩]
      · rw [if_neg (by omega), List.getElem?_eq_none (by omega), List.getElem?_eq_none (by omega)]
theorem Try.alen : Try.prog.arrayLen 42 = 16 := by kernel_rfl
theorem Try.aelem : Try.prog.elem 42 = 41 := by kernel_rfl
theorem sliced_one {K : Nat} (m : Nat) (hm : m < 16) (w : World) : Sem.run Try.prog (Instr.sliceAt 42 (.pointer (some ⟨K, 0, none⟩)) (some (.int .i64 (m : Int))) (some (.int .i64 ((m : Int) + 1))) none) w = .ok (.slice (some ⟨K, m * 2, none⟩) 1 (16 - m)) w := by
  rw [run_sliceAt_array_lh w 42 ⟨K, 0, none⟩ (by rw [Try.alen, Try.aelem]; exact Try.underlying42) .i64 .i64 m (m + 1) (by omega) (by omega) (by rw [Try.alen]; omega)]
  have hs : (sizeOf (Try.prog.elem 42)).run Try.prog w = .ok 2 w := by
    rw [Try.aelem]
    exact Try.sizeOf41 w
  rw [hs, Try.alen]
  have e : ((m : Int) + 1).toNat = m + 1 := by omega
  simp only [Result.andThen_ok, slicedAt, Int.toNat_natCast, e]
  rw [if_neg (by omega), show m + 1 - m = 1 by omega]
  have : (⟨K, 0, none⟩ : Addr).add (m * 2) = ⟨K, m * 2, none⟩ := by
    unfold Addr.add
    by_cases h : m * 2 = 0 <;> simp [h]
  rw [this]
set_option maxHeartbeats 3200000 in
theorem takeOut_any {K : Nat} {L : Bag} {w : World} (h : BagAt K L w) (k : Nat) (hk : k < L.length) :
    Calls Try.prog 21 #[bp K, .int .i64 k] w fun e w' => e = .returned (.tuple #[]) ∧ BagAt K (L.eraseIdx k) w' ∧ Fr K w w' := by
  have hle := h.le
  have hfin := gone_fn hk
  have hlen : (L.eraseIdx k).length = L.length - 1 := List.length_eraseIdx_of_lt hk
  have hB : Box K (fn L) L.length w.drew := h.box
  have c0 := h.box.num
  obtain ⟨n, hn⟩ : ∃ n, n = L.length := ⟨_, rfl⟩
  obtain ⟨M, hM⟩ : ∃ M, M = L.eraseIdx k := ⟨_, rfl⟩
  rw [← hM] at hlen hfin ⊢
  rw [← hn] at c0 hlen hfin hB
  have hkn : k < n := by omega
  have hn16 : n ≤ 16 := by omega
  obtain ⟨A2, hA2⟩ : ∃ A2 : Addr, A2 = if 16 = k + 1 then ⟨K, 0, none⟩ else ⟨K, (k + 1) * 2, none⟩ := ⟨_, rfl⟩
  obtain ⟨W, hrun, hbW, hfW⟩ := moved hB hkn hn16 A2 (fun h1 => by rw [hA2, if_neg (by omega)])
  have hwr : IntKind.i64.wrap (k : Int) = (k : Int) := IntWalk.i64_in _ (by omega)
  have hwr1 : IntKind.i64.wrap ((k : Int) + 1) = ((k + 1 : Nat) : Int) := by rw [IntWalk.i64_in _ (by omega)]; rfl
  have i1 : (k : Int) ≤ (n : Int) := by omega
  have i2 : (n : Int) ≤ 16 := by omega
  have i3 : (k : Int) + 1 ≤ (n : Int) := by omega
  have i4 : k ≤ n := by omega
  have i5 : k + 1 ≤ n := by omega
  have i6 : 0 ≤ (k : Int) + 1 := by omega
  have d0 := hbW.num
  have g0 := hbW.fro 32
  obtain ⟨m, hm⟩ : ∃ m, m = n - 1 := ⟨_, rfl⟩
  have hw2 : IntKind.i64.wrap ((n : Int) - 1) = (m : Int) := by rw [IntWalk.i64_in _ (by omega)]; omega
  obtain ⟨W2, hW2⟩ : ∃ W2, W2 = W.setCell ⟨K, 32, none⟩ (.int .i64 (m : Int)) := ⟨_, rfl⟩
  have hbW2 : Box K (gone (fn L) k n) m W2 := by rw [hW2]; exact hbW.setNum m
  have hfW2 : Fr K W W2 := by rw [hW2]; exact Fr.set K _ _ _
  have hm16 : m < 16 := by omega
  have hbd : Box K (gone (fn L) k n) m W2.drew := hbW2
  have hcl := fun (ty : TypeId) (c : Nat) => cleared (w := W2.drew) ⟨_, hbd.txt m hm16⟩ ⟨_, hbd.trn m hm16⟩ (hbd.fro _) (hbd.fro _) ty c
  obtain ⟨W3, hW3⟩ : ∃ W3, W3 = (W2.drew.setCell ⟨K, m * 2, none⟩ (.string ⟨#[]⟩)).setCell ⟨K, m * 2 + 1, none⟩ (.bool false) := ⟨_, rfl⟩
  have hbW3 : Box K (upd (gone (fn L) k n) m ([], false)) m W3 := by rw [hW3]; exact hbd.setBoth m hm16 ([], false)
  have hfW3 : Fr K W2 W3 := by rw [hW3]; exact ((Fr.refl K W2).drew.trans (Fr.set K _ _ _)).trans (Fr.set K _ _ _)
  rw [← hW3] at hcl
  have hFin : BagAt K M W3 ∧ Fr K w W3 := ⟨⟨by rw [hlen, ← hfin, ← hm]; exact hbW3, by omega⟩, (((Fr.refl K w).drew.trans hfW).trans hfW2).trans hfW3⟩
  have e0 := hbW2.num
  have j1 : (m : Int) + 1 ≤ 16 := by omega
  have j2 : 0 ≤ (m : Int) + 1 := by omega
  have j3 : m + 1 ≤ 16 := by omega
  have hw3 : IntKind.i64.wrap ((m : Int) + 1) = ((m + 1 : Nat) : Int) := by rw [IntWalk.i64_in _ (by omega)]; rfl
  have hw4 : IntKind.i64.wrap (m : Int) = (m : Int) := IntWalk.i64_in _ (by omega)
  have j4 : ¬ 16 = m := by omega
  have hsl : ∀ w : World, Sem.run Try.prog (Instr.sliceAt 42 (.pointer (some ⟨K, 0, none⟩)) (some (.int .i64 (m : Int))) (some (.int .i64 ((m : Int) + 1))) none) w = .ok (.slice (some ⟨K, m * 2, none⟩) 1 (16 - m)) w := fun w => sliced_one m hm16 w
  have HF := Lib.hid hFin; have HW2 := Lib.hid hW2; have HM2 := Lib.hid hm
  clear hn h hle hk hM hlen hfin hB hbW hfW hm hW2 hbW2 hfW2 hbd hW3 hbW3 hfW3 hFin
  unfold bp
  by_cases h16 : 16 = k + 1
  · rw [if_pos h16] at hA2
    obtain rfl : k = 15 := by omega
    obtain rfl : n = 16 := by omega
    obtain rfl : m = 15 := HM2.out
    have HW2 : Hid (W2 = W.setCell ⟨K, 32, none⟩ (.int .i64 15)) := HW2.out
    subst hA2
    go_enter Try.func21, Try.ntmps21
    go_upto_region 0 with fail
    go_region
    go_upto_region 2 with fail
    rw [← HW2.out]
    go_region
    go_wp2
    go_end0
    exact ⟨rfl, HF.out⟩
  · rw [if_neg h16] at hA2
    subst hA2
    go_enter Try.func21, Try.ntmps21
    go_upto_region 0 with fail
    go_region
    go_upto_region 2 with fail
    rw [← HW2.out]
    go_region
    go_wp2
    go_end0
    exact ⟨rfl, HF.out⟩
end Go.Proofs.Ytlblkakjbjmciaa.Bg
