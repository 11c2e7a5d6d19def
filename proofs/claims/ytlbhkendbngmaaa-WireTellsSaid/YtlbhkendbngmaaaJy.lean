/- Layer 16: Unpack. -/
import Derived.Test.YtlbhkendbngmaaaJx
import Derived.Test.YtlbhkendbngmaaaJv
namespace Go.Proofs.Ytlbhkendbngmaaa.Wi
open Go.RowKit
set_option maxRecDepth 100000

/-- the four results' boxes, from K on -/
structure Box4 (K : Nat) (a b c d : Value) (W : World) : Prop where
  k : W.heap[K]? = some (.cells #[a] 3 (0, 0))
  n : W.heap[K + 1]? = some (.cells #[b] 22 (0, 0))
  l : W.heap[K + 2]? = some (.cells #[c] 9 (0, 0))
  e : W.heap[K + 3]? = some (.cells #[d] 28 (0, 0))
section
variable {K : Nat} {a b c d : Value} {W W' : World}
theorem Box4.ck (h : Box4 K a b c d W) : W.cell? ⟨K, 0, none⟩ = some a := (cell_of_row W _ 0 _ _ _ h.k).trans rfl
theorem Box4.cn (h : Box4 K a b c d W) : W.cell? ⟨K + 1, 0, none⟩ = some b := (cell_of_row W _ 0 _ _ _ h.n).trans rfl
theorem Box4.cl (h : Box4 K a b c d W) : W.cell? ⟨K + 2, 0, none⟩ = some c := (cell_of_row W _ 0 _ _ _ h.l).trans rfl
theorem Box4.ce (h : Box4 K a b c d W) : W.cell? ⟨K + 3, 0, none⟩ = some d := (cell_of_row W _ 0 _ _ _ h.e).trans rfl
theorem Box4.fk (h : Box4 K a b c d W) : W.frozen? ⟨K, 0, none⟩ = false := frozen_of_row W _ 0 _ _ h.k
theorem Box4.fn (h : Box4 K a b c d W) : W.frozen? ⟨K + 1, 0, none⟩ = false := frozen_of_row W _ 0 _ _ h.n
theorem Box4.fl (h : Box4 K a b c d W) : W.frozen? ⟨K + 2, 0, none⟩ = false := frozen_of_row W _ 0 _ _ h.l
theorem Box4.fe (h : Box4 K a b c d W) : W.frozen? ⟨K + 3, 0, none⟩ = false := frozen_of_row W _ 0 _ _ h.e
theorem off_set {W : World} {k q : Nat} {o : Obj} (h : W.heap[k]? = some o) (hne : k ≠ q) (v : Value) : (W.setCell ⟨q, 0, none⟩ v).heap[k]? = some o :=
  ((grown_set W q 0 v).block k (lt_of_heap h) (fun e => hne (Option.some.inj e))).trans h
theorem on_set {W : World} {k : Nat} {t : TypeId} {a : Value} (h : W.heap[k]? = some (.cells #[a] t (0, 0))) (v : Value) : (W.setCell ⟨k, 0, none⟩ v).heap[k]? = some (.cells #[v] t (0, 0)) := by
  rw [heap_setCell_same W k 0 _ _ _ h]; rfl
theorem Box4.setk (h : Box4 K a b c d W) (v : Value) : Box4 K v b c d (W.setCell ⟨K, 0, none⟩ v) := ⟨on_set h.k v, off_set h.n (by omega) v, off_set h.l (by omega) v, off_set h.e (by omega) v⟩
theorem Box4.setn (h : Box4 K a b c d W) (v : Value) : Box4 K a v c d (W.setCell ⟨K + 1, 0, none⟩ v) := ⟨off_set h.k (by omega) v, on_set h.n v, off_set h.l (by omega) v, off_set h.e (by omega) v⟩
theorem Box4.setl (h : Box4 K a b c d W) (v : Value) : Box4 K a b v d (W.setCell ⟨K + 2, 0, none⟩ v) := ⟨off_set h.k (by omega) v, off_set h.n (by omega) v, on_set h.l v, off_set h.e (by omega) v⟩
theorem Box4.sete (h : Box4 K a b c d W) (v : Value) : Box4 K a b c v (W.setCell ⟨K + 3, 0, none⟩ v) := ⟨off_set h.k (by omega) v, off_set h.n (by omega) v, off_set h.l (by omega) v, on_set h.e v⟩
theorem Box4.keep (h : Box4 K a b c d W) (hb : ∀ q, q < K + 4 → W'.heap[q]? = W.heap[q]?) : Box4 K a b c d W' := ⟨(hb K (by omega)).trans h.k, (hb _ (by omega)).trans h.n, (hb _ (by omega)).trans h.l, (hb _ (by omega)).trans h.e⟩
theorem Box4.start (w : World) (a b c d : Value) : Box4 w.heap.size a b c d ((((w.alloc (.cells #[a] 3)).alloc (.cells #[b] 22)).alloc (.cells #[c] 9)).alloc (.cells #[d] 28)) := by
  obtain ⟨w1, h1⟩ : ∃ W, W = w.alloc (.cells #[a] 3) := ⟨_, rfl⟩
  obtain ⟨w2, h2⟩ : ∃ W, W = w1.alloc (.cells #[b] 22) := ⟨_, rfl⟩
  obtain ⟨w3, h3⟩ : ∃ W, W = w2.alloc (.cells #[c] 9) := ⟨_, rfl⟩
  obtain ⟨w4, h4⟩ : ∃ W, W = w3.alloc (.cells #[d] 28) := ⟨_, rfl⟩
  have s1 : w1.heap.size = w.heap.size + 1 := by rw [h1]; simp
  have s2 : w2.heap.size = w.heap.size + 2 := by rw [h2]; simp [s1]
  have s3 : w3.heap.size = w.heap.size + 3 := by rw [h3]; simp [s2]
  have b2 : Below w1.heap.size w1 w2 := by rw [h2]; exact (Below.refl _ _).alloc (Nat.le_refl _) _
  have b3 : Below w2.heap.size w2 w3 := by rw [h3]; exact (Below.refl _ _).alloc (Nat.le_refl _) _
  have b4 : Below w3.heap.size w3 w4 := by rw [h4]; exact (Below.refl _ _).alloc (Nat.le_refl _) _
  have q1 : w1.heap[w.heap.size]? = some (.cells #[a] 3 (0, 0)) := by rw [h1]; exact heap_alloc_new w _
  have q2 : w2.heap[w.heap.size + 1]? = some (.cells #[b] 22 (0, 0)) := by rw [h2, ← s1]; exact heap_alloc_new w1 _
  have q3 : w3.heap[w.heap.size + 2]? = some (.cells #[c] 9 (0, 0)) := by rw [h3, ← s2]; exact heap_alloc_new w2 _
  have q4 : w4.heap[w.heap.size + 3]? = some (.cells #[d] 28 (0, 0)) := by rw [h4, ← s3]; exact heap_alloc_new w3 _
  rw [← h1, ← h2, ← h3, ← h4]
  exact ⟨(b4.block _ (by omega)).trans ((b3.block _ (by omega)).trans ((b2.block _ (by omega)).trans q1)), (b4.block _ (by omega)).trans ((b3.block _ (by omega)).trans q2), (b4.block _ (by omega)).trans q3, q4⟩
end
theorem idle_u (p q r t : Addr) (w : World) :
    CallsD Try.prog 38 #[.pointer (some p), .pointer (some q), .pointer (some r), .pointer (some t)] .returning w fun e u' w' => e = .returned (.tuple #[]) ∧ u' = .returning ∧ w' = w := by
  refine callsD_of_wpS Try.func38 rfl fun c₀ cs hu => ?_
  apply wpS_seq
  apply wpS_region
  simp [wpOpsS, go_sem, recoverD, hu, Try.ntmps38, Exit.thenS]
  refine wpS_cond (t := false) (by simp [Act.eval, Array.replicate]) ?_
  simp only [Bool.false_eq_true, if_false]
  refine wpS_of_wp (wp_skip ?_)
  cases c₀
  simp_all [bodyPostS, results, Try.results38]
theorem caught_u (K : Nat) (a b c d : Value) (older : List PanicEntry) (w : World) (hB : Box4 K a b c d w) :
    CallsD Try.prog 38 #[.pointer (some ⟨K, 0, none⟩), .pointer (some ⟨K + 1, 0, none⟩), .pointer (some ⟨K + 2, 0, none⟩), .pointer (some ⟨K + 3, 0, none⟩)] (.panicking ({ v := giveV, recovered := false } :: older)) w fun e u' w' =>
      e = .returned (.tuple #[]) ∧ u' = .panicking ({ v := giveV, recovered := true } :: older) ∧ Box4 K (.int .i64 0) (.int .u64 0) (.string ⟨#[]⟩) (.int .i64 1) w' ∧ ∀ B w0, B ≤ K → Below B w0 w → Below B w0 w' := by
  have c0 := hB.ck
  have c1 := hB.cn
  have c2 := hB.cl
  have c3 := hB.ce
  have f0 := hB.fk
  have f1 := hB.fn
  have f2 := hB.fl
  have f3 := hB.fe
  have bF := (((hB.setk (.int .i64 0)).setn (.int .u64 0)).setl (.string ⟨#[]⟩)).sete (.int .i64 1)
  have lF : ∀ B w0, B ≤ K → Below B w0 w → Below B w0 ((((w.setCell ⟨K, 0, none⟩ (.int .i64 0)).setCell ⟨K + 1, 0, none⟩ (.int .u64 0)).setCell ⟨K + 2, 0, none⟩ (.string ⟨#[]⟩)).setCell ⟨K + 3, 0, none⟩ (.int .i64 1)) := fun B w0 hK h =>
    low_set (low_set (low_set (low_set h hK _) (by omega) _) (by omega) _) (by omega) _
  obtain ⟨WF, hWF⟩ : ∃ W, W = (((w.setCell ⟨K, 0, none⟩ (.int .i64 0)).setCell ⟨K + 1, 0, none⟩ (.int .u64 0)).setCell ⟨K + 2, 0, none⟩ (.string ⟨#[]⟩)).setCell ⟨K + 3, 0, none⟩ (.int .i64 1) := ⟨_, rfl⟩
  rw [← hWF] at bF lF
  have HWF := Lib.hid hWF; have BF := Lib.hid bF; have LF := Lib.hid lF
  clear bF lF hWF
  refine callsD_of_wpS Try.func38 rfl fun c₀ cs hu => ?_
  apply wpS_seq
  apply wpS_region
  simp [wpOpsS, go_sem, recoverD, hu, Try.ntmps38, Exit.thenS, giveV]
  refine wpS_cond (t := true) (by simp [Act.eval, Array.replicate]) ?_
  simp only [if_true]
  refine wpS_of_wp ?_
  clear hu
  go_wp2
  rw [← HWF.out]
  clear HWF
  cases c₀
  simp_all [bodyPostS, results, Try.results38]
  exact ⟨BF.out, LF.out⟩
end Go.Proofs.Ytlbhkendbngmaaa.Wi
