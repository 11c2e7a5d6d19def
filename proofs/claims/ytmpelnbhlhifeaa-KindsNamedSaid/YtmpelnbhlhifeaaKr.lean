/- A scope as an argument; its bounds. -/
import Derived.Test.YtmpelnbhlhifeaaRows
import Derived.Test.YtmpelnbhlhifeaaKq
namespace Go.Proofs.Ytmpelnbhlhifeaa
open Go.RowKit Go.ChangeShapes Go.WideShapes Go.ChangeAt Go.Joins

theorem open_scope {H : Type} {enc : TypeId × Value → H} {W : World} {r : Reach} {b0 : Nat} {v : Value} {d : DataW H} {ps : List MemPlace} (hval : Value.okWide Try.prog W r b0 26 v)
    (h : DataW.Trod enc Try.prog W 0 (fun _ => true) true 26 v d ps) :
    ∃ (vv sv : Value) (vs : List VM) (ss : List (List UInt8)) (d1 d2 : DataW H), v = .agg #[vv, sv] ∧ d = .agg [d1, d2] ∧ RdV W vv vs ∧ RdW W sv ss ∧ ((d1 = .nil ∧ vs = []) ∨ ∃ es sp, d1 = .slice es sp ∧ vs.length = es.length) ∧ ((d2 = .nil ∧ ss = []) ∨ ∃ es sp, d2 = .slice es sp ∧ ss.length = es.length) := by
  obtain ⟨v0, v1, y0, y1, n, rfl, rfl, _, h0, h1⟩ := open_agg2 Try.underlying26 (by kernel_rfl) (by kernel_rfl) hval h
  obtain ⟨vs, a1, _, a2, _⟩ := vars_in h0
  obtain ⟨ss, b1, _, b2, _⟩ := strs_in h1
  exact ⟨v0, v1, vs, ss, y0.1, y1.1, rfl, rfl, a1, b1, a2, b2⟩

theorem scope_sized {H : Type} {ts : List TypeId} {ds : List (DataW H)} (h : (DataW.weightsEach Try.prog ts ds).all (· ≤ reachBytes) = true) {j : Nat} {d1 d2 : DataW H} {vs : List VM} {ss : List (List UInt8)} (ht : ts[j]? = some 26) (hd : ds[j]? = some (.agg [d1, d2]))
    (h1 : (d1 = .nil ∧ vs = []) ∨ ∃ es sp, d1 = .slice es sp ∧ vs.length = es.length) (h2 : (d2 = .nil ∧ ss = []) ∨ ∃ es sp, d2 = .slice es sp ∧ ss.length = es.length) : vs.length * 64 ≤ reachBytes ∧ ss.length * 16 ≤ reachBytes := by
  constructor
  · rcases h1 with ⟨_, rfl⟩ | ⟨es, sp, rfl, hl⟩
    · simp
    · have := List.all_eq_true.1 h _ (DataW.weights_mem_each ht hd ((es.length + sp.length) * Try.prog.bytesOf 44) (by simp [DataW.weights, DataW.weightsEach, Try.underlying26, Try.underlying23]))
      rw [bytesVar] at this
      simp at this
      omega
  · rcases h2 with ⟨_, rfl⟩ | ⟨es, sp, rfl, hl⟩
    · simp
    · have := List.all_eq_true.1 h _ (DataW.weights_mem_each ht hd ((es.length + sp.length) * Try.prog.bytesOf 9) (by simp [DataW.weights, DataW.weightsEach, Try.underlying26, Try.underlying24]))
      rw [bytesStr] at this
      simp at this
      omega

theorem bulk_le {H : Type} : ∀ ds : List (DataW H), ds.length ≤ Rows.uptoBulkAll ds
  | [] => Nat.zero_le _
  | d :: r => by
    have := bulk_le r
    have h1 : 1 ≤ Rows.uptoBulk d := by
      cases d with
      | lit l => cases l <;> simp [Rows.uptoBulk]
      | _ => simp [Rows.uptoBulk] <;> omega
    simp only [Rows.uptoBulkAll, List.length_cons]; omega
theorem scope_bulk {H : Type} {d1 d2 : DataW H} {vs : List VM} {ss : List (List UInt8)}
    (h1 : (d1 = .nil ∧ vs = []) ∨ ∃ es sp, d1 = .slice es sp ∧ vs.length = es.length) (h2 : (d2 = .nil ∧ ss = []) ∨ ∃ es sp, d2 = .slice es sp ∧ ss.length = es.length) : vs.length ≤ Rows.uptoBulk (.agg [d1, d2]) ∧ ss.length ≤ Rows.uptoBulk (.agg [d1, d2]) := by
  simp only [Rows.uptoBulk, Rows.uptoBulkAll]
  constructor
  · rcases h1 with ⟨_, rfl⟩ | ⟨es, sp, rfl, hl⟩
    · simp
    · have := bulk_le es
      simp only [Rows.uptoBulk]; omega
  · rcases h2 with ⟨_, rfl⟩ | ⟨es, sp, rfl, hl⟩
    · simp
    · have := bulk_le es
      simp only [Rows.uptoBulk]; omega
theorem cells_bulk {H : Type} {d : DataW H} {cs : List CM} (h : (d = .nil ∧ cs = []) ∨ ∃ es sp, d = .slice es sp ∧ cs.length = es.length) : cs.length ≤ Rows.uptoBulk d := by
  rcases h with ⟨_, rfl⟩ | ⟨es, sp, rfl, hl⟩
  · simp
  · have := bulk_le es
    simp only [Rows.uptoBulk]; omega
end Go.Proofs.Ytmpelnbhlhifeaa
