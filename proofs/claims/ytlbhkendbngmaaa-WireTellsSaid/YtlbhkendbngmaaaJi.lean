/- Layer 16: Encode. -/
import Derived.Test.YtlbhkendbngmaaaJh
namespace Go.Proofs.Ytlbhkendbngmaaa.Wi
open Go.RowKit
set_option maxRecDepth 100000

/-- a message's value -/
def msgV (m : MsgM) (ev : ByteArray) (t s n v st ps : Value) : Value := .agg #[.int .i64 m.kd, .int .u64 m.step, .string ev, t, s, n, v, st, ps]
theorem own_byte {w : World} {base : Nat} {A : Option Addr} {c n : Nat} {L : Bytes} (h : w.ownsRow base 5 1 (.slice A n c) n (byteV L)) (hn : L.length = n) : (∃ a, A = some a ∧ ∀ j (h : j < L.length), w.cell? (a.add j) = some (.int .u8 (L[j].toNat : Nat))) ∨ (A = none ∧ L = [] ∧ c = 0) := by
  rcases h.2 with ⟨hv, h0⟩ | ⟨g, cap, cur, hv, _⟩
  · injection hv with h1 h2 h3
    exact Or.inr ⟨h1, List.eq_nil_of_length_eq_zero (by omega), h3⟩
  · injection hv with h1 h2 h3
    refine Or.inl ⟨_, h1, fun j hj => ?_⟩
    refine h.cells (g := g) (by rw [h1]; rfl) j _ ?_
    simp [byteV, hj]
theorem msg_ne (m : MsgM) : msgT m ≠ [] := by unfold msgT intT byteT; intro h; cases h
set_option maxHeartbeats 2000000 in
theorem encode_any (w : World) (m : MsgM) (ev : ByteArray) (t s n v st ps : Value) (hm : MsgIn w m ev t s n v st ps) :
    Calls Try.prog 9 #[msgV m ev t s n v st ps] w fun e w' => e = .returned (.tuple #[.string ⟨(encodeM m).1.toArray⟩, .int .i64 (encodeM m).2]) ∧ Below w.heap.size w w' := by
  obtain ⟨A3, C3, rfl⟩ := hm.tr.form
  obtain ⟨A4, C4, rfl⟩ := hm.ss.form
  obtain ⟨A5, C5, rfl⟩ := hm.en.form
  obtain ⟨A6, C6, rfl⟩ := hm.vs.form
  obtain ⟨A7, C7, rfl⟩ := hm.sets.form
  obtain ⟨A8, C8, rfl⟩ := hm.pasts.form
  unfold msgV
  obtain ⟨w1, hw1⟩ : ∃ W, W = w.alloc (.cells #[.int .i64 m.kd, .int .u64 m.step, .string ev, .slice A3 m.tr.length C3, .slice A4 m.ss.length C4, .slice A5 m.en.length C5, .slice A6 m.vs.length C6, .slice A7 m.sets.length C7, .slice A8 m.pasts.length C8] 27) := ⟨_, rfl⟩
  obtain ⟨w2, hw2⟩ : ∃ W, W = w1.alloc (.cells #[.slice none 0 0, .bool false] 57) := ⟨_, rfl⟩
  have hs1 : w1.heap.size = w.heap.size + 1 := by rw [hw1]; simp
  have hb1 : Below w.heap.size w w1 := by rw [hw1]; exact (Below.refl _ _).alloc (Nat.le_refl _) _
  have hb2 : Below w1.heap.size w1 w2 := by rw [hw2]; exact (Below.refl _ _).alloc (Nat.le_refl _) _
  have hn : w2.heap[w1.heap.size]? = some (.cells #[.slice none 0 0, .bool false] 57 (0, 0)) := by rw [hw2]; exact heap_alloc_new w1 _
  have h0 : WW w (w.heap.size + 1) [] false w2 := ⟨⟨_, by rw [← hs1]; exact hn, World.ownsRow_nil _ _ _ _⟩, by omega, hb1.trans (hb2.mono (by omega))⟩
  have hms := message_any h0 m ev _ _ _ _ _ _ hm (by simp)
  have hrd : ∀ j x, #[.int .i64 m.kd, .int .u64 m.step, .string ev, .slice A3 m.tr.length C3, .slice A4 m.ss.length C4, .slice A5 m.en.length C5, .slice A6 m.vs.length C6, .slice A7 m.sets.length C7, .slice A8 m.pasts.length C8][j]? = some x → w2.cell? ⟨w.heap.size, j, none⟩ = some x := fun j x hx => by
    exact (cell_of_row w2 _ j _ _ _ ((hb2.block _ (by omega)).trans ((congrArg (fun W => W.heap[w.heap.size]?) hw1).trans (heap_alloc_new w _)))).trans hx
  have q0 := hrd 0 _ rfl
  have q1 := hrd 1 _ rfl
  have q2 := hrd 2 _ rfl
  have q3 := hrd 3 _ rfl
  have q4 := hrd 4 _ rfl
  have q5 := hrd 5 _ rfl
  have q6 := hrd 6 _ rfl
  have q7 := hrd 7 _ rfl
  have q8 := hrd 8 _ rfl
  have HW1 := Lib.hid hw1; have HW2 := Lib.hid hw2; have HMS := Lib.hid hms; have HS1 := Lib.hid hs1
  unfold wp_ at HMS
  clear hrd hn hb1 hb2 h0 hms hw1 hw2 hs1
  go_enter Try.func9, Try.ntmps9
  go_upto_region 1 with fail
  rw [← HW1.out]
  go_upto_region 2 with fail
  rw [← HW2.out, HS1.out]
  go_wp2_with fail
  refine HMS.out.mono ?_
  rintro e w3 ⟨rfl, L, b, h3, e3, t3, l3, k3⟩
  obtain ⟨vv, ⟨d0, d1, _, _⟩, _, ho⟩ := h3.at_
  obtain ⟨A, c, rfl⟩ := own_form ho
  have H3 := Lib.hid h3; have HO := Lib.hid ho
  clear q0 q1 q2 q3 q4 q5 q6 q7 q8 HMS HW1 HW2 h3 ho k3
  simp only [List.length_nil, Nat.zero_add, List.nil_append, true_and] at l3 e3 t3
  cases b
  · have hok : OkMsg m := e3.1 rfl
    have hL := t3 rfl
    by_cases h8 : 800 < L.length
    · have he : encodeM m = ([], 4) := by unfold encodeM; rw [if_neg (fun k => k hok), ← hL, if_pos h8]
      have h9 : (800 : Int) < L.length := by omega
      have HE := Lib.hid he
      clear he hok hL e3 t3
      go_wp2
      go_ret2
      rw [HE.out]
      exact ⟨rfl, H3.out.below⟩
    · have he : encodeM m = (L, 0) := by unfold encodeM; rw [if_neg (fun k => k hok), ← hL, if_neg h8]
      have h9 : ¬ (800 : Int) < L.length := by omega
      have HE := Lib.hid he
      have hkc : Sem.run Try.prog (convert 53 9 (.slice A L.length c)) w3 = .ok (.string ⟨L.toArray⟩) w3 := by
        rcases own_byte HO.out rfl with ⟨a, rfl, hc⟩ | ⟨rfl, hl, rfl⟩
        · exact run_convert_bytes_back _ _ _ 5 a c L Try.underlying53 Try.underlying5 Try.underlying9 hc
        · exact absurd (hL.symm.trans hl) (msg_ne m)
      clear he hok hL e3 t3
      go_wp2
      go_ret2
      rw [HE.out]
      exact ⟨rfl, H3.out.below⟩
  · have hok : ¬ OkMsg m := fun h => by have := e3.2 h; cases this
    have he : encodeM m = ([], 1) := by unfold encodeM; rw [if_pos hok]
    have HE := Lib.hid he
    clear he hok e3 t3
    go_wp2
    go_ret2
    rw [HE.out]
    exact ⟨rfl, H3.out.below⟩
end Go.Proofs.Ytlbhkendbngmaaa.Wi
