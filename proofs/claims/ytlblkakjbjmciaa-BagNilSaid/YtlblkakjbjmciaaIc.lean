/- Layer 17: New, Len, ask, Put, Twice. -/
import Derived.Test.YtlblkakjbjmciaaIb
import Derived.Test.YtlblkakjbjmciaaShelf
namespace Go.Proofs.Ytlblkakjbjmciaa.Bg
open Go.RowKit Go.Proofs.Ytlblkakjbjmciaa.Wi
set_option maxRecDepth 100000

theorem clone_any (s : ByteArray) (w : World) (hs : s.size ≤ 281474976710656) : Calls Try.prog 18 #[.string s] w fun e w' => e = .returned (.string s) ∧ Below w.heap.size w w' := by
  have HC := Lib.hid (Try.stringslite_Clone s w hs)
  go_enter Try.func18, Try.ntmps18
  go_wp2_with fail
  refine HC.out.mono ?_
  rintro e w1 ⟨rfl, hb⟩
  have HB := Lib.hid hb
  clear hb
  go_wp2
  go_ret
  exact ⟨rfl, HB.out⟩
theorem bagA_new : bagA (fn []) 0 = #[.string ⟨#[]⟩, .bool false, .string ⟨#[]⟩, .bool false, .string ⟨#[]⟩, .bool false, .string ⟨#[]⟩, .bool false, .string ⟨#[]⟩, .bool false, .string ⟨#[]⟩, .bool false, .string ⟨#[]⟩, .bool false, .string ⟨#[]⟩, .bool false, .string ⟨#[]⟩, .bool false, .string ⟨#[]⟩, .bool false, .string ⟨#[]⟩, .bool false, .string ⟨#[]⟩, .bool false, .string ⟨#[]⟩, .bool false, .string ⟨#[]⟩, .bool false, .string ⟨#[]⟩, .bool false, .string ⟨#[]⟩, .bool false, .int .i64 0] := rfl
set_option maxHeartbeats 800000 in
theorem new_any (w : World) : Calls Try.prog 7 #[] w fun e w' => e = .returned (bp w.heap.size) ∧ BagAt w.heap.size [] w' ∧ Below w.heap.size w w' := by
  have hA := bagA_new
  have HA : Hid (∀ A : Array Value, A = bagA (fn []) 0 → BagAt w.heap.size [] (w.alloc (.cells A 44)) ∧ Below w.heap.size w (w.alloc (.cells A 44))) :=
    fun A e => ⟨⟨by rw [e]; exact heap_alloc_new w _, by decide⟩, (Below.refl _ _).alloc (Nat.le_refl _) _⟩
  have HB := Lib.hid hA
  clear hA
  go_enter Try.func7, Try.ntmps7
  go_wp2
  go_ret
  exact ⟨rfl, HA.out _ HB.out.symm⟩
theorem len_any {K : Nat} {L : Bag} {w : World} (h : BagAt K L w) : Calls Try.prog 10 #[bp K] w fun e w' => e = .returned (.int .i64 (L.length : Nat)) ∧ w = w' := by
  unfold bp
  have c0 := h.box.num
  go_enter Try.func10, Try.ntmps10
  go_wp2
  go_ret
  exact ⟨rfl, rfl⟩
theorem len_nil (w : World) : Calls Try.prog 10 #[.pointer none] w fun e w' => e = .returned (.int .i64 0) ∧ w = w' := by
  go_enter Try.func10, Try.ntmps10
  go_wp2
  go_ret
  exact ⟨rfl, rfl⟩
/-- the error of a call of the i-th one -/
def askE (L : Bag) (i : Int) : Int := if i < 0 ∨ (L.length : Int) ≤ i then 5 else 0
theorem ask_any {K : Nat} {L : Bag} {w : World} (h : BagAt K L w) (i : Int) : Calls Try.prog 19 #[bp K, .int .i64 i] w fun e w' => e = .returned (.int .i64 (askE L i)) ∧ w = w' := by
  unfold bp
  have c0 := h.box.num
  obtain ⟨n, hn⟩ : ∃ n, n = L.length := ⟨_, rfl⟩
  rw [← hn] at c0
  have HE : Hid (askE L i = if i < 0 ∨ (n : Int) ≤ i then 5 else 0) := by rw [hn]; rfl
  clear hn h
  by_cases h1 : i < 0
  · have h2 : decide (i < 0) = true := decide_eq_true h1
    go_enter Try.func19, Try.ntmps19
    go_wp2
    go_ret
    rw [HE.out, if_pos (Or.inl h1)]
    exact ⟨rfl, rfl⟩
  · have h2 : decide (i < 0) = false := decide_eq_false h1
    by_cases h3 : (n : Int) ≤ i
    · have h4 : decide ((n : Int) ≤ i) = true := decide_eq_true h3
      go_enter Try.func19, Try.ntmps19
      go_wp2
      go_ret
      rw [HE.out, if_pos (Or.inr h3)]
      exact ⟨rfl, rfl⟩
    · have h4 : decide ((n : Int) ≤ i) = false := decide_eq_false h3
      go_enter Try.func19, Try.ntmps19
      go_wp2
      go_ret
      rw [HE.out, if_neg (by omega)]
      exact ⟨rfl, rfl⟩
theorem ask_nil (i : Int) (w : World) : Calls Try.prog 19 #[.pointer none, .int .i64 i] w fun e w' => e = .returned (.int .i64 15) ∧ w = w' := by
  go_enter Try.func19, Try.ntmps19
  go_wp2
  go_ret
  exact ⟨rfl, rfl⟩
set_option maxHeartbeats 800000 in
theorem put_any {K : Nat} {L : Bag} {w : World} (h : BagAt K L w) (s : ByteArray) (hs : s.size ≤ 281474976710656) :
    Calls Try.prog 8 #[bp K, .string s] w fun e w' => e = .returned (.bool (roomB L)) ∧ BagAt K (bagPut L s.data.toList) w' ∧ Fr K w w' := by
  have HC := Lib.hid (clone_any s w hs)
  have HP : Hid (∀ w1, Below w.heap.size w w1 → Calls Try.prog 17 #[bp K, .agg #[.string s, .bool false]] w1 fun e w' => e = .returned (.bool (roomB L)) ∧ BagAt K (bagPut L s.data.toList) w' ∧ Fr K w w') :=
    fun w1 hb => (put_in ⟨h.box.below hb, h.le⟩ s false).mono fun e w' ⟨h1, h2, h3⟩ => ⟨h1, h2, (Fr.below hb).trans h3⟩
  clear h
  unfold bp at *
  go_enter Try.func8, Try.ntmps8
  go_wp2_with fail
  refine HC.out.mono ?_
  rintro e w1 ⟨rfl, hb⟩
  have HB := Lib.hid hb
  clear hb
  go_wp2_with fail
  refine (HP.out _ HB.out).mono ?_
  rintro e w2 ⟨rfl, hb⟩
  have HB := Lib.hid hb
  clear hb
  go_wp2
  go_ret
  exact ⟨rfl, HB.out⟩
theorem put_nil (s : ByteArray) (w : World) : Calls Try.prog 8 #[.pointer none, .string s] w fun e w' => e = .returned (.bool false) ∧ w = w' := by
  go_enter Try.func8, Try.ntmps8
  go_wp2
  go_ret
  exact ⟨rfl, rfl⟩
end Go.Proofs.Ytlblkakjbjmciaa.Bg
