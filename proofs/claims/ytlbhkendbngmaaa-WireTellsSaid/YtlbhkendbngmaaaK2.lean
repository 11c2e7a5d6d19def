/- Layer 16: the document's reader: a few bytes, a small number; a fault is a flag that stays. -/
import Derived.Test.YtlbhkendbngmaaaJ5
import Derived.Test.YtlbhkendbngmaaaJt
namespace Go.Proofs.Ytlbhkendbngmaaa.Wi
open Go.RowKit
set_option maxRecDepth 100000

/-- the document's reader in its box: what it has still to read, whether there was a fault -/
def R2 (g : Nat) (s : Bytes) (b : Bool) (w : World) : Prop := w.heap[g]? = some (.cells #[bstr s, .bool b] 76 (0, 0))
section
variable {g : Nat} {s : Bytes} {b : Bool} {w w' : World}
theorem R2.lt (h : R2 g s b w) : g < w.heap.size := lt_of_heap h
theorem R2.cell0 (h : R2 g s b w) : w.cell? ⟨g, 0, none⟩ = some (bstr s) := (cell_of_row w g 0 _ _ _ h).trans rfl
theorem R2.cell1 (h : R2 g s b w) : w.cell? ⟨g, 1, none⟩ = some (.bool b) := (cell_of_row w g 1 _ _ _ h).trans rfl
theorem R2.frozen (h : R2 g s b w) (j : Nat) : w.frozen? ⟨g, j, none⟩ = false := frozen_of_row w g j _ _ h
theorem R2.set0 (h : R2 g s b w) (r : Bytes) : R2 g r b (w.setCell ⟨g, 0, none⟩ (bstr r)) := by
  unfold R2 at *
  rw [heap_setCell_same w g 0 _ _ _ h]; rfl
theorem R2.set1 (h : R2 g s b w) (c : Bool) : R2 g s c (w.setCell ⟨g, 1, none⟩ (.bool c)) := by
  unfold R2 at *
  rw [heap_setCell_same w g 1 _ _ _ h]; rfl
theorem R2.below (h : R2 g s b w) (hb : Below w.heap.size w w') : R2 g s b w' := (hb.block g h.lt).trans h
end
/-- one step of the document's reader: what p reads, or a fault that stays -/
structure Step {α : Type} (p : P α) (s : Bytes) (b : Bool) (x : α) (s' : Bytes) (b' : Bool) : Prop where
  good : b' = false → b = false ∧ p s = some (x, s')
  bad : b' = true → b = true ∨ p s = none
section
variable {α β : Type} {p : P α} {s s1 s2 : Bytes} {b b1 b2 : Bool} {x : α} {y : β}
theorem Step.bind {q : α → P β} (h : Step p s b x s1 b1) (k : Step (q x) s1 b1 y s2 b2) : Step (bindP p q) s b (x, y) s2 b2 := by
  refine ⟨fun e => ?_, fun e => ?_⟩
  · obtain ⟨e1, h1⟩ := k.good e
    obtain ⟨e2, h2⟩ := h.good e1
    exact ⟨e2, by unfold bindP; rw [h2]; simp only; rw [h1]⟩
  · cases hb : b1
    · obtain ⟨e2, h2⟩ := h.good hb
      rcases k.bad e with h3 | h3
      · rw [hb] at h3; cases h3
      · exact Or.inr (by unfold bindP; rw [h2]; simp only; rw [h3])
    · rcases h.bad hb with h3 | h3
      · exact Or.inl h3
      · exact Or.inr (by unfold bindP; rw [h3])
theorem Step.map (f : α → β) (h : Step p s b x s1 b1) : Step (mapP f p) s b (f x) s1 b1 :=
  ⟨fun e => ⟨(h.good e).1, by unfold mapP; rw [(h.good e).2]⟩, fun e => (h.bad e).imp id fun k => by unfold mapP; rw [k]⟩
theorem Step.guard {c : α → Bool} (h : Step p s b x s1 b1) (hc : b2 = (b1 || !c x)) : Step (guardP c p) s b x s1 b2 := by
  subst hc
  refine ⟨fun e => ?_, fun e => ?_⟩
  · have e1 : b1 = false := by cases b1 <;> simp_all
    have e2 : c x = true := by cases hc : c x <;> simp_all
    exact ⟨(h.good e1).1, by unfold guardP; rw [(h.good e1).2]; simp [e2]⟩
  · cases hb : b1
    · have e2 : c x = false := by cases hc : c x <;> simp_all
      exact Or.inr (by unfold guardP; rw [(h.good hb).2]; simp [e2])
    · exact (h.bad hb).imp id fun k => by unfold guardP; rw [k]
end
def Took {α : Type} (g : Nat) (s : Bytes) (b : Bool) (p : P α) (V : α → Value → World → Prop) (w : World) (e : Ending) (w' : World) : Prop :=
  ∃ x v s' b', e = .returned v ∧ V x v w' ∧ R2 g s' b' w' ∧ s'.length ≤ s.length ∧ w.grownBy w' (some g) ∧ Step p s b x s' b'
set_option maxHeartbeats 1000000 in
theorem take_2 {g : Nat} {s : Bytes} {b : Bool} {w : World} (h : R2 g s b w) (n : Nat) :
    Calls Try.prog 30 #[wp_ g, .int .i64 n] w fun e w' => Took g s b (takeP n) (fun l v _ => v = bstr l ∧ l.length ≤ n) w e w' := by
  have c0 := h.cell0
  have c1 := h.cell1
  have f0 := h.frozen 0
  have f1 := h.frozen 1
  have H := Lib.hid h
  have HT := Lib.hid (ext_take s n)
  have HD := Lib.hid (ext_drop s n)
  have hsz := bsz s
  unfold bstr wp_ at *
  generalize (⟨s.toArray⟩ : ByteArray) = S at *
  clear h
  by_cases hl : n ≤ s.length
  · have h1 : ¬ (s.length : Int) < n := by omega
    have h2 : n ≤ S.size := by omega
    have h3 : (n : Int) ≤ (S.size : Int) := by omega
    have h4 : ¬ (S.size : Int) < n := by omega
    go_enter Try.func30, Try.ntmps30
    go_wp2
    go_ret
    rw [HT.out, HD.out]
    exact ⟨s.take n, _, s.drop n, b, rfl, ⟨rfl, by rw [List.length_take]; omega⟩, H.out.set0 (s.drop n), by rw [List.length_drop]; omega, grown_set w g 0 _, fun e => ⟨e, by unfold takeP; exact if_pos hl⟩, fun e => Or.inl e⟩
  · have h1 : (s.length : Int) < n := by omega
    have h2 : (S.size : Int) < n := by omega
    go_enter Try.func30, Try.ntmps30
    go_wp2
    go_ret
    exact ⟨[], _, [], true, rfl, ⟨rfl, by simp⟩, (H.out.set1 true).set0 [], by simp, grown_trans (grown_set w g 1 _) (grown_set _ g 0 _), fun e => (by cases e), fun _ => Or.inr (by unfold takeP; exact if_neg hl)⟩
theorem intP_cons (hi : Nat) (c : UInt8) (r : Bytes) : intP hi (c :: r) = if c.toNat ≤ hi then some ((c.toNat : Int), r) else none := by
  rw [← smallR_zero, smallR_cons]
  simp
theorem intP_nil (hi : Nat) : intP hi [] = none := rfl
theorem small_none {hi : Nat} {s : Bytes} {b b1 : Bool} {x s1 : Bytes} (h : Step (takeP 1) s b x s1 b1) (hx : x.length = 1 → ∀ c, x = [c] → hi < c.toNat) (v : Int) : Step (intP hi) s b v s1 true := by
  refine ⟨fun e => (by cases e), fun _ => ?_⟩
  cases hb : b1
  · obtain ⟨e, h1⟩ := h.good hb
    obtain ⟨c, rfl, rfl⟩ := take_one h1
    exact Or.inr (by rw [intP_cons, if_neg (by have := hx rfl c rfl; omega)])
  · rcases h.bad hb with k | k
    · exact Or.inl k
    · exact Or.inr (by rw [take_none k]; rfl)
theorem small_some {hi : Nat} {s : Bytes} {b b1 : Bool} {c : UInt8} {s1 : Bytes} (h : Step (takeP 1) s b [c] s1 b1) (hc : c.toNat ≤ hi) : Step (intP hi) s b (c.toNat : Int) s1 b1 := by
  refine ⟨fun e => ?_, fun e => ?_⟩
  · obtain ⟨e, h1⟩ := h.good e
    obtain ⟨d, rfl, hd⟩ := take_one h1
    obtain rfl : c = d := (List.cons.inj hd).1
    exact ⟨e, by rw [intP_cons, if_pos hc]⟩
  · exact (h.bad e).imp id fun k => by rw [take_none k]; rfl
set_option maxHeartbeats 1000000 in
theorem small_2 {g : Nat} {s : Bytes} {b : Bool} {w : World} (h : R2 g s b w) (hi : Nat) :
    Calls Try.prog 28 #[wp_ g, .int .i64 hi] w fun e w' => Took g s b (intP hi) (fun x v _ => v = .int .i64 x ∧ 0 ≤ x ∧ x ≤ hi) w e w' := by
  have HT := Lib.hid (take_2 h 1)
  unfold wp_ at *
  clear h
  go_enter Try.func28, Try.ntmps28
  go_wp2_with fail
  refine HT.out.mono ?_
  rintro e w1 ⟨x, v, s1, b1, rfl, ⟨rfl, hx⟩, hr, hl, hg, hst⟩
  have c1 := hr.cell1
  have f1 := hr.frozen 1
  have HR := Lib.hid hr; have HG := Lib.hid hg; have HST := Lib.hid hst; have HL := Lib.hid hl
  clear hr hg hst HT hl
  match x, hx with
  | [], _ =>
    have HN := Lib.hid (small_none (hi := hi) HST.out (fun h => by simp at h) 0)
    unfold bstr
    clear HST
    go_wp2
    go_ret
    exact ⟨0, _, s1, true, rfl, ⟨rfl, by omega, by omega⟩, HR.out.set1 true, HL.out, grown_trans HG.out (grown_set _ g 1 _), HN.out⟩
  | [c], _ =>
    have hb8 : (c.toNat : Int) < 256 := by have := byte_lt8 c; omega
    obtain ⟨S, hS, hsz, h0⟩ := one_str c
    have h0 := h0 (by omega)
    rw [hS]
    clear hS
    by_cases h3 : (hi : Int) < c.toNat
    · have HN := Lib.hid (small_none (hi := hi) HST.out (fun _ d hd => by rw [← (List.cons.inj hd).1]; omega) 0)
      have h4 : decide ((hi : Int) < c.toNat) = true := decide_eq_true h3
      clear HST
      go_wp2
      go_ret
      exact ⟨0, _, s1, true, rfl, ⟨rfl, by omega, by omega⟩, HR.out.set1 true, HL.out, grown_trans HG.out (grown_set _ g 1 _), HN.out⟩
    · have HN := Lib.hid (small_some (hi := hi) HST.out (by omega))
      have h4 : decide ((hi : Int) < c.toNat) = false := decide_eq_false h3
      clear HST
      go_wp2
      go_ret
      exact ⟨(c.toNat : Int), _, s1, b1, rfl, ⟨rfl, by omega, by omega⟩, HR.out, HL.out, HG.out, HN.out⟩
end Go.Proofs.Ytlbhkendbngmaaa.Wi
