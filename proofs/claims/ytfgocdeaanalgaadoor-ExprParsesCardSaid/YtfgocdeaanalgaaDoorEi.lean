/- How many cells a reading puts down: no more than bytes are gone through. -/
import Derived.Test.YtfgocdeaanalgaaDoorEa
namespace Go.Proofs.YtfgocdeaanalgaaDoor

/-- as many cells as bytes, at most -/
def Few (p : Nat) (cs : List CM) (r : Rs) : Prop := r.1 = true → r.2.2.length + p ≤ cs.length + r.2.1

theorem few_close {s : List UInt8} {p : Nat} {cs : List CM} {r : Rs} (h : Few p cs r) : Few p cs (closeD s r) := by
  unfold closeD
  split
  · rename_i hr
    split
    · intro _; have := h hr; simp only; omega
    · intro h'; simp at h'
  · exact h
theorem few_add {o : Int} {p : Nat} {cs : List CM} {r : Rs} (h : Few (p + 1) cs r) : Few p cs (addD o r) := by
  unfold addD
  split
  · rename_i hr
    intro _; have := h hr; simp only [List.length_append, List.length_singleton]; omega
  · rename_i hr; intro h'; exact absurd h' hr
theorem few_less {p p' : Nat} {cs : List CM} {r : Rs} (h : Few p' cs r) (hp : p ≤ p') : Few p cs r := fun h' => by have := h h'; omega
theorem few_no {p q : Nat} {cs cs' : List CM} : Few p cs (false, q, cs') := fun h => by simp at h
theorem few_one {p q : Nat} {cs : List CM} {c : CM} (h : p < q) : Few p cs (true, q, cs ++ [c]) := fun _ => by simp; omega

theorem few_state {s : List UInt8} {p : Nat} {cs : List CM} : Few p cs (stateD s p cs) := by
  unfold stateD
  split
  · exact few_close (few_one (by omega))
  · exact few_no
theorem few_num {s : List UInt8} {p : Nat} {cs : List CM} (h : p < s.length) (hd : isD (nx s p) = true) : Few p cs (numD s p cs) := by
  have h2 := num_pos h hd
  unfold numD
  split
  · exact few_no
  · split
    · split
      · exact few_one (by omega)
      · exact few_no
    · exact few_one (by omega)
theorem name_pos {w : List UInt8} (h : nameB w = true) : 0 < w.length := by
  rcases Nat.eq_zero_or_pos w.length with h0 | h0
  · rw [List.eq_nil_of_length_eq_zero h0] at h; simp [nameB] at h
  · exact h0
theorem few_word {s : List UInt8} {p : Nat} {cs : List CM} {w : List UInt8} {inner : Rs} (hi : p + 3 ≤ s.length → Few (p + 3) cs inner) : Few p cs (wordD s p cs w inner) := by
  unfold wordD
  split
  · exact few_one (by omega)
  · split
    · exact few_one (by omega)
    · split
      · rename_i hn; have := name_pos hn; exact few_one (by omega)
      · split
        · exact few_no
        · rename_i h40
          have h3 := nx_lt (s := s) (p := p + w.length) (by rw [Decidable.not_not.1 h40]; decide)
          split
          · exact few_state
          · split
            · rename_i e
              rw [e] at h3; simp [wRe] at h3
              exact few_add (few_close (few_less (hi (by omega)) (by omega)))
            · split
              · rename_i e
                rw [e] at h3; simp [wIm] at h3
                exact few_add (few_close (few_less (hi (by omega)) (by omega)))
              · exact few_no

theorem few (s : List UInt8) : ∀ (n : Nat) (q : Q) (p : Nat) (cs : List CM), p ≤ s.length → (match q with | .loop k _ => 1 ≤ k | .joins k => 1 ≤ k | .ahead => True) → Few p cs (D s n q p cs) := by
  intro n
  induction n with
  | zero => intro q p cs hp _ h; simp [D] at h
  | succ n ih =>
    intro q p cs hp hq
    cases q with
    | joins k =>
      simp only at hq
      rw [D_joins]
      split
      · exact ih .ahead p cs hp trivial
      · have h1 := ih (.joins (k + 1)) p cs hp (by simp)
        split
        · rename_i hr
          have hg := goes s n (.joins (k + 1)) p cs hp
          have h2 := ih (.loop k false) _ (D s n (.joins (k + 1)) p cs).2.2 hg.le hq
          intro h'; have := h2 h'; have := h1 hr; omega
        · exact h1
    | loop k cmp =>
      simp only at hq
      rw [D_loop]
      split
      · intro _; simp
      · rename_i hk
        have hk := Decidable.not_not.1 hk
        split
        · exact few_no
        · have ho := opAt_some (s := s) (p := p) (by omega)
          have h1 := ih (.joins (k + 1)) (p + (opAt s p).2.1) cs ho.2 (by simp)
          have hg := goes s n (.joins (k + 1)) (p + (opAt s p).2.1) cs ho.2
          split
          · rename_i hr
            have h2 := ih (.loop k (k == 3)) _ ((D s n (.joins (k + 1)) (p + (opAt s p).2.1) cs).2.2 ++ [opC (opAt s p).1]) hg.le hq
            intro h'
            have h3 := h2 h'
            have h4 := h1 hr
            rw [List.length_append, List.length_singleton] at h3
            omega
          · intro h'; have := h1 h'; omega
    | ahead =>
      rw [D_ahead]
      split
      · rename_i h
        have := nx_lt (s := s) (p := p) (by rw [h]; decide)
        exact few_add (ih .ahead (p + 1) cs (by omega) trivial)
      · split
        · rename_i h
          have := nx_lt (s := s) (p := p) (by rw [h]; decide)
          exact few_add (ih .ahead (p + 1) cs (by omega) trivial)
        · split
          · rename_i h
            have := nx_lt (s := s) (p := p) (by rw [h]; decide)
            exact few_close (few_less (ih (.joins 1) (p + 1) cs (by omega) (by simp)) (by omega))
          · split
            · rename_i hd
              have := nx_lt (s := s) (p := p) (by intro e; rw [e] at hd; exact absurd hd (by decide))
              exact few_num this hd
            · exact few_word (fun h3 => ih (.joins 1) (p + 3) cs h3 (by simp))
end Go.Proofs.YtfgocdeaanalgaaDoor
