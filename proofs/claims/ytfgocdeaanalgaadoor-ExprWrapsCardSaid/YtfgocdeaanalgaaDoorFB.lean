/- Parentheses around a text: how it is read. -/
import Derived.Test.YtfgocdeaanalgaaDoorF6
namespace Go.Proofs.YtfgocdeaanalgaaDoor

def wrapL (s : List UInt8) : List UInt8 := 40 :: (s ++ [41])

section
variable {s : List UInt8} {p : Nat} {cs : List CM}
theorem wrap_len : (wrapL s).length = s.length + 2 := by simp [wrapL]
theorem nx_wrap (h : p < s.length) : nx (wrapL s) (p + 1) = nx s p := by
  rw [nx_at h, nx_at (by rw [wrap_len]; omega)]
  exact List.getElem_append_left h
theorem nx_wrap_end : nx (wrapL s) (s.length + 1) = 41 := by
  rw [nx_at (by rw [wrap_len]; omega)]; simp [wrapL]
theorem drop_wrap (h : p ≤ s.length) : (wrapL s).drop (p + 1) = s.drop p ++ [41] := by
  show (s ++ [41]).drop p = _
  exact List.drop_append_of_le_length h
theorem take_wrap {f : UInt8 → Bool} (hf : f 41 = false) (x : List UInt8) : (x ++ [41]).takeWhile f = x.takeWhile f := by
  induction x with
  | nil => simp [hf]
  | cons c r ih => rw [List.cons_append, List.takeWhile_cons, List.takeWhile_cons, ih]
theorem word_wrap (h : p ≤ s.length) : wordP (wrapL s) (p + 1) = wordP s p := by unfold wordP; rw [drop_wrap h, take_wrap (by decide)]
/-- at every place the byte is the same, or the text is at its end -/
theorem nx_cases (h : p ≤ s.length) : nx (wrapL s) (p + 1) = nx s p ∨ (nx s p = 0 ∧ nx (wrapL s) (p + 1) = 41) := by
  rcases Nat.lt_or_ge p s.length with h1 | h1
  · exact Or.inl (nx_wrap h1)
  · obtain rfl : p = s.length := by omega
    exact Or.inr ⟨nx_end (Nat.le_refl _), nx_wrap_end⟩
theorem is_wrap {c : UInt8} (h : p ≤ s.length) (h0 : c ≠ 0) (h41 : c ≠ 41) : nx (wrapL s) (p + 1) = c ↔ nx s p = c := by
  rcases nx_cases h with e | ⟨e1, e2⟩
  · rw [e]
  · rw [e1, e2]; exact ⟨fun h => absurd h.symm h41, fun h => absurd h.symm h0⟩
theorem isD_wrap (h : p ≤ s.length) : isD (nx (wrapL s) (p + 1)) = isD (nx s p) := by
  rcases nx_cases h with e | ⟨e1, e2⟩
  · rw [e]
  · rw [e1, e2]; decide
theorem num_wrap (h : p ≤ s.length) : numT (wrapL s) (p + 1) = numT s p := by
  unfold numT
  rw [drop_wrap h, take_wrap (by decide)]
  by_cases h48 : nx s p = 48
  · rw [if_pos h48, if_pos ((is_wrap h (by decide) (by decide)).2 h48)]
  · rw [if_neg h48, if_neg (fun e => h48 ((is_wrap h (by decide) (by decide)).1 e))]
theorem opOf_second (c : UInt8) : opOf c 41 = opOf c 0 := by simp [opOf]
theorem op_wrap (h : p ≤ s.length) : opAt (wrapL s) (p + 1) = opAt s p := by
  unfold opAt
  rcases Nat.lt_or_ge p s.length with h1 | h1
  · rw [nx_wrap h1]
    rcases nx_cases (s := s) (p := p + 1) h1 with e | ⟨e1, e2⟩
    · rw [e]
    · rw [e1, e2, opOf_second]
  · obtain rfl : p = s.length := by omega
    rw [nx_wrap_end, nx_end (Nat.le_refl _)]; rfl

/-- read in the parentheses as it is read alone, one place behind -/
def Wr (s : List UInt8) (r r' : Rs) : Prop := (r.1 = true → r' = (true, r.2.1 + 1, r.2.2)) ∧ (r.1 = false → r.2.1 < s.length → nx s r.2.1 ≠ 41 → r'.1 = false ∧ r'.2.1 = r.2.1 + 1)

theorem wr_yes {q : Nat} : Wr s (true, q, cs) (true, q + 1, cs) := ⟨fun _ => rfl, fun h => (by cases h)⟩
theorem wr_no {q : Nat} {cs' : List CM} : Wr s (false, q, cs) (false, q + 1, cs') := ⟨fun h => (by cases h), fun _ _ _ => ⟨rfl, rfl⟩⟩
theorem wr_close {r r' : Rs} (h : Wr s r r') : Wr s (closeD s r) (closeD (wrapL s) r') := by
  obtain ⟨b, q, cs⟩ := r
  cases b
  · have e1 : closeD s (false, q, cs) = (false, q, cs) := by simp [closeD]
    rw [e1]
    refine ⟨fun h => (by cases h), fun _ hq hn => ?_⟩
    obtain ⟨h1, h2⟩ := h.2 rfl hq hn
    obtain ⟨b', q', c'⟩ := r'
    simp only at h1 h2
    subst h1; subst h2
    exact ⟨by simp [closeD], by simp [closeD]⟩
  · have e := h.1 rfl
    simp only at e
    subst e
    by_cases h41 : nx s q = 41
    · have hq := nx_lt (s := s) (p := q) (by rw [h41]; decide)
      have h42 : nx (wrapL s) (q + 1) = 41 := by rw [nx_wrap hq, h41]
      have e1 : closeD s (true, q, cs) = (true, q + 1, cs) := by simp [closeD, h41]
      have e2 : closeD (wrapL s) (true, q + 1, cs) = (true, q + 1 + 1, cs) := by simp [closeD, h42]
      rw [e1, e2]; exact wr_yes
    · have e1 : closeD s (true, q, cs) = (false, q, cs) := by simp [closeD, h41]
      rw [e1]
      by_cases hq : q < s.length
      · have h42 : nx (wrapL s) (q + 1) ≠ 41 := by rw [nx_wrap hq]; exact h41
        have e2 : closeD (wrapL s) (true, q + 1, cs) = (false, q + 1, cs) := by simp [closeD, h42]
        rw [e2]; exact wr_no
      · exact ⟨fun h => (by cases h), fun _ h => absurd h hq⟩
theorem wr_add {o : Int} {r r' : Rs} (h : Wr s r r') : Wr s (addD o r) (addD o r') := by
  obtain ⟨b, q, cs⟩ := r
  cases b
  · have e1 : addD o (false, q, cs) = (false, q, cs) := by simp [addD]
    rw [e1]
    refine ⟨fun h => (by cases h), fun _ hq hn => ?_⟩
    obtain ⟨h1, h2⟩ := h.2 rfl hq hn
    obtain ⟨b', q', c'⟩ := r'
    simp only at h1 h2
    subst h1; subst h2
    exact ⟨by simp [addD], by simp [addD]⟩
  · have e := h.1 rfl
    simp only at e
    subst e
    have e1 : addD o (true, q, cs) = (true, q, cs ++ [opC o]) := by simp [addD]
    have e2 : addD o (true, q + 1, cs) = (true, q + 1, cs ++ [opC o]) := by simp [addD]
    rw [e1, e2]; exact wr_yes
theorem wr_state (h : p + 3 ≤ s.length) : Wr s (stateD s p cs) (stateD (wrapL s) (p + 1) cs) := by
  unfold stateD
  rw [show p + 1 + 3 = p + 3 + 1 by omega, word_wrap h]
  split
  · rw [show p + 3 + 1 + (wordP s (p + 3)).length = p + 3 + (wordP s (p + 3)).length + 1 by omega]
    exact wr_close wr_yes
  · exact wr_no
theorem wr_num (h : p < s.length) : Wr s (numD s p cs) (numD (wrapL s) (p + 1) cs) := by
  have hle := num_le s p h
  unfold numD
  rw [num_wrap (by omega), show p + 1 + (numT s p).length = p + (numT s p).length + 1 by omega]
  by_cases h0 : (numP (numT s p)).2 ≠ 0
  · rw [if_pos h0, if_pos h0]; exact wr_no
  · rw [if_neg h0, if_neg h0]
    by_cases h105 : nx s (p + (numT s p).length) = 105
    · rw [if_pos h105, if_pos ((is_wrap hle (by decide) (by decide)).2 h105)]
      split
      · exact wr_yes
      · exact wr_no
    · rw [if_neg h105, if_neg (fun e => h105 ((is_wrap hle (by decide) (by decide)).1 e))]
      exact wr_yes
theorem wr_word {inner inner' : Rs} (hp : p ≤ s.length) (hi : p + 3 ≤ s.length → Wr s inner inner') : Wr s (wordD s p cs (wordP s p) inner) (wordD (wrapL s) (p + 1) cs (wordP s p) inner') := by
  have hw := word_le s p hp
  unfold wordD
  by_cases h1 : wordP s p = wTrue
  · rw [if_pos h1, if_pos h1, show p + 1 + 4 = p + 4 + 1 by omega]; exact wr_yes
  · rw [if_neg h1, if_neg h1]
    by_cases h2 : wordP s p = wFalse
    · rw [if_pos h2, if_pos h2, show p + 1 + 5 = p + 5 + 1 by omega]; exact wr_yes
    · rw [if_neg h2, if_neg h2]
      by_cases h3 : nameB (wordP s p) = true
      · rw [if_pos h3, if_pos h3, show p + 1 + (wordP s p).length = p + (wordP s p).length + 1 by omega]; exact wr_yes
      · rw [if_neg h3, if_neg h3]
        rw [show p + 1 + (wordP s p).length = p + (wordP s p).length + 1 by omega]
        by_cases h4 : nx s (p + (wordP s p).length) = 40
        · rw [if_neg (show ¬ (nx s (p + (wordP s p).length) ≠ 40) from fun e => e h4), if_neg (show ¬ (nx (wrapL s) (p + (wordP s p).length + 1) ≠ 40) from fun e => e ((is_wrap hw (by decide) (by decide)).2 h4))]
          have h5 := nx_lt (s := s) (p := p + (wordP s p).length) (by rw [h4]; decide)
          by_cases h6 : wordP s p = wIn
          · rw [if_pos h6, if_pos h6]
            rw [h6] at h5; simp [wIn] at h5
            exact wr_state (by omega)
          · rw [if_neg h6, if_neg h6]
            by_cases h7 : wordP s p = wRe
            · rw [if_pos h7, if_pos h7]
              rw [h7] at h5; simp [wRe] at h5
              exact wr_add (wr_close (hi (by omega)))
            · rw [if_neg h7, if_neg h7]
              by_cases h8 : wordP s p = wIm
              · rw [if_pos h8, if_pos h8]
                rw [h8] at h5; simp [wIm] at h5
                exact wr_add (wr_close (hi (by omega)))
              · rw [if_neg h8, if_neg h8]; exact wr_no
        · rw [if_pos h4, if_pos (show nx (wrapL s) (p + (wordP s p).length + 1) ≠ 40 from fun e => h4 ((is_wrap hw (by decide) (by decide)).1 e))]
          exact wr_no
end

theorem wrapped (s : List UInt8) : ∀ (n : Nat) (q : Q) (p : Nat) (cs : List CM), p ≤ s.length → Wr s (D s n q p cs) (D (wrapL s) n q (p + 1) cs) := by
  intro n
  induction n with
  | zero => intro q p cs _; exact ⟨fun h => by simp [D] at h, fun _ h => absurd h (by simp [D])⟩
  | succ n ih =>
    intro q p cs hp
    cases q with
    | joins k =>
      rw [D_joins, D_joins]
      by_cases hk : k = 6
      · rw [if_pos hk, if_pos hk]; exact ih .ahead p cs hp
      · rw [if_neg hk, if_neg hk]
        have h1 := ih (.joins (k + 1)) p cs hp
        have hg := (goes s n (.joins (k + 1)) p cs hp).le
        by_cases hr : (D s n (.joins (k + 1)) p cs).1 = true
        · have e := h1.1 hr
          rw [if_pos hr, e, if_pos rfl]
          exact ih (.loop k false) _ _ hg
        · rw [if_neg hr]
          refine ⟨fun h => absurd h hr, fun hf hq hn => ?_⟩
          obtain ⟨g1, g2⟩ := h1.2 hf hq hn
          rw [if_neg (by rw [g1]; decide)]
          exact ⟨g1, g2⟩
    | loop k cmp =>
      rw [D_loop, D_loop, op_wrap hp]
      by_cases hk : (opAt s p).2.2 ≠ k
      · rw [if_pos hk, if_pos hk]; exact wr_yes
      · rw [if_neg hk, if_neg hk]
        by_cases hc : cmp = true
        · rw [if_pos hc, if_pos hc]; exact wr_no
        · rw [if_neg hc, if_neg hc]
          have hp' : p + (opAt s p).2.1 ≤ s.length := by
            by_cases h0 : (opAt s p).2.2 = 0
            · have hz : (opAt s p).2.1 = 0 := congrArg (·.2.1) (opOf_none h0)
              omega
            · exact (opAt_some h0).2
          have h1 := ih (.joins (k + 1)) (p + (opAt s p).2.1) cs hp'
          have hg := (goes s n (.joins (k + 1)) (p + (opAt s p).2.1) cs hp').le
          rw [show p + 1 + (opAt s p).2.1 = p + (opAt s p).2.1 + 1 by omega]
          by_cases hr : (D s n (.joins (k + 1)) (p + (opAt s p).2.1) cs).1 = true
          · have e := h1.1 hr
            rw [if_pos hr, e, if_pos rfl]
            exact ih (.loop k (k == 3)) _ _ hg
          · rw [if_neg hr]
            refine ⟨fun h => absurd h hr, fun hf hq hn => ?_⟩
            obtain ⟨g1, g2⟩ := h1.2 hf hq hn
            rw [if_neg (by rw [g1]; decide)]
            exact ⟨g1, g2⟩
    | ahead =>
      rw [D_ahead, D_ahead]
      by_cases h45 : nx s p = 45
      · have := nx_lt (s := s) (p := p) (by rw [h45]; decide)
        rw [if_pos h45, if_pos ((is_wrap hp (by decide) (by decide)).2 h45)]
        exact wr_add (ih .ahead (p + 1) cs (by omega))
      · rw [if_neg h45, if_neg (fun e => h45 ((is_wrap hp (by decide) (by decide)).1 e))]
        by_cases h33 : nx s p = 33
        · have := nx_lt (s := s) (p := p) (by rw [h33]; decide)
          rw [if_pos h33, if_pos ((is_wrap hp (by decide) (by decide)).2 h33)]
          exact wr_add (ih .ahead (p + 1) cs (by omega))
        · rw [if_neg h33, if_neg (fun e => h33 ((is_wrap hp (by decide) (by decide)).1 e))]
          by_cases h40 : nx s p = 40
          · have := nx_lt (s := s) (p := p) (by rw [h40]; decide)
            rw [if_pos h40, if_pos ((is_wrap hp (by decide) (by decide)).2 h40)]
            exact wr_close (ih (.joins 1) (p + 1) cs (by omega))
          · rw [if_neg h40, if_neg (fun e => h40 ((is_wrap hp (by decide) (by decide)).1 e)), isD_wrap hp]
            by_cases hd : isD (nx s p) = true
            · rw [if_pos hd, if_pos hd]
              exact wr_num (nx_lt (by intro e; rw [e] at hd; exact absurd hd (by decide)))
            · rw [if_neg hd, if_neg hd, word_wrap hp]
              exact wr_word hp (fun h3 => by
                rw [show p + 1 + 3 = p + 3 + 1 by omega]
                exact ih (.joins 1) (p + 3) cs h3)

/-- joining up: a fault of the operand is a fault of all -/
theorem up_fault {s : List UInt8} {p : Nat} {cs : List CM} (hp : p ≤ s.length) (h : (E s .ahead p cs).1 = false) : ∀ d k, 1 ≤ k → k + d = 6 → E s (.joins k) p cs = E s .ahead p cs := by
  intro d
  induction d with
  | zero =>
    intro k _ hk
    obtain rfl : k = 6 := by omega
    exact E_six hp
  | succ d ih =>
    intro k h1 hk
    have e := ih (k + 1) (by omega) (by omega)
    rw [E_joins h1 (by omega) hp, e, if_neg (by rw [h]; decide)]

theorem good_one : goodQ (.joins 1) := by simp [goodQ]
theorem inner_E (s : List UInt8) : Wr s (E s (.joins 1) 0 []) (E (wrapL s) (.joins 1) 1 []) := by
  have h := wrapped s ((wrapL s).length * 10 + 8) (.joins 1) 0 [] (by omega)
  rw [D_E good_one (by omega) (by simp [need, wrap_len]; omega), D_E good_one (by rw [wrap_len]; omega) (by simp [need, wrap_len]; omega)] at h
  exact h
theorem outer_E (s : List UInt8) : E (wrapL s) .ahead 0 [] = closeD (wrapL s) (E (wrapL s) (.joins 1) 1 []) := by
  rw [E_ahead (by omega)]
  have h : nx (wrapL s) 0 = 40 := rfl
  rw [h, if_neg (by decide), if_neg (by decide), if_pos rfl]

theorem wrap_good {s : List UInt8} {cs : List CM} {p : Nat} (hl : s.length ≤ 500) (h : parseP s = (cs, p, 0)) : parseP (wrapL s) = (cs, 0, 0) := by
  rw [parse_E] at h
  rw [if_neg (by omega)] at h
  have hg := (E_goes (s := s) (q := .joins 1) (p := 0) (cs := []) (by omega)).le
  have hw := inner_E s
  obtain ⟨b, q, cs', hE⟩ : ∃ b q cs', E s (.joins 1) 0 [] = (b, q, cs') := ⟨_, _, _, rfl⟩
  rw [hE] at h hg hw
  simp only at h hg
  split at h
  · simp at h
  · rename_i h1
    split at h
    · simp at h
    · rename_i h2
      have hb : b = true := by cases b <;> simp_all
      subst hb
      have hq : q = s.length := by
        have : ¬ q < s.length := fun hlt => h1 (Or.inr hlt)
        omega
      subst hq
      simp only [Prod.mk.injEq] at h
      obtain ⟨rfl, _, _⟩ := h
      have e := hw.1 rfl
      simp only at e
      have ho := outer_E s
      rw [e] at ho
      have e2 : closeD (wrapL s) (true, s.length + 1, cs') = (true, s.length + 2, cs') := by simp [closeD, nx_wrap_end]
      rw [e2] at ho
      have hend : (opAt (wrapL s) (s.length + 2)).2.2 < 1 := by rw [show s.length + 2 = (wrapL s).length from wrap_len.symm, opAt_end]; decide
      have h3 := up_ahead (s := wrapL s) (p := 0) (q := s.length + 2) (cs := []) (cs' := cs') (by omega) (by rw [wrap_len]; omega) (k := 1) (by omega) (by omega) hend ho
      rw [parse_E, if_neg (by rw [wrap_len]; omega), h3, if_neg (by simp [wrap_len]), if_neg h2]

theorem wrap_bad {s : List UInt8} {cs : List CM} {p : Nat} (hl : s.length ≤ 500) (h : parseP s = (cs, p, 1)) (hp : p < s.length) (hn : nx s p ≠ 41) : parseP (wrapL s) = ([], p + 1, 1) := by
  rw [parse_E] at h
  rw [if_neg (by omega)] at h
  have hw := inner_E s
  obtain ⟨b, q, cs', hE⟩ : ∃ b q cs', E s (.joins 1) 0 [] = (b, q, cs') := ⟨_, _, _, rfl⟩
  rw [hE] at h hw
  simp only at h
  split at h
  · rename_i h1
    simp only [Prod.mk.injEq] at h
    obtain ⟨_, rfl, _⟩ := h
    have ho := outer_E s
    have hf : (E (wrapL s) .ahead 0 []).1 = false ∧ (E (wrapL s) .ahead 0 []).2.1 = q + 1 := by
      rw [ho]
      cases b
      · obtain ⟨g1, g2⟩ := hw.2 rfl hp hn
        simp only at g2
        unfold closeD
        rw [if_neg (by rw [g1]; decide)]
        exact ⟨g1, g2⟩
      · have e := hw.1 rfl
        simp only at e
        have h42 : nx (wrapL s) (q + 1) ≠ 41 := by rw [nx_wrap hp]; exact hn
        rw [e]
        simp [closeD, h42]
    have hu := up_fault (s := wrapL s) (p := 0) (cs := []) (by omega) hf.1 5 1 (by omega) (by omega)
    rw [parse_E, if_neg (by rw [wrap_len]; omega), hu, if_pos (Or.inl hf.1), hf.2]
  · split at h
    · simp at h
    · simp at h
end Go.Proofs.YtfgocdeaanalgaaDoor
