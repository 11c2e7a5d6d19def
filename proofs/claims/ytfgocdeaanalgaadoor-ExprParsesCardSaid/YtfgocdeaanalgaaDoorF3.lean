/- The reading without a count of rounds: enough is enough. -/
import Derived.Test.YtfgocdeaanalgaaDoorEi
namespace Go.Proofs.YtfgocdeaanalgaaDoor

theorem wordD_same {s : List UInt8} {p : Nat} {cs : List CM} {a b : Rs} (h : p + 3 ≤ s.length → a = b) : wordD s p cs (wordP s p) a = wordD s p cs (wordP s p) b := by
  unfold wordD
  split
  · rfl
  · split
    · rfl
    · split
      · rfl
      · split
        · rfl
        · rename_i h40
          have h3 := nx_lt (s := s) (p := p + (wordP s p).length) (by rw [Decidable.not_not.1 h40]; decide)
          split
          · rfl
          · split
            · rename_i e; rw [e] at h3; simp [wRe] at h3; rw [h (by omega)]
            · split
              · rename_i e; rw [e] at h3; simp [wIm] at h3; rw [h (by omega)]
              · rfl

def goodQ : Q → Prop
  | .joins k => 1 ≤ k ∧ k ≤ 6
  | .loop k _ => 1 ≤ k ∧ k ≤ 5
  | .ahead => True

/-- one round more changes nothing, where there are enough -/
theorem more (s : List UInt8) : ∀ (n : Nat) (q : Q) (p : Nat) (cs : List CM), goodQ q → p ≤ s.length → need s q p ≤ n → D s (n + 1) q p cs = D s n q p cs := by
  intro n
  induction n with
  | zero => intro q p cs hg hp hn; cases q <;> simp only [need, goodQ] at hn hg <;> omega
  | succ n ih =>
    intro q p cs hg hp hn
    cases q with
    | joins k =>
      rw [D_joins s (n + 1) k p cs, D_joins s n k p cs]
      by_cases h6 : k = 6
      · subst h6
        rw [if_pos rfl, if_pos rfl]
        exact ih .ahead p cs trivial hp (by simp only [need] at *; omega)
      · rw [if_neg h6, if_neg h6]
        have hk : k ≤ 6 := hg.2
        have h1 := ih (.joins (k + 1)) p cs ⟨by omega, by omega⟩ hp (by simp only [need] at *; omega)
        rw [h1]
        by_cases hb : (D s n (.joins (k + 1)) p cs).1 = true
        · rw [if_pos hb, if_pos hb]
          have hgo := goes s n (.joins (k + 1)) p cs hp
          have hgt : p < (D s n (.joins (k + 1)) p cs).2.1 := hgo.gt hb
          have hle := hgo.le
          exact ih (.loop k false) _ _ ⟨hg.1, by omega⟩ hle (by simp only [need] at *; omega)
        · rw [if_neg hb, if_neg hb]
    | loop k cmp =>
      rw [D_loop s (n + 1) k cmp p cs, D_loop s n k cmp p cs]
      have hk1 : 1 ≤ k := hg.1
      have hk5 : k ≤ 5 := hg.2
      by_cases hs : (opAt s p).2.2 ≠ k
      · rw [if_pos hs, if_pos hs]
      · rw [if_neg hs, if_neg hs]
        by_cases hc : cmp = true
        · rw [if_pos hc, if_pos hc]
        · rw [if_neg hc, if_neg hc]
          have hs := Decidable.not_not.1 hs
          have ho := opAt_some (s := s) (p := p) (by omega)
          have h1 := ih (.joins (k + 1)) (p + (opAt s p).2.1) cs ⟨by omega, by omega⟩ ho.2 (by simp only [need] at *; omega)
          rw [h1]
          by_cases hb : (D s n (.joins (k + 1)) (p + (opAt s p).2.1) cs).1 = true
          · rw [if_pos hb, if_pos hb]
            have hgo := goes s n (.joins (k + 1)) (p + (opAt s p).2.1) cs ho.2
            have hgt : p + (opAt s p).2.1 < (D s n (.joins (k + 1)) (p + (opAt s p).2.1) cs).2.1 := hgo.gt hb
            have hle := hgo.le
            exact ih (.loop k (k == 3)) _ _ ⟨hk1, hk5⟩ hle (by simp only [need] at *; omega)
          · rw [if_neg hb, if_neg hb]
    | ahead =>
      rw [D_ahead s (n + 1) p cs, D_ahead s n p cs]
      by_cases h45 : nx s p = 45
      · rw [if_pos h45, if_pos h45]
        have := nx_lt (s := s) (p := p) (by rw [h45]; decide)
        rw [ih .ahead (p + 1) cs trivial (by omega) (by simp only [need] at *; omega)]
      · rw [if_neg h45, if_neg h45]
        by_cases h33 : nx s p = 33
        · rw [if_pos h33, if_pos h33]
          have := nx_lt (s := s) (p := p) (by rw [h33]; decide)
          rw [ih .ahead (p + 1) cs trivial (by omega) (by simp only [need] at *; omega)]
        · rw [if_neg h33, if_neg h33]
          by_cases h40 : nx s p = 40
          · rw [if_pos h40, if_pos h40]
            have := nx_lt (s := s) (p := p) (by rw [h40]; decide)
            rw [ih (.joins 1) (p + 1) cs ⟨by omega, by omega⟩ (by omega) (by simp only [need] at *; omega)]
          · rw [if_neg h40, if_neg h40]
            by_cases hd : isD (nx s p) = true
            · rw [if_pos hd, if_pos hd]
            · rw [if_neg hd, if_neg hd]
              exact wordD_same (fun h3 => ih (.joins 1) (p + 3) cs ⟨by omega, by omega⟩ h3 (by simp only [need] at *; omega))

theorem more_to (s : List UInt8) (q : Q) (p : Nat) (cs : List CM) (hg : goodQ q) (hp : p ≤ s.length) (n : Nat) (h : need s q p ≤ n) : D s n q p cs = D s (need s q p) q p cs := by
  obtain ⟨d, rfl⟩ : ∃ d, n = need s q p + d := ⟨n - need s q p, by omega⟩
  clear h
  induction d with
  | zero => rfl
  | succ d ih => rw [← ih, ← Nat.add_assoc]; exact more s _ q p cs hg hp (by omega)

/-- the reading -/
def E (s : List UInt8) (q : Q) (p : Nat) (cs : List CM) : Rs := D s (need s q p) q p cs

section
variable {s : List UInt8} {p : Nat} {cs : List CM}
theorem D_E {n : Nat} {q : Q} (hg : goodQ q) (hp : p ≤ s.length) (h : need s q p ≤ n) : D s n q p cs = E s q p cs := more_to s q p cs hg hp n h

theorem E_six (hp : p ≤ s.length) : E s (.joins 6) p cs = E s .ahead p cs := by
  rw [← D_E (q := .joins 6) (n := need s (.joins 6) p + 1) ⟨by omega, by omega⟩ hp (by omega), D_joins, if_pos rfl]
  exact D_E (q := .ahead) trivial hp (by simp only [need]; omega)
theorem E_joins {k : Nat} (hk : 1 ≤ k) (hk5 : k ≤ 5) (hp : p ≤ s.length) : E s (.joins k) p cs =
    if (E s (.joins (k + 1)) p cs).1 = true then E s (.loop k false) (E s (.joins (k + 1)) p cs).2.1 (E s (.joins (k + 1)) p cs).2.2 else E s (.joins (k + 1)) p cs := by
  rw [← D_E (q := .joins k) (n := need s (.joins k) p + 1) ⟨by omega, by omega⟩ hp (by omega), D_joins, if_neg (by omega)]
  have h1 := D_E (s := s) (p := p) (cs := cs) (n := need s (.joins k) p) (q := .joins (k + 1)) ⟨by omega, by omega⟩ hp (by simp only [need]; omega)
  rw [h1]
  by_cases hb : (E s (.joins (k + 1)) p cs).1 = true
  · rw [if_pos hb, if_pos hb]
    have hgo := goes s (need s (.joins (k + 1)) p) (.joins (k + 1)) p cs hp
    have hgt : p < (E s (.joins (k + 1)) p cs).2.1 := hgo.gt hb
    have hle : (E s (.joins (k + 1)) p cs).2.1 ≤ s.length := hgo.le
    exact D_E (q := .loop k false) ⟨hk, hk5⟩ hle (by simp only [need] at *; omega)
  · rw [if_neg hb, if_neg hb]
theorem E_loop {k : Nat} {cmp : Bool} (hk : 1 ≤ k) (hk5 : k ≤ 5) (hp : p ≤ s.length) : E s (.loop k cmp) p cs =
    if (opAt s p).2.2 ≠ k then (true, p, cs)
    else if cmp = true then (false, p, cs)
    else if (E s (.joins (k + 1)) (p + (opAt s p).2.1) cs).1 = true then
      E s (.loop k (k == 3)) (E s (.joins (k + 1)) (p + (opAt s p).2.1) cs).2.1 ((E s (.joins (k + 1)) (p + (opAt s p).2.1) cs).2.2 ++ [opC (opAt s p).1])
    else E s (.joins (k + 1)) (p + (opAt s p).2.1) cs := by
  rw [← D_E (q := .loop k cmp) (n := need s (.loop k cmp) p + 1) ⟨hk, hk5⟩ hp (by omega), D_loop]
  by_cases hs : (opAt s p).2.2 ≠ k
  · rw [if_pos hs, if_pos hs]
  · rw [if_neg hs, if_neg hs]
    by_cases hc : cmp = true
    · rw [if_pos hc, if_pos hc]
    · rw [if_neg hc, if_neg hc]
      have hs := Decidable.not_not.1 hs
      have ho := opAt_some (s := s) (p := p) (by omega)
      have h1 := D_E (s := s) (p := p + (opAt s p).2.1) (cs := cs) (n := need s (.loop k cmp) p) (q := .joins (k + 1)) ⟨by omega, by omega⟩ ho.2 (by simp only [need]; omega)
      rw [h1]
      by_cases hb : (E s (.joins (k + 1)) (p + (opAt s p).2.1) cs).1 = true
      · rw [if_pos hb, if_pos hb]
        have hgo := goes s (need s (.joins (k + 1)) (p + (opAt s p).2.1)) (.joins (k + 1)) (p + (opAt s p).2.1) cs ho.2
        have hgt : p + (opAt s p).2.1 < (E s (.joins (k + 1)) (p + (opAt s p).2.1) cs).2.1 := hgo.gt hb
        have hle : (E s (.joins (k + 1)) (p + (opAt s p).2.1) cs).2.1 ≤ s.length := hgo.le
        exact D_E (q := .loop k (k == 3)) ⟨hk, hk5⟩ hle (by simp only [need] at *; omega)
      · rw [if_neg hb, if_neg hb]
theorem E_ahead (hp : p ≤ s.length) : E s .ahead p cs =
    if nx s p = 45 then addD 7 (E s .ahead (p + 1) cs)
    else if nx s p = 33 then addD 8 (E s .ahead (p + 1) cs)
    else if nx s p = 40 then closeD s (E s (.joins 1) (p + 1) cs)
    else if isD (nx s p) = true then numD s p cs
    else wordD s p cs (wordP s p) (E s (.joins 1) (p + 3) cs) := by
  rw [← D_E (q := .ahead) (n := need s .ahead p + 1) trivial hp (by omega), D_ahead]
  by_cases h45 : nx s p = 45
  · rw [if_pos h45, if_pos h45]
    have := nx_lt (s := s) (p := p) (by rw [h45]; decide)
    rw [D_E (q := .ahead) trivial (by omega) (by simp only [need]; omega)]
  · rw [if_neg h45, if_neg h45]
    by_cases h33 : nx s p = 33
    · rw [if_pos h33, if_pos h33]
      have := nx_lt (s := s) (p := p) (by rw [h33]; decide)
      rw [D_E (q := .ahead) trivial (by omega) (by simp only [need]; omega)]
    · rw [if_neg h33, if_neg h33]
      by_cases h40 : nx s p = 40
      · rw [if_pos h40, if_pos h40]
        have := nx_lt (s := s) (p := p) (by rw [h40]; decide)
        rw [D_E (q := .joins 1) ⟨by omega, by omega⟩ (by omega) (by simp only [need]; omega)]
      · rw [if_neg h40, if_neg h40]
        by_cases hd : isD (nx s p) = true
        · rw [if_pos hd, if_pos hd]
        · rw [if_neg hd, if_neg hd]
          exact wordD_same (fun h3 => D_E (q := .joins 1) ⟨by omega, by omega⟩ h3 (by simp only [need]; omega))
theorem E_goes {q : Q} (hp : p ≤ s.length) : Goes s q p (E s q p cs) := goes s _ q p cs hp
theorem parse_E (s : List UInt8) : parseP s = if 600 < s.length then ([], 0, 4)
    else if (E s (.joins 1) 0 []).1 = false ∨ (E s (.joins 1) 0 []).2.1 < s.length then ([], (E s (.joins 1) 0 []).2.1, 1)
    else if 32 < (E s (.joins 1) 0 []).2.2.length then ([], 0, 4) else ((E s (.joins 1) 0 []).2.2, 0, 0) := by
  unfold parseP
  rw [D_E (q := .joins 1) ⟨by omega, by omega⟩ (Nat.zero_le _) (by simp only [need]; omega)]
end
end Go.Proofs.YtfgocdeaanalgaaDoor
