/- Expressions as lists of cells, and how a text is read to them, on lists of bytes: places, tokens, the reading by strengths. No program is named here. -/
import Derived.Test.YtfgocdeaanalgaaDoorN2
import Derived.Test.YtfgocdeaanalgaaDoorNb
namespace Go.Proofs.YtfgocdeaanalgaaDoor

/-- a cell -/
structure CM where
  op : Int
  a : Int
  nm : List UInt8

instance : DecidableEq CM := fun x y => decidable_of_iff (x.op = y.op ∧ x.a = y.a ∧ x.nm = y.nm) (by cases x; cases y; simp)

/-- a cell that joins -/
def opC (o : Int) : CM := ⟨o, 0, []⟩

/-- the byte at a place, 0 at the end -/
def nx (s : List UInt8) (p : Nat) : UInt8 := (s[p]?).getD 0
/-- the word at a place -/
def wordP (s : List UInt8) (p : Nat) : List UInt8 := (s.drop p).takeWhile okB
/-- the number at a place where a digit stands -/
def numT (s : List UInt8) (p : Nat) : List UInt8 := if nx s p = 48 then [48] else (s.drop p).takeWhile isD

/-- the operator that two bytes begin: its cell, its length, its strength -/
def opOf (c d : UInt8) : Int × Nat × Nat :=
  if c = 43 then (11, 1, 4) else if c = 45 then (12, 1, 4) else if c = 42 then (13, 1, 5) else if c = 47 then (14, 1, 5) else if c = 37 then (15, 1, 5)
  else if c = 61 then (16, 1, 3) else if c = 33 then (if d = 61 then (17, 2, 3) else (0, 0, 0)) else if c = 60 then (if d = 61 then (19, 2, 3) else (18, 1, 3))
  else if c = 62 then (if d = 61 then (21, 2, 3) else (20, 1, 3)) else if c = 38 then (22, 1, 2) else if c = 124 then (23, 1, 1) else (0, 0, 0)
def opAt (s : List UInt8) (p : Nat) : Int × Nat × Nat := opOf (nx s p) (nx s (p + 1))

/-- what is read: did it go well, the place, the cells -/
abbrev Rs := Bool × Nat × List CM

def closeD (s : List UInt8) (r : Rs) : Rs := if r.1 = true then (if nx s r.2.1 = 41 then (true, r.2.1 + 1, r.2.2) else (false, r.2.1, r.2.2)) else r
def addD (o : Int) (r : Rs) : Rs := if r.1 = true then (true, r.2.1, r.2.2 ++ [opC o]) else r
def stateD (s : List UInt8) (p : Nat) (cs : List CM) : Rs :=
  if nameB (wordP s (p + 3)) = true then
    closeD s (true, p + 3 + (wordP s (p + 3)).length, cs ++ [⟨6, 0, wordP s (p + 3)⟩])
  else (false, p + 3, cs)
def numD (s : List UInt8) (p : Nat) (cs : List CM) : Rs :=
  if (numP (numT s p)).2 ≠ 0 then (false, p, cs)
  else if nx s (p + (numT s p).length) = 105 then
    (if (numP (numT s p)).1 ≤ 1048576 then (true, p + (numT s p).length + 1, cs ++ [⟨2, (numP (numT s p)).1, []⟩]) else (false, p, cs))
  else (true, p + (numT s p).length, cs ++ [⟨1, (numP (numT s p)).1, []⟩])

/-- what may be asked for: operands joined by operators of a strength and above; what follows one; an operand with signs ahead -/
inductive Q where
  | joins (k : Nat)
  | loop (k : Nat) (cmp : Bool)
  | ahead

def wTrue : List UInt8 := [116, 114, 117, 101]
def wFalse : List UInt8 := [102, 97, 108, 115, 101]
def wIn : List UInt8 := [105, 110]
def wRe : List UInt8 := [114, 101]
def wIm : List UInt8 := [105, 109]

/-- a word, read as an operand; inner: what its parentheses hold -/
def wordD (s : List UInt8) (p : Nat) (cs : List CM) (w : List UInt8) (inner : Rs) : Rs :=
  if w = wTrue then (true, p + 4, cs ++ [opC 3])
  else if w = wFalse then (true, p + 5, cs ++ [opC 4])
  else if nameB w = true then (true, p + w.length, cs ++ [⟨5, 0, w⟩])
  else if nx s (p + w.length) ≠ 40 then (false, p, cs)
  else if w = wIn then stateD s p cs
  else if w = wRe then addD 9 (closeD s inner)
  else if w = wIm then addD 10 (closeD s inner)
  else (false, p, cs)

def D (s : List UInt8) : Nat → Q → Nat → List CM → Rs
  | 0, _, _, cs => (false, s.length, cs)
  | n + 1, .joins k, p, cs =>
    if k = 6 then D s n .ahead p cs
    else if (D s n (.joins (k + 1)) p cs).1 = true then D s n (.loop k false) (D s n (.joins (k + 1)) p cs).2.1 (D s n (.joins (k + 1)) p cs).2.2
    else D s n (.joins (k + 1)) p cs
  | n + 1, .loop k cmp, p, cs =>
    if (opAt s p).2.2 ≠ k then (true, p, cs)
    else if cmp = true then (false, p, cs)
    else if (D s n (.joins (k + 1)) (p + (opAt s p).2.1) cs).1 = true then
      D s n (.loop k (k == 3)) (D s n (.joins (k + 1)) (p + (opAt s p).2.1) cs).2.1 ((D s n (.joins (k + 1)) (p + (opAt s p).2.1) cs).2.2 ++ [opC (opAt s p).1])
    else D s n (.joins (k + 1)) (p + (opAt s p).2.1) cs
  | n + 1, .ahead, p, cs =>
    if nx s p = 45 then addD 7 (D s n .ahead (p + 1) cs)
    else if nx s p = 33 then addD 8 (D s n .ahead (p + 1) cs)
    else if nx s p = 40 then closeD s (D s n (.joins 1) (p + 1) cs)
    else if isD (nx s p) = true then numD s p cs
    else wordD s p cs (wordP s p) (D s n (.joins 1) (p + 3) cs)

theorem D_joins (s : List UInt8) (n k p : Nat) (cs : List CM) : D s (n + 1) (.joins k) p cs =
    if k = 6 then D s n .ahead p cs
    else if (D s n (.joins (k + 1)) p cs).1 = true then D s n (.loop k false) (D s n (.joins (k + 1)) p cs).2.1 (D s n (.joins (k + 1)) p cs).2.2
    else D s n (.joins (k + 1)) p cs := rfl
theorem D_loop (s : List UInt8) (n k : Nat) (cmp : Bool) (p : Nat) (cs : List CM) : D s (n + 1) (.loop k cmp) p cs =
    if (opAt s p).2.2 ≠ k then (true, p, cs)
    else if cmp = true then (false, p, cs)
    else if (D s n (.joins (k + 1)) (p + (opAt s p).2.1) cs).1 = true then
      D s n (.loop k (k == 3)) (D s n (.joins (k + 1)) (p + (opAt s p).2.1) cs).2.1 ((D s n (.joins (k + 1)) (p + (opAt s p).2.1) cs).2.2 ++ [opC (opAt s p).1])
    else D s n (.joins (k + 1)) (p + (opAt s p).2.1) cs := rfl
theorem D_ahead (s : List UInt8) (n p : Nat) (cs : List CM) : D s (n + 1) .ahead p cs =
    if nx s p = 45 then addD 7 (D s n .ahead (p + 1) cs)
    else if nx s p = 33 then addD 8 (D s n .ahead (p + 1) cs)
    else if nx s p = 40 then closeD s (D s n (.joins 1) (p + 1) cs)
    else if isD (nx s p) = true then numD s p cs
    else wordD s p cs (wordP s p) (D s n (.joins 1) (p + 3) cs) := rfl

/-- how many rounds are enough -/
def need (s : List UInt8) (q : Q) (p : Nat) : Nat := (s.length - p) * 10 + match q with | .joins k => 9 - k | .loop _ _ => 1 | .ahead => 1

/-- the whole: the cells, the place of a fault, the error -/
def parseP (s : List UInt8) : List CM × Nat × Int :=
  if 600 < s.length then ([], 0, 4)
  else if (D s (s.length * 10 + 8) (.joins 1) 0 []).1 = false ∨ (D s (s.length * 10 + 8) (.joins 1) 0 []).2.1 < s.length then ([], (D s (s.length * 10 + 8) (.joins 1) 0 []).2.1, 1)
  else if 32 < (D s (s.length * 10 + 8) (.joins 1) 0 []).2.2.length then ([], 0, 4)
  else ((D s (s.length * 10 + 8) (.joins 1) 0 []).2.2, 0, 0)

theorem nx_at {s : List UInt8} {p : Nat} (h : p < s.length) : nx s p = s[p] := by simp [nx, h]
theorem nx_end {s : List UInt8} {p : Nat} (h : s.length ≤ p) : nx s p = 0 := by simp [nx, h]
theorem nx_lt {s : List UInt8} {p : Nat} (h : nx s p ≠ 0) : p < s.length := by
  rcases Nat.lt_or_ge p s.length with h1 | h1
  · exact h1
  · exact absurd (nx_end h1) h

theorem opOf_zero (d : UInt8) : opOf 0 d = (0, 0, 0) := rfl
theorem opOf_some {c d : UInt8} (h : (opOf c d).2.2 ≠ 0) : c ≠ 0 ∧ 1 ≤ (opOf c d).2.1 ∧ (opOf c d).2.1 ≤ 2 ∧ ((opOf c d).2.1 = 2 → d ≠ 0) := by
  refine ⟨fun e => by subst e; exact h rfl, ?_⟩
  revert h
  unfold opOf
  repeat' split
  all_goals simp_all
theorem opAt_some {s : List UInt8} {p : Nat} (h : (opAt s p).2.2 ≠ 0) : 1 ≤ (opAt s p).2.1 ∧ p + (opAt s p).2.1 ≤ s.length := by
  obtain ⟨h1, h2, h3, h4⟩ := opOf_some h
  refine ⟨h2, ?_⟩
  have := nx_lt h1
  rcases Nat.lt_or_ge (opAt s p).2.1 2 with h5 | h5
  · omega
  · have := nx_lt (h4 (by unfold opAt at h5; omega)); unfold opAt at *; omega
theorem opOf_none {c d : UInt8} (h : (opOf c d).2.2 = 0) : opOf c d = (0, 0, 0) := by
  revert h
  unfold opOf
  repeat' split
  all_goals simp
theorem opOf_five (c d : UInt8) : (opOf c d).2.2 ≤ 5 := by
  unfold opOf
  repeat' split
  all_goals simp
theorem opAt_five (s : List UInt8) (p : Nat) : (opAt s p).2.2 ≤ 5 := opOf_five _ _

theorem word_le (s : List UInt8) (p : Nat) (h : p ≤ s.length) : p + (wordP s p).length ≤ s.length := by
  have := (List.takeWhile_prefix okB (l := s.drop p)).length_le
  rw [List.length_drop] at this
  unfold wordP; omega
theorem num_le (s : List UInt8) (p : Nat) (h : p < s.length) : p + (numT s p).length ≤ s.length := by
  unfold numT
  split
  · simp; omega
  · have := (List.takeWhile_prefix isD (l := s.drop p)).length_le
    rw [List.length_drop] at this
    omega
theorem num_pos {s : List UInt8} {p : Nat} (h : p < s.length) (hd : isD (nx s p) = true) : 1 ≤ (numT s p).length := by
  unfold numT
  split
  · simp
  · rw [nx_at h] at hd
    rw [List.drop_eq_getElem_cons h, List.takeWhile_cons_of_pos hd]
    simp

/-- how far a reading goes -/
structure Goes (s : List UInt8) (q : Q) (p : Nat) (r : Rs) : Prop where
  ge : p ≤ r.2.1
  le : r.2.1 ≤ s.length
  gt : r.1 = true → (match q with | .loop _ _ => True | _ => p < r.2.1)

theorem goes_close {s : List UInt8} {p : Nat} {r : Rs} (h1 : p < r.2.1) (h2 : r.2.1 ≤ s.length) : Goes s .ahead p (closeD s r) := by
  unfold closeD
  split
  · split
    · rename_i h
      have := nx_lt (s := s) (p := r.2.1) (by rw [h]; decide)
      exact ⟨by simp; omega, by simp; omega, fun _ => by simp; omega⟩
    · exact ⟨by simp; omega, by simp; omega, fun h => by simp at h⟩
  · rename_i h; exact ⟨by omega, h2, fun h' => absurd h' h⟩
theorem goes_add {s : List UInt8} {o : Int} {p p' : Nat} {r : Rs} (h : Goes s .ahead p' r) (hp : p ≤ p') : Goes s .ahead p (addD o r) := by
  have h1 := h.ge
  unfold addD
  split
  · rename_i hr; have := h.gt hr; simp only at this; exact ⟨by simp; omega, h.le, fun _ => by simp; omega⟩
  · rename_i hr; exact ⟨by omega, h.le, fun h' => absurd h' hr⟩
theorem goes_state {s : List UInt8} {p : Nat} {cs : List CM} (h : p + 3 ≤ s.length) : Goes s .ahead p (stateD s p cs) := by
  unfold stateD
  split
  · exact goes_close (by simp; omega) (word_le s _ h)
  · exact ⟨by simp, by simpa using h, fun h => by simp at h⟩
theorem goes_num {s : List UInt8} {p : Nat} {cs : List CM} (h : p < s.length) (hd : isD (nx s p) = true) : Goes s .ahead p (numD s p cs) := by
  have h1 := num_le s p h
  have h2 := num_pos h hd
  unfold numD
  split
  · exact ⟨by simp, by simp; omega, fun h => by simp at h⟩
  · split
    · rename_i h105
      have := nx_lt (s := s) (p := p + (numT s p).length) (by rw [h105]; decide)
      split
      · exact ⟨by simp; omega, by simp; omega, fun _ => by simp; omega⟩
      · exact ⟨by simp, by simp; omega, fun h => by simp at h⟩
    · exact ⟨by simp, by simpa using h1, fun _ => by simp; omega⟩

theorem goes_word {s : List UInt8} {p : Nat} {cs : List CM} {inner : Rs} (hp : p ≤ s.length) (hi : p + 3 ≤ s.length → p + 3 ≤ inner.2.1 ∧ inner.2.1 ≤ s.length) : Goes s .ahead p (wordD s p cs (wordP s p) inner) := by
  have hw := word_le s p hp
  unfold wordD
  split
  · rename_i e; rw [e] at hw; simp [wTrue] at hw; exact ⟨by simp, by simpa using hw, fun _ => by simp⟩
  · split
    · rename_i e; rw [e] at hw; simp [wFalse] at hw; exact ⟨by simp, by simpa using hw, fun _ => by simp⟩
    · split
      · rename_i hn
        have : 0 < (wordP s p).length := by
          rcases Nat.eq_zero_or_pos (wordP s p).length with h0 | h0
          · rw [List.eq_nil_of_length_eq_zero h0] at hn; simp [nameB] at hn
          · exact h0
        exact ⟨by simp, by simpa using hw, fun _ => by simp; omega⟩
      · have hf : Goes s .ahead p (false, p, cs) := ⟨by simp, by simpa using hp, fun h => by simp at h⟩
        split
        · exact hf
        · rename_i h40
          have h3 := nx_lt (s := s) (p := p + (wordP s p).length) (by rw [Decidable.not_not.1 h40]; decide)
          split
          · rename_i e; rw [e] at h3; simp [wIn] at h3; exact goes_state (by omega)
          · split
            · rename_i e; rw [e] at h3; simp [wRe] at h3
              have := hi (by omega)
              exact goes_add (goes_close (p := p) (by omega) this.2) (Nat.le_refl _)
            · split
              · rename_i e; rw [e] at h3; simp [wIm] at h3
                have := hi (by omega)
                exact goes_add (goes_close (p := p) (by omega) this.2) (Nat.le_refl _)
              · exact hf

theorem goes (s : List UInt8) : ∀ (n : Nat) (q : Q) (p : Nat) (cs : List CM), p ≤ s.length → Goes s q p (D s n q p cs) := by
  intro n
  induction n with
  | zero => intro q p cs hp; exact ⟨by simpa [D] using hp, by simp [D], fun h => by simp [D] at h⟩
  | succ n ih =>
    intro q p cs hp
    cases q with
    | joins k =>
      rw [D_joins]
      split
      · exact ⟨(ih .ahead p cs hp).ge, (ih .ahead p cs hp).le, fun h => (ih .ahead p cs hp).gt h⟩
      · have h1 := ih (.joins (k + 1)) p cs hp
        split
        · rename_i hr
          have h2 := ih (.loop k false) _ (D s n (.joins (k + 1)) p cs).2.2 h1.le
          have h3 : p < (D s n (.joins (k + 1)) p cs).2.1 := h1.gt hr
          exact ⟨by have := h2.ge; omega, h2.le, fun _ => by have := h2.ge; show p < _; omega⟩
        · rename_i hr; exact ⟨h1.ge, h1.le, fun h => absurd h hr⟩
    | loop k cmp =>
      rw [D_loop]
      split
      · exact ⟨by simp, by simpa using hp, fun _ => trivial⟩
      · split
        · exact ⟨by simp, by simpa using hp, fun _ => trivial⟩
        · rename_i hk _
          by_cases h0 : (opAt s p).2.2 = 0
          · have hz : (opAt s p).2.1 = 0 := congrArg (·.2.1) (opOf_none h0)
            have h1 := ih (.joins (k + 1)) (p + (opAt s p).2.1) cs (by omega)
            split
            · have h2 := ih (.loop k (k == 3)) _ ((D s n (.joins (k + 1)) (p + (opAt s p).2.1) cs).2.2 ++ [opC (opAt s p).1]) h1.le
              exact ⟨by have := h1.ge; have := h2.ge; omega, h2.le, fun _ => trivial⟩
            · exact ⟨by have := h1.ge; omega, h1.le, fun _ => trivial⟩
          · have ho := opAt_some h0
            have h1 := ih (.joins (k + 1)) (p + (opAt s p).2.1) cs ho.2
            split
            · have h2 := ih (.loop k (k == 3)) _ ((D s n (.joins (k + 1)) (p + (opAt s p).2.1) cs).2.2 ++ [opC (opAt s p).1]) h1.le
              exact ⟨by have := h1.ge; have := h2.ge; omega, h2.le, fun _ => trivial⟩
            · exact ⟨by have := h1.ge; omega, h1.le, fun _ => trivial⟩
    | ahead =>
      rw [D_ahead]
      split
      · rename_i h
        have := nx_lt (s := s) (p := p) (by rw [h]; decide)
        exact goes_add (ih .ahead (p + 1) cs (by omega)) (by omega)
      · split
        · rename_i h
          have := nx_lt (s := s) (p := p) (by rw [h]; decide)
          exact goes_add (ih .ahead (p + 1) cs (by omega)) (by omega)
        · split
          · rename_i h
            have := nx_lt (s := s) (p := p) (by rw [h]; decide)
            have h1 := ih (.joins 1) (p + 1) cs (by omega)
            exact goes_close (by have := h1.ge; omega) h1.le
          · split
            · rename_i hd
              have := nx_lt (s := s) (p := p) (by intro e; rw [e] at hd; exact absurd hd (by decide))
              exact goes_num this hd
            · exact goes_word hp (fun h3 => ⟨(ih (.joins 1) (p + 3) cs h3).ge, (ih (.joins 1) (p + 3) cs h3).le⟩)

theorem parse_one : parseP [97, 45, 40, 98, 43, 99, 41] = ([⟨5, 0, [97]⟩, ⟨5, 0, [98]⟩, ⟨5, 0, [99]⟩, opC 11, opC 12], 0, 0) := by decide +kernel
theorem parse_two : parseP [49, 60, 50, 60, 51] = ([], 3, 1) := by decide +kernel
end Go.Proofs.YtfgocdeaanalgaaDoor
