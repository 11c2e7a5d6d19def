/- Lines on lists of bytes: the pieces between blanks, and which lists are lines. No program is named here. -/
import Derived.Test.YtmpelnbhlhifeaaDg
namespace Go.Proofs.Ytmpelnbhlhifeaa
open Go.Lib

/-- a sign: a byte from 33 to 126 -/
def isSB (c : UInt8) : Bool := decide (33 ≤ c.toNat ∧ c.toNat ≤ 126)
theorem isSB_iff {c : UInt8} : isSB c = true ↔ 33 ≤ c.toNat ∧ c.toNat ≤ 126 := decide_eq_true_iff
theorem isSB_blank : isSB 32 = false := by decide

/-- what stands ahead of the first piece is put to it -/
def glue (p : List UInt8) : List (List UInt8) → List (List UInt8)
  | [] => [p]
  | q :: r => (p ++ q) :: r
/-- the pieces between blanks: one more than there are blanks -/
def pieces : List UInt8 → List (List UInt8)
  | [] => [[]]
  | c :: r => if c = 32 then [] :: pieces r else glue [c] (pieces r)

theorem pieces_nil : pieces [] = [[]] := rfl
theorem pieces_blank (r : List UInt8) : pieces (32 :: r) = [] :: pieces r := by simp [pieces]
theorem pieces_cons {c : UInt8} (h : c ≠ 32) (r : List UInt8) : pieces (c :: r) = glue [c] (pieces r) := by simp [pieces, h]
theorem pieces_ne (l : List UInt8) : pieces l ≠ [] := by
  cases l with
  | nil => simp [pieces]
  | cons c r => unfold pieces; split
                · simp
                · unfold glue; split <;> simp
theorem glue_nil {X : List (List UInt8)} (h : X ≠ []) : glue [] X = X := by
  cases X with
  | nil => exact absurd rfl h
  | cons q r => rfl
theorem glue_glue (p q : List UInt8) (X : List (List UInt8)) : glue p (glue q X) = glue (p ++ q) X := by
  cases X with
  | nil => rfl
  | cons a r => simp [glue]
theorem glue_blank (p : List UInt8) (X : List (List UInt8)) : glue p ([] :: X) = p :: X := by simp [glue]

def goodW (w : List UInt8) : Bool := !w.isEmpty && w.all isSB
def depthL : List UInt8 → Nat
  | [] => 0
  | c :: r => if c = 32 then depthL r + 1 else 0
def lineW (l : List UInt8) : List (List UInt8) := pieces (l.drop (depthL l))
/-- is it a line? -/
def lineB (l : List UInt8) : Bool := (lineW l).all goodW

/-- so many blanks stand ahead of place k -/
def Blanks (l : List UInt8) (k : Nat) : Prop := k ≤ l.length ∧ depthL l = k + depthL (l.drop k)
theorem Blanks.zero (l : List UInt8) : Blanks l 0 := ⟨Nat.zero_le _, by simp⟩
theorem Blanks.step {l : List UInt8} {k : Nat} (h : Blanks l k) (hk : k < l.length) (hc : l[k] = 32) : Blanks l (k + 1) := by
  refine ⟨hk, ?_⟩
  rw [h.2, List.drop_eq_getElem_cons hk, hc]
  simp only [depthL, if_true]; omega
theorem Blanks.stop {l : List UInt8} {k : Nat} (h : Blanks l k) (hs : k = l.length ∨ ∃ hk : k < l.length, l[k] ≠ 32) : depthL l = k := by
  rw [h.2]
  rcases hs with hs | ⟨hk, hc⟩
  · rw [List.drop_of_length_le (by omega)]; rfl
  · rw [List.drop_eq_getElem_cons hk]; simp only [depthL, if_neg hc]; rfl

/-- the pieces so far are xs; a word begins at place k -/
structure First (l : List UInt8) (xs : List (List UInt8)) (k : Nat) : Prop where
  eq : lineW l = xs ++ pieces (l.drop k)
  good : xs.all goodW = true
  len : k ≤ l.length
  few : xs.length ≤ k

/-- the pieces so far are xs; signs stand from place b on, at place k too -/
structure Word (l : List UInt8) (xs : List (List UInt8)) (b k : Nat) : Prop where
  eq : lineW l = xs ++ glue ((l.drop b).take (k + 1 - b)) (pieces (l.drop (k + 1)))
  good : xs.all goodW = true
  lt : k < l.length
  le : b ≤ k
  word : goodW ((l.drop b).take (k + 1 - b)) = true
  few : xs.length ≤ b

theorem First.start {l : List UInt8} {k : Nat} (h : depthL l = k) (hk : k ≤ l.length) : First l [] k := ⟨by unfold lineW; rw [h]; rfl, rfl, hk, Nat.zero_le _⟩

theorem all_append_bad {xs : List (List UInt8)} {q : List UInt8} {r : List (List UInt8)} (h : goodW q = false) : (xs ++ q :: r).all goodW = false := by
  rw [List.all_append, List.all_cons, h]; simp

theorem goodW_bad {p q : List UInt8} {c : UInt8} (h : isSB c = false) : goodW (p ++ c :: q) = false := by
  unfold goodW
  rw [List.all_append, List.all_cons, h]; simp

theorem First.stop {l : List UInt8} {xs : List (List UInt8)} {k : Nat} (h : First l xs k) (hs : k = l.length ∨ ∃ hk : k < l.length, isSB l[k] = false) : lineB l = false := by
  unfold lineB
  rw [h.eq]
  rcases hs with hs | ⟨hk, hc⟩
  · rw [List.drop_of_length_le (by omega), pieces_nil]
    exact all_append_bad rfl
  · rw [List.drop_eq_getElem_cons hk]
    by_cases hb : l[k] = 32
    · rw [hb, pieces_blank]; exact all_append_bad rfl
    · rw [pieces_cons hb]
      cases hp : pieces (l.drop (k + 1)) with
      | nil => exact absurd hp (pieces_ne _)
      | cons q r => exact all_append_bad (goodW_bad (p := []) hc)

theorem not_blank {c : UInt8} (h : isSB c = true) : c ≠ 32 := by
  intro e; subst e; rw [isSB_blank] at h; cases h

theorem take_one (l : List UInt8) (k : Nat) (hk : k < l.length) : (l.drop k).take (k + 1 - k) = [l[k]] := by
  rw [show k + 1 - k = 1 by omega, List.drop_eq_getElem_cons hk]; rfl

theorem First.word {l : List UInt8} {xs : List (List UInt8)} {k : Nat} (h : First l xs k) (hk : k < l.length) (hc : isSB l[k] = true) : Word l xs k k := by
  refine ⟨?_, h.good, hk, Nat.le_refl _, ?_, h.few⟩
  · rw [h.eq, take_one l k hk, List.drop_eq_getElem_cons hk, pieces_cons (not_blank hc)]
  · rw [take_one l k hk]; simp [goodW, hc]

theorem take_more (l : List UInt8) (b k : Nat) (hb : b ≤ k) (hk : k + 1 < l.length) : (l.drop b).take (k + 1 + 1 - b) = (l.drop b).take (k + 1 - b) ++ [l[k + 1]] := by
  rw [show k + 1 + 1 - b = (k + 1 - b) + 1 by omega, List.take_succ_eq_append_getElem (by rw [List.length_drop]; omega)]
  congr 2
  rw [List.getElem_drop]
  congr 1; omega

theorem goodW_more {p : List UInt8} {c : UInt8} (h : goodW p = true) (hc : isSB c = true) : goodW (p ++ [c]) = true := by
  unfold goodW at *
  rw [Bool.and_eq_true] at h ⊢
  refine ⟨by simp, ?_⟩
  rw [List.all_append, h.2]; simp [hc]

theorem Word.step {l : List UInt8} {xs : List (List UInt8)} {b k : Nat} (h : Word l xs b k) (hk : k + 1 < l.length) (hc : isSB l[k + 1] = true) : Word l xs b (k + 1) := by
  refine ⟨?_, h.good, hk, by have := h.le; omega, ?_, h.few⟩
  · rw [h.eq, take_more l b k h.le hk, List.drop_eq_getElem_cons hk, pieces_cons (not_blank hc), glue_glue]
  · rw [take_more l b k h.le hk]; exact goodW_more h.word hc

/-- the word that ends behind place k -/
def wordAt (l : List UInt8) (b k : Nat) : List UInt8 := (l.drop b).take (k + 1 - b)

theorem Word.end_ {l : List UInt8} {xs : List (List UInt8)} {b k : Nat} (h : Word l xs b k) (hk : k + 1 = l.length) : lineB l = true ∧ lineW l = xs ++ [wordAt l b k] := by
  have e : lineW l = xs ++ [wordAt l b k] := by
    have e2 : l.drop (k + 1) = [] := List.drop_of_length_le (by omega)
    rw [h.eq, e2, pieces_nil, glue_blank]; rfl
  refine ⟨?_, e⟩
  unfold lineB
  rw [e, List.all_append, h.good]
  have := h.word
  unfold wordAt
  simp [this]

theorem Word.next {l : List UInt8} {xs : List (List UInt8)} {b k : Nat} (h : Word l xs b k) (hk : k + 1 < l.length) (hc : l[k + 1] = 32) : First l (xs ++ [wordAt l b k]) (k + 1 + 1) := by
  refine ⟨?_, ?_, hk, ?_⟩
  · rw [h.eq, List.drop_eq_getElem_cons hk, hc, pieces_blank, glue_blank]; simp [wordAt]
  · rw [List.all_append, h.good]
    have := h.word
    unfold wordAt
    simp [this]
  · have := h.few; have := h.le; simp; omega

theorem Word.bad {l : List UInt8} {xs : List (List UInt8)} {b k : Nat} (h : Word l xs b k) (hk : k + 1 < l.length) (hc : l[k + 1] ≠ 32) (hs : isSB l[k + 1] = false) : lineB l = false := by
  unfold lineB
  rw [h.eq, List.drop_eq_getElem_cons hk, pieces_cons hc, glue_glue]
  cases hp : pieces (l.drop (k + 1 + 1)) with
  | nil => exact absurd hp (pieces_ne _)
  | cons q r =>
    refine all_append_bad ?_
    rw [List.append_assoc]
    exact goodW_bad hs
end Go.Proofs.Ytmpelnbhlhifeaa
