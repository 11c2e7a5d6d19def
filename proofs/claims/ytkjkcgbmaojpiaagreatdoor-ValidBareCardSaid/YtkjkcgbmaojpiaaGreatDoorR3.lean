/- Own texts, joined: Ea, Eb, Ec, Ed, Shelf. -/
import Derived.Test.YtkjkcgbmaojpiaaGreatDoorR2
import Derived.Laws.OwnMore
import Derived.OneCell
import Derived.Deep.Onto
import Derived.Deep.QuietTactic
import Derived.BigQuiet
import Derived.Deep.Draws
import Derived.RegionTactic
import Derived.Deep.RegionLaw
import Derived.Laws.Rows
import Derived.Deep.RegionHeld3
import Derived.Deep.AppendLies
import Derived.StillTailTactics
import Derived.Shelf.Small.Utf8
import Derived.Shelf.Small.Strs
import Derived.Shelf.Small.Wraps
import Derived.Shelf.Utf8.RuneCount
import Derived.Shelf.Strconv.Itoa0
import Derived.Shelf.Strconv.Itoa1
import Derived.Shelf.LaysM
import Derived.Shelf.Strconv.Itoa2
import Derived.Shelf.Strconv.Itoa3
import Derived.Shelf.Strconv.Itoa4
import Derived.Shelf.Strconv.ParseIntEmpty
import Derived.Shelf.Strconv.Clone
import Derived.Shelf.Strconv.SyntaxError
import Derived.Shelf.LaysC
import Derived.Shelf.Strconv.ToError
import Derived.Shelf.Strconv.Lower
import Derived.Shelf.Strconv.ParseUint10
import Derived.Shelf.Strconv.ParseUint10Empty
import Derived.Shelf.Strconv.ParseUint10Any
import Derived.Shelf.Strconv.ParseInt10
import Derived.Shelf.Strconv.RangeError
import Derived.Shelf.Strconv.ToErrorRange
import Derived.Shelf.Strconv.ParseUintEmpty
import Derived.Shelf.Strconv.ParseUint10b64
import Derived.Shelf.Strconv.ParseUint10b32
import Derived.Shelf.Strconv.ParseUint10b16
import Derived.Shelf.Strconv.ParseUint10b8
import Derived.Shelf.Strconv.ParseUint10At
import Derived.Shelf.Strconv.ParseInt10At64
import Derived.Shelf.Strconv.ParseInt10At32
import Derived.Shelf.Strconv.ParseInt10At16
import Derived.Shelf.Strconv.ParseInt10At8
import Derived.Shelf.Strconv.ParseInt10All
import Derived.Shelf.Strconv.ParseIntPublic10
import Derived.Shelf.Strconv.ErrVarParseInt
import Derived.Shelf.Strings.Search1
import Derived.Shelf.Strings.Search2
import Derived.Shelf.Strings.Search3
import Derived.Shelf.Strings.Cut
import Derived.Shelf.Strings.Count
import Derived.Shelf.Strings.Shaped
import Derived.Shelf.Strings.Prefix
import Derived.Shelf.Strings.Split
import Derived.Shelf.Strings.SplitShaped
import Derived.Shelf.Unicode.Decode
import Derived.Shelf.Strings.Runes
import Derived.Shelf.Strings.RuneCount
import Derived.Shelf.Strings.IndexAny
import Derived.Shelf.Strings.AsciiSet
import Derived.Shelf.Strings.IndexAnyAll
import Derived.Shelf.Strings.Explode
import Derived.Shelf.Unicode.DecodeSlow
import Derived.Test.YtkjkcgbmaojpiaaGreatDoorProg
namespace Go.Proofs.YtkjkcgbmaojpiaaGreatDoor
structure CM where
 op : Int
 a : Int
 nm : List UInt8
instance : DecidableEq CM := fun x y => decidable_of_iff (x.op = y.op ∧ x.a = y.a ∧ x.nm = y.nm) (by cases x; cases y; simp)
def opC (o : Int) : CM := ⟨o, 0, []⟩
def nx (s : List UInt8) (p : Nat) : UInt8 := (s[p]?).getD 0
def wordP (s : List UInt8) (p : Nat) : List UInt8 := (s.drop p).takeWhile okB
def numT (s : List UInt8) (p : Nat) : List UInt8 := if nx s p = 48 then [48] else (s.drop p).takeWhile isD
def opOf (c d : UInt8) : Int × Nat × Nat :=
 if c = 43 then (11, 1, 4) else if c = 45 then (12, 1, 4) else if c = 42 then (13, 1, 5) else if c = 47 then (14, 1, 5) else if c = 37 then (15, 1, 5)
 else if c = 61 then (16, 1, 3) else if c = 33 then (if d = 61 then (17, 2, 3) else (0, 0, 0)) else if c = 60 then (if d = 61 then (19, 2, 3) else (18, 1, 3))
 else if c = 62 then (if d = 61 then (21, 2, 3) else (20, 1, 3)) else if c = 38 then (22, 1, 2) else if c = 124 then (23, 1, 1) else (0, 0, 0)
def opAt (s : List UInt8) (p : Nat) : Int × Nat × Nat := opOf (nx s p) (nx s (p + 1))
abbrev Rs := Bool × Nat × List CM
def closeD (s : List UInt8) (r : Rs) : Rs := if r.1 = true then (if nx s r.2.1 = 41 then (true, r.2.1 + 1, r.2.2) else (false, r.2.1, r.2.2)) else r
def addD (o : Int) (r : Rs) : Rs := if r.1 = true then (true, r.2.1, r.2.2 ++ [opC o]) else r
def stateD (s : List UInt8) (p : Nat) (cs : List CM) : Rs :=
 if nameB (wordP s (p + 3)) = true then
  closeD s (true, p + 3 + (wordP s (p + 3)).length, cs ++ [⟨6, 0, wordP s (p + 3)⟩])
 else (false, p + 3, cs)
def numD (s : List UInt8) (p : Nat) (cs : List CM) : Rs :=
 if (numP (numT s p)).2 ≠ 0 then (false, p, cs)
 else if nx s (p + (numT s p).length) = 105 then
  (if (numP (numT s p)).1 ≤ 1048576 then (true, p + (numT s p).length + 1, cs ++ [⟨2, (numP (numT s p)).1, []⟩]) else (false, p, cs))
 else (true, p + (numT s p).length, cs ++ [⟨1, (numP (numT s p)).1, []⟩])
inductive Q where
 | joins (k : Nat)
 | loop (k : Nat) (cmp : Bool)
 | ahead
def wTrue : List UInt8 := [116, 114, 117, 101]
def wFalse : List UInt8 := [102, 97, 108, 115, 101]
def wIn : List UInt8 := [105, 110]
def wRe : List UInt8 := [114, 101]
def wIm : List UInt8 := [105, 109]
def wordD (s : List UInt8) (p : Nat) (cs : List CM) (w : List UInt8) (inner : Rs) : Rs :=
 if w = wTrue then (true, p + 4, cs ++ [opC 3])
 else if w = wFalse then (true, p + 5, cs ++ [opC 4])
 else if nameB w = true then (true, p + w.length, cs ++ [⟨5, 0, w⟩])
 else if nx s (p + w.length) ≠ 40 then (false, p, cs)
 else if w = wIn then stateD s p cs
 else if w = wRe then addD 9 (closeD s inner)
 else if w = wIm then addD 10 (closeD s inner)
 else (false, p, cs)
def D (s : List UInt8) : Nat → Q → Nat → List CM → Rs
 | 0, _, _, cs => (false, s.length, cs)
 | n + 1, .joins k, p, cs =>
  if k = 6 then D s n .ahead p cs
  else if (D s n (.joins (k + 1)) p cs).1 = true then D s n (.loop k false) (D s n (.joins (k + 1)) p cs).2.1 (D s n (.joins (k + 1)) p cs).2.2
  else D s n (.joins (k + 1)) p cs
 | n + 1, .loop k cmp, p, cs =>
  if (opAt s p).2.2 ≠ k then (true, p, cs)
  else if cmp = true then (false, p, cs)
  else if (D s n (.joins (k + 1)) (p + (opAt s p).2.1) cs).1 = true then
   D s n (.loop k (k == 3)) (D s n (.joins (k + 1)) (p + (opAt s p).2.1) cs).2.1 ((D s n (.joins (k + 1)) (p + (opAt s p).2.1) cs).2.2 ++ [opC (opAt s p).1])
  else D s n (.joins (k + 1)) (p + (opAt s p).2.1) cs
 | n + 1, .ahead, p, cs =>
  if nx s p = 45 then addD 7 (D s n .ahead (p + 1) cs)
  else if nx s p = 33 then addD 8 (D s n .ahead (p + 1) cs)
  else if nx s p = 40 then closeD s (D s n (.joins 1) (p + 1) cs)
  else if isD (nx s p) = true then numD s p cs
  else wordD s p cs (wordP s p) (D s n (.joins 1) (p + 3) cs)
theorem D_joins (s : List UInt8) (n k p : Nat) (cs : List CM) : D s (n + 1) (.joins k) p cs =
  if k = 6 then D s n .ahead p cs
  else if (D s n (.joins (k + 1)) p cs).1 = true then D s n (.loop k false) (D s n (.joins (k + 1)) p cs).2.1 (D s n (.joins (k + 1)) p cs).2.2
  else D s n (.joins (k + 1)) p cs := rfl
theorem D_loop (s : List UInt8) (n k : Nat) (cmp : Bool) (p : Nat) (cs : List CM) : D s (n + 1) (.loop k cmp) p cs =
  if (opAt s p).2.2 ≠ k then (true, p, cs)
  else if cmp = true then (false, p, cs)
  else if (D s n (.joins (k + 1)) (p + (opAt s p).2.1) cs).1 = true then
   D s n (.loop k (k == 3)) (D s n (.joins (k + 1)) (p + (opAt s p).2.1) cs).2.1 ((D s n (.joins (k + 1)) (p + (opAt s p).2.1) cs).2.2 ++ [opC (opAt s p).1])
  else D s n (.joins (k + 1)) (p + (opAt s p).2.1) cs := rfl
theorem D_ahead (s : List UInt8) (n p : Nat) (cs : List CM) : D s (n + 1) .ahead p cs =
  if nx s p = 45 then addD 7 (D s n .ahead (p + 1) cs)
  else if nx s p = 33 then addD 8 (D s n .ahead (p + 1) cs)
  else if nx s p = 40 then closeD s (D s n (.joins 1) (p + 1) cs)
  else if isD (nx s p) = true then numD s p cs
  else wordD s p cs (wordP s p) (D s n (.joins 1) (p + 3) cs) := rfl
def need (s : List UInt8) (q : Q) (p : Nat) : Nat := (s.length - p) * 10 + match q with | .joins k => 9 - k | .loop _ _ => 1 | .ahead => 1
def parseP (s : List UInt8) : List CM × Nat × Int :=
 if 600 < s.length then ([], 0, 4)
 else if (D s (s.length * 10 + 8) (.joins 1) 0 []).1 = false ∨ (D s (s.length * 10 + 8) (.joins 1) 0 []).2.1 < s.length then ([], (D s (s.length * 10 + 8) (.joins 1) 0 []).2.1, 1)
 else if 32 < (D s (s.length * 10 + 8) (.joins 1) 0 []).2.2.length then ([], 0, 4)
 else ((D s (s.length * 10 + 8) (.joins 1) 0 []).2.2, 0, 0)
theorem nx_at {s : List UInt8} {p : Nat} (h : p < s.length) : nx s p = s[p] := by simp [nx, h]
theorem nx_end {s : List UInt8} {p : Nat} (h : s.length ≤ p) : nx s p = 0 := by simp [nx, h]
theorem nx_lt {s : List UInt8} {p : Nat} (h : nx s p ≠ 0) : p < s.length := by
 rcases Nat.lt_or_ge p s.length with h1 | h1
 ·exact h1
 ·exact absurd (nx_end h1) h
theorem opOf_some {c d : UInt8} (h : (opOf c d).2.2 ≠ 0) : c ≠ 0 ∧ 1 ≤ (opOf c d).2.1 ∧ (opOf c d).2.1 ≤ 2 ∧ ((opOf c d).2.1 = 2 → d ≠ 0) := by
 refine ⟨fun e => by subst e; exact h rfl, ?_⟩
 revert h
 unfold opOf
 repeat' split
 all_goals simp_all
theorem opAt_some {s : List UInt8} {p : Nat} (h : (opAt s p).2.2 ≠ 0) : 1 ≤ (opAt s p).2.1 ∧ p + (opAt s p).2.1 ≤ s.length := by
 obtain ⟨h1, h2, h3, h4⟩ := opOf_some h
 refine ⟨h2, ?_⟩
 have := nx_lt h1
 rcases Nat.lt_or_ge (opAt s p).2.1 2 with h5 | h5
 ·omega
 ·have := nx_lt (h4 (by unfold opAt at h5; omega)); unfold opAt at *; omega
theorem opOf_none {c d : UInt8} (h : (opOf c d).2.2 = 0) : opOf c d = (0, 0, 0) := by
 revert h
 unfold opOf
 repeat' split
 all_goals simp
theorem word_le (s : List UInt8) (p : Nat) (h : p ≤ s.length) : p + (wordP s p).length ≤ s.length := by
 have := (List.takeWhile_prefix okB (l := s.drop p)).length_le
 rw [List.length_drop] at this
 unfold wordP; omega
theorem num_le (s : List UInt8) (p : Nat) (h : p < s.length) : p + (numT s p).length ≤ s.length := by
 unfold numT
 split
 ·simp; omega
 ·have := (List.takeWhile_prefix isD (l := s.drop p)).length_le
  rw [List.length_drop] at this
  omega
theorem num_pos {s : List UInt8} {p : Nat} (h : p < s.length) (hd : isD (nx s p) = true) : 1 ≤ (numT s p).length := by
 unfold numT
 split
 ·simp
 ·rw [nx_at h] at hd
  rw [List.drop_eq_getElem_cons h, List.takeWhile_cons_of_pos hd]
  simp
structure Goes (s : List UInt8) (q : Q) (p : Nat) (r : Rs) : Prop where
 ge : p ≤ r.2.1
 le : r.2.1 ≤ s.length
 gt : r.1 = true → (match q with | .loop _ _ => True | _ => p < r.2.1)
theorem goes_close {s : List UInt8} {p : Nat} {r : Rs} (h1 : p < r.2.1) (h2 : r.2.1 ≤ s.length) : Goes s .ahead p (closeD s r) := by
 unfold closeD
 split
 ·split
  ·rename_i h
   have := nx_lt (s := s) (p := r.2.1) (by rw [h]; decide)
   exact ⟨by simp; omega, by simp; omega, fun _ => by simp; omega⟩
  ·exact ⟨by simp; omega, by simp; omega, fun h => by simp at h⟩
 ·rename_i h; exact ⟨by omega, h2, fun h' => absurd h' h⟩
theorem goes_add {s : List UInt8} {o : Int} {p p' : Nat} {r : Rs} (h : Goes s .ahead p' r) (hp : p ≤ p') : Goes s .ahead p (addD o r) := by
 have h1 := h.ge
 unfold addD
 split
 ·rename_i hr; have := h.gt hr; simp only at this; exact ⟨by simp; omega, h.le, fun _ => by simp; omega⟩
 ·rename_i hr; exact ⟨by omega, h.le, fun h' => absurd h' hr⟩
theorem goes_state {s : List UInt8} {p : Nat} {cs : List CM} (h : p + 3 ≤ s.length) : Goes s .ahead p (stateD s p cs) := by
 unfold stateD
 split
 ·exact goes_close (by simp; omega) (word_le s _ h)
 ·exact ⟨by simp, by simpa using h, fun h => by simp at h⟩
theorem goes_num {s : List UInt8} {p : Nat} {cs : List CM} (h : p < s.length) (hd : isD (nx s p) = true) : Goes s .ahead p (numD s p cs) := by
 have h1 := num_le s p h
 have h2 := num_pos h hd
 unfold numD
 split
 ·exact ⟨by simp, by simp; omega, fun h => by simp at h⟩
 ·split
  ·rename_i h105
   have := nx_lt (s := s) (p := p + (numT s p).length) (by rw [h105]; decide)
   split
   ·exact ⟨by simp; omega, by simp; omega, fun _ => by simp; omega⟩
   ·exact ⟨by simp, by simp; omega, fun h => by simp at h⟩
  ·exact ⟨by simp, by simpa using h1, fun _ => by simp; omega⟩
theorem goes_word {s : List UInt8} {p : Nat} {cs : List CM} {inner : Rs} (hp : p ≤ s.length) (hi : p + 3 ≤ s.length → p + 3 ≤ inner.2.1 ∧ inner.2.1 ≤ s.length) : Goes s .ahead p (wordD s p cs (wordP s p) inner) := by
 have hw := word_le s p hp
 unfold wordD
 split
 ·rename_i e; rw [e] at hw; simp [wTrue] at hw; exact ⟨by simp, by simpa using hw, fun _ => by simp⟩
 ·split
  ·rename_i e; rw [e] at hw; simp [wFalse] at hw; exact ⟨by simp, by simpa using hw, fun _ => by simp⟩
  ·split
   ·rename_i hn
    have : 0 < (wordP s p).length := by
     rcases Nat.eq_zero_or_pos (wordP s p).length with h0 | h0
     ·rw [List.eq_nil_of_length_eq_zero h0] at hn; simp [nameB] at hn
     ·exact h0
    exact ⟨by simp, by simpa using hw, fun _ => by simp; omega⟩
   ·have hf : Goes s .ahead p (false, p, cs) := ⟨by simp, by simpa using hp, fun h => by simp at h⟩
    split
    ·exact hf
    ·rename_i h40
     have h3 := nx_lt (s := s) (p := p + (wordP s p).length) (by rw [Decidable.not_not.1 h40]; decide)
     split
     ·rename_i e; rw [e] at h3; simp [wIn] at h3; exact goes_state (by omega)
     ·split
      ·rename_i e; rw [e] at h3; simp [wRe] at h3
       have := hi (by omega)
       exact goes_add (goes_close (p := p) (by omega) this.2) (Nat.le_refl _)
      ·split
       ·rename_i e; rw [e] at h3; simp [wIm] at h3
        have := hi (by omega)
        exact goes_add (goes_close (p := p) (by omega) this.2) (Nat.le_refl _)
       ·exact hf
theorem goes (s : List UInt8) : ∀ (n : Nat) (q : Q) (p : Nat) (cs : List CM), p ≤ s.length → Goes s q p (D s n q p cs) := by
 intro n
 induction n with
 | zero => intro q p cs hp; exact ⟨by simpa [D] using hp, by simp [D], fun h => by simp [D] at h⟩
 | succ n ih =>
  intro q p cs hp
  cases q with
  | joins k =>
   rw [D_joins]
   split
   ·exact ⟨(ih .ahead p cs hp).ge, (ih .ahead p cs hp).le, fun h => (ih .ahead p cs hp).gt h⟩
   ·have h1 := ih (.joins (k + 1)) p cs hp
    split
    ·rename_i hr
     have h2 := ih (.loop k false) _ (D s n (.joins (k + 1)) p cs).2.2 h1.le
     have h3 : p < (D s n (.joins (k + 1)) p cs).2.1 := h1.gt hr
     exact ⟨by have := h2.ge; omega, h2.le, fun _ => by have := h2.ge; show p < _; omega⟩
    ·rename_i hr; exact ⟨h1.ge, h1.le, fun h => absurd h hr⟩
  | loop k cmp =>
   rw [D_loop]
   split
   ·exact ⟨by simp, by simpa using hp, fun _ => trivial⟩
   ·split
    ·exact ⟨by simp, by simpa using hp, fun _ => trivial⟩
    ·rename_i hk _
     by_cases h0 : (opAt s p).2.2 = 0
     ·have hz : (opAt s p).2.1 = 0 := congrArg (·.2.1) (opOf_none h0)
      have h1 := ih (.joins (k + 1)) (p + (opAt s p).2.1) cs (by omega)
      split
      ·have h2 := ih (.loop k (k == 3)) _ ((D s n (.joins (k + 1)) (p + (opAt s p).2.1) cs).2.2 ++ [opC (opAt s p).1]) h1.le
       exact ⟨by have := h1.ge; have := h2.ge; omega, h2.le, fun _ => trivial⟩
      ·exact ⟨by have := h1.ge; omega, h1.le, fun _ => trivial⟩
     ·have ho := opAt_some h0
      have h1 := ih (.joins (k + 1)) (p + (opAt s p).2.1) cs ho.2
      split
      ·have h2 := ih (.loop k (k == 3)) _ ((D s n (.joins (k + 1)) (p + (opAt s p).2.1) cs).2.2 ++ [opC (opAt s p).1]) h1.le
       exact ⟨by have := h1.ge; have := h2.ge; omega, h2.le, fun _ => trivial⟩
      ·exact ⟨by have := h1.ge; omega, h1.le, fun _ => trivial⟩
  | ahead =>
   rw [D_ahead]
   split
   ·rename_i h
    have := nx_lt (s := s) (p := p) (by rw [h]; decide)
    exact goes_add (ih .ahead (p + 1) cs (by omega)) (by omega)
   ·split
    ·rename_i h
     have := nx_lt (s := s) (p := p) (by rw [h]; decide)
     exact goes_add (ih .ahead (p + 1) cs (by omega)) (by omega)
    ·split
     ·rename_i h
      have := nx_lt (s := s) (p := p) (by rw [h]; decide)
      have h1 := ih (.joins 1) (p + 1) cs (by omega)
      exact goes_close (by have := h1.ge; omega) h1.le
     ·split
      ·rename_i hd
       have := nx_lt (s := s) (p := p) (by intro e; rw [e] at hd; exact absurd hd (by decide))
       exact goes_num this hd
      ·exact goes_word hp (fun h3 => ⟨(ih (.joins 1) (p + 3) cs h3).ge, (ih (.joins 1) (p + 3) cs h3).le⟩)
end Go.Proofs.YtkjkcgbmaojpiaaGreatDoor
namespace Go.Proofs.YtkjkcgbmaojpiaaGreatDoor
open Go.RowKit
def bstr (l : List UInt8) : Value := .string ⟨l.toArray⟩
theorem bstr_of (s : ByteArray) : bstr s.data.toList = .string s := rfl
def cellV (c : CM) : List Value := [.int .i64 c.op, .int .i64 c.a, bstr c.nm]
def flat (cs : List CM) : List Value := cs.flatMap cellV
theorem flat_append (a b : List CM) : flat (a ++ b) = flat a ++ flat b := by simp [flat]
theorem flat_one (c : CM) : flat [c] = cellV c := by simp [flat]
theorem flat_at {cs : List CM} {i : Nat} (h : i < cs.length) : (flat cs)[i * 3]? = some (.int .i64 cs[i].op) ∧ (flat cs)[i * 3 + 1]? = some (.int .i64 cs[i].a) ∧ (flat cs)[i * 3 + 2]? = some (bstr cs[i].nm) := by
 induction cs generalizing i with
 | nil => simp at h
 | cons c r ih =>
  have e : flat (c :: r) = .int .i64 c.op :: .int .i64 c.a :: bstr c.nm :: flat r := rfl
  rw [e]
  cases i with
  | zero => exact ⟨rfl, rfl, rfl⟩
  | succ j =>
   have := ih (i := j) (by simpa using h)
   have h1 : (j + 1) * 3 = j * 3 + 3 := by omega
   rw [h1]
   exact this
theorem Tryz.infoCell : (Tryz.prog.info? 144).map (fun i => (i.zero, i.size, i.bytes)) = some (some (.agg #[.int .i64 0, .int .i64 0, .string ByteArray.empty]), 3, 32) := by kernel_rfl
structure Keeps (g : Nat) (wa w : World) : Prop where
 size : wa.heap.size ≤ w.heap.size
 same : ∀ b, b < wa.heap.size → b ≠ g → (∀ cs fr, wa.heap[b]? ≠ some (.cells cs 144 fr)) → w.heap[b]? = wa.heap[b]?
theorem Keeps.refl (g : Nat) (w : World) : Keeps g w w := ⟨Nat.le_refl _, fun _ _ _ _ => rfl⟩
theorem Keeps.trans {g : Nat} {a b c : World} (h : Keeps g a b) (k : Keeps g b c) : Keeps g a c :=
 ⟨Nat.le_trans h.size k.size, fun i hi hg hn => by
  have e := h.same i hi hg hn
  rw [k.same i (Nat.lt_of_lt_of_le hi h.size) hg (fun cs fr => by rw [e]; exact hn cs fr), e]⟩
theorem Keeps.below {g : Nat} {a b c : World} (h : Keeps g a b) (k : Below b.heap.size b c) : Keeps g a c :=
 h.trans ⟨k.size, fun i hi _ _ => k.block i hi⟩
theorem Keeps.setCell {g : Nat} {a b : World} (h : Keeps g a b) (j : Nat) (u : Value) : Keeps g a (b.setCell ⟨g, j, none⟩ u) :=
 h.trans ⟨by simp, fun i _ hg _ => heap_setCell_other b _ i u hg⟩
theorem Keeps.grown {g : Nat} {a b c : World} {base n : Nat} {v : Value} {xs : List Value} (h : Keeps g a b) (hown : b.ownsRow base 144 3 v n xs) (k : b.grownBy c v.ownBlock) : Keeps g a c :=
 h.trans ⟨k.size, fun i hi _ hn => k.block i hi (fun e => by
  rcases hown.2 with ⟨rfl, _⟩ | ⟨g', cap, cur, rfl, _, hh, _⟩
  ·simp [Value.ownBlock] at e
  ·have e : i = g' := by simpa [Value.ownBlock] using e
   subst e
   exact hn _ _ hh)⟩
structure St (w0 wa : World) (g : Nat) (s : ByteArray) (p : Nat) (cs : List CM) (w : World) : Prop where
 box : ∃ v, w.heap[g]? = some (.cells #[.string s, .int .i64 p, v] 157 (0, 0)) ∧ w.ownsRow w0.heap.size 144 3 v cs.length (flat cs)
 ge : w0.heap.size ≤ g
 below : Below w0.heap.size w0 w
 keep : Keeps g wa w
section
variable {w0 wa w w1 w2 : World} {g : Nat} {s : ByteArray} {p p' : Nat} {cs cs' : List CM}
theorem grown_of_below {w w' : World} (h : Below w.heap.size w w') (row : Option Nat) : w.grownBy w' row := ⟨h.os, h.tape, h.output, h.size, fun k hk _ => h.block k hk⟩
theorem own_below {base : Nat} {e : TypeId} {size n : Nat} {v : Value} {xs : List Value} (h : w.ownsRow base e size v n xs) (hb : Below w.heap.size w w1) : w1.ownsRow base e size v n xs :=
 h.kept (grown_of_below hb none) (by cases hv : v.ownBlock with
  | none => exact Or.inl rfl
  | some k => exact Or.inr (by simp))
theorem St.lt (h : St w0 wa g s p cs w) : g < w.heap.size := by
 obtain ⟨v, hb, _⟩ := h.box
 exact lt_of_block hb
theorem St.size (h : St w0 wa g s p cs w) : w0.heap.size ≤ w.heap.size := h.below.size
theorem St.to_below (h : St w0 wa g s p cs w) (hb : Below w.heap.size w w1) : St w0 wa g s p cs w1 := by
 obtain ⟨v, hbox, hown⟩ := h.box
 exact ⟨⟨v, (hb.block g h.lt).trans hbox, own_below hown hb⟩, h.ge, h.below.trans (hb.mono h.size), h.keep.below hb⟩
theorem St.drewN (h : St w0 wa g s p cs w) (n : Nat) : St w0 wa g s p cs (w.drewN n) := by
 obtain ⟨v, hbox, hown⟩ := h.box
 exact ⟨⟨v, hbox, hown⟩, h.ge, ⟨h.below.os, h.below.tape, h.below.output, h.below.size, h.below.block⟩, ⟨h.keep.size, h.keep.same⟩⟩
theorem St.alloc (h : St w0 wa g s p cs w) (o : Obj) : St w0 wa g s p cs (w.alloc o) := h.to_below ((Below.refl _ _).alloc (Nat.le_refl _) o)
theorem own_ne {v : Value} {n : Nat} {xs : List Value} {o : Array Value} (hown : w.ownsRow w0.heap.size 144 3 v n xs) (hbox : w.heap[g]? = some (.cells o 157 (0, 0))) : v.ownBlock ≠ some g := by
 rcases hown.2 with ⟨rfl, _⟩ | ⟨g', cap, cur, rfl, _, hh, _⟩
 ·simp [Value.ownBlock]
 ·intro e
  have e : g' = g := by simpa [Value.ownBlock] using e
  subst e
  rw [hbox] at hh
  have := Option.some.inj hh
  simp at this
theorem St.setAt (h : St w0 wa g s p cs w) (q : Int) (hq : q = (p' : Int)) : St w0 wa g s p' cs (w.setCell ⟨g, 1, none⟩ (.int .i64 q)) := by
 subst hq
 obtain ⟨v, hbox, hown⟩ := h.box
 refine ⟨⟨v, ?_, ownsRow_setCell_other hown (own_ne hown hbox) _⟩, h.ge, h.below.setCell h.ge _, h.keep.setCell _ _⟩
 rw [heap_setCell_same w g 1 _ _ _ hbox]; rfl
theorem St.push {v v' : Value} {xs : List Value} (h : St w0 wa g s p cs w) (hbox : w.heap[g]? = some (.cells #[.string s, .int .i64 p, v] 157 (0, 0))) (hown0 : w.ownsRow w0.heap.size 144 3 v cs.length xs)
  (hb : Below w.heap.size w w1) (hown : w2.ownsRow w0.heap.size 144 3 v' cs'.length (flat cs')) (hg : w1.grownBy w2 v.ownBlock) : St w0 wa g s p cs' (w2.setCell ⟨g, 2, none⟩ v') := by
 have h1 := h.to_below hb
 have hne := own_ne hown0 hbox
 have hbox1 : w1.heap[g]? = some (.cells #[.string s, .int .i64 p, v] 157 (0, 0)) := (hb.block g h.lt).trans hbox
 have hbox2 : w2.heap[g]? = some (.cells #[.string s, .int .i64 p, v] 157 (0, 0)) := (hg.block g h1.lt (fun e => hne e.symm)).trans hbox1
 have hown1 := own_below hown0 hb
 refine ⟨⟨v', ?_, ownsRow_setCell_other hown (own_ne hown hbox2) _⟩, h.ge, ?_, (h1.keep.grown hown1 hg).setCell _ _⟩
 ·rw [heap_setCell_same w2 g 2 _ _ _ hbox2]; rfl
 ·exact (h1.below.grown hg h1.size (fun k hk => (hown0.lt k hk).1)).setCell h.ge _
theorem St.re {wb : World} (h : St w0 wb g s p cs w) (hk : Keeps g wa wb) : St w0 wa g s p cs w := ⟨h.box, h.ge, h.below, hk.trans h.keep⟩
theorem St.here (h : St w0 wa g s p cs w) : St w0 w g s p cs w := ⟨h.box, h.ge, h.below, Keeps.refl _ _⟩
theorem St.at_ (h : St w0 wa g s p cs w) : ∃ v, (w.cell? ⟨g, 0, none⟩ = some (.string s) ∧ w.cell? ⟨g, 1, none⟩ = some (.int .i64 p) ∧ w.cell? ⟨g, 2, none⟩ = some v ∧ w.frozen? ⟨g, 1, none⟩ = false ∧ w.frozen? ⟨g, 2, none⟩ = false) ∧
  w.heap[g]? = some (.cells #[.string s, .int .i64 p, v] 157 (0, 0)) ∧ w.ownsRow w0.heap.size 144 3 v cs.length (flat cs) := by
 obtain ⟨v, hbox, hown⟩ := h.box
 exact ⟨v, ⟨(cell_of_row w g 0 _ _ _ hbox).trans rfl, (cell_of_row w g 1 _ _ _ hbox).trans rfl, (cell_of_row w g 2 _ _ _ hbox).trans rfl, frozen_of_row w g 1 _ _ hbox, frozen_of_row w g 2 _ _ hbox⟩, hbox, hown⟩
end
def rp (g : Nat) : Value := .pointer (some ⟨g, 0, none⟩)
theorem lst_at (s : ByteArray) (p : Nat) (h : p < s.size) : nx s.data.toList p = s[p] := by
 have hl : s.data.toList.length = s.size := (Lib.size_eq s).symm
 rw [nx_at (by omega)]; simp; rfl
theorem next_any {w0 wa w : World} {g : Nat} {s : ByteArray} {p : Nat} {cs : List CM} (h : St w0 wa g s p cs w) (hp : p ≤ s.size) :
  Calls Tryz.prog 196 #[rp g] w fun e w' => e = .returned (.int .u8 (nx s.data.toList p).toNat) ∧ ∃ n, w' = w.drewN n := by
 have hl : s.data.toList.length = s.size := (Lib.size_eq s).symm
 obtain ⟨v, ⟨c0, c1, c2, f1, f2⟩, hbox, hown⟩ := h.at_
 clear hbox hown h
 unfold rp
 by_cases he : p = s.size
 ·subst he
  rw [nx_end (by omega)]
  go_enter Tryz.func196, Tryz.ntmps196
  go_wp2
  go_quiet (fail)
  go_wp2
  go_ret
  exact ⟨rfl, nq, rfl⟩
 ·have hlt : p < s.size := by omega
  rw [lst_at s p hlt]
  have hne : ((p : Int) == (s.size : Int)) = false := beq_eq_false_iff_ne.2 (by omega)
  go_enter Tryz.func196, Tryz.ntmps196
  go_wp2
  go_quiet (fail)
  go_wp2
  go_quiet (fail)
  go_wp2
  go_ret
  exact ⟨rfl, _, World.drewN_drewN _ _ _⟩
end Go.Proofs.YtkjkcgbmaojpiaaGreatDoor
namespace Go.Proofs.YtkjkcgbmaojpiaaGreatDoor
open Go.RowKit
theorem one_wide (w1 : World) (x y z : Value) (t : TypeId) : ∀ (j : Nat) (u : Value), [x, y, z][j]? = some u → (w1.alloc (.cells #[x, y, z] t)).cell? ((⟨w1.heap.size, 0, none⟩ : Addr).add j) = some u := by
 intro j u hj
 match j, hj with
 | 0, hj => simp at hj; subst hj; simp [Addr.add]
 | 1, hj => simp at hj; subst hj; simp [Addr.add]
 | 2, hj => simp at hj; subst hj; simp [Addr.add]
 | j + 3, hj => simp at hj
theorem one_vals (c : CM) : ∀ u ∈ cellV c, u.oneCell' = true := by
 intro u hu
 simp [cellV] at hu
 rcases hu with rfl | rfl | rfl <;> rfl
theorem cell_row {w : World} {b : Nat} {c : CM} {t : TypeId} (h : w.heap[b]? = some (.cells #[.int .i64 c.op, .int .i64 c.a, bstr c.nm] t (0, 0))) : w.cell? ⟨b, 0, none⟩ = some (.int .i64 c.op) ∧ w.cell? ⟨b, 1, none⟩ = some (.int .i64 c.a) ∧ w.cell? ⟨b, 2, none⟩ = some (bstr c.nm) :=
 ⟨(cell_of_row w b 0 _ _ _ h).trans rfl, (cell_of_row w b 1 _ _ _ h).trans rfl, (cell_of_row w b 2 _ _ _ h).trans rfl⟩
theorem St.moved {w0 wa w : World} {g : Nat} {s : ByteArray} {p : Nat} {cs : List CM} (h : St w0 wa g s p cs w) (q : Int) (p' : Nat) (hq : q = (p' : Int)) (o : Array Value) (t : TypeId) :
  St w0 wa g s p' cs ((w.setCell ⟨g, 1, none⟩ (.int .i64 q)).alloc (.cells o t)) ∧ ((w.setCell ⟨g, 1, none⟩ (.int .i64 q)).alloc (.cells o t)).heap[w.heap.size]? = some (.cells o t (0, 0)) := by
 refine ⟨(h.setAt _ hq).alloc _, ?_⟩
 have := heap_alloc_new (w.setCell ⟨g, 1, none⟩ (.int .i64 q)) (.cells o t)
 simpa using this
set_option maxRecDepth 100000 in
set_option maxHeartbeats 3200000 in
theorem take_any {w0 wa w : World} {g : Nat} {s : ByteArray} {p : Nat} {cs : List CM} (h : St w0 wa g s p cs w) (wd : ByteArray) (c : CM) (hp : p + wd.size ≤ s.size) (hs : s.size ≤ 600) (hc : cs.length ≤ 600) :
  Calls Tryz.prog 225 #[rp g, .string wd, .agg #[.int .i64 c.op, .int .i64 c.a, bstr c.nm]] w fun e w' => e = .returned (.bool true) ∧ St w0 wa g s (p + wd.size) (cs ++ [c]) w' := by
 obtain ⟨HS, HB⟩ := h.moved ((p : Int) + (wd.size : Int)) (p + wd.size) (by omega) #[.int .i64 c.op, .int .i64 c.a, bstr c.nm] 144
 have HSH := Lib.hid HS; have HBH := Lib.hid HB; clear HB
 have hg := h.lt
 obtain ⟨v, ⟨c0, c1, c2, f1, f2⟩, hbox, hown⟩ := h.at_
 have hvb : v.ownBlock ≠ some w.heap.size := fun e => by have := (hown.lt _ e).2; omega
 have HVB := Lib.hid hvb
 have HOWN := Lib.hid ((ownsRow_setCell_other hown (own_ne hown hbox) (a := ⟨g, 1, none⟩) (.int .i64 ((p : Int) + (wd.size : Int)))).alloc (.cells #[.int .i64 c.op, .int .i64 c.a, bstr c.nm] 144))
 have HBX : Hid (((w.setCell ⟨g, 1, none⟩ (.int .i64 ((p : Int) + (wd.size : Int)))).alloc (.cells #[.int .i64 c.op, .int .i64 c.a, bstr c.nm] 144)).heap[g]? = some (.cells #[.string s, .int .i64 ((p : Int) + (wd.size : Int)), v] 157 (0, 0))) := by
  exact (Below.heap_alloc _ _ g (by simpa using hg)).trans ((heap_setCell_same w g 1 _ _ _ hbox).trans rfl)
 obtain ⟨i0, hi0, hz0, hz1, hz2⟩ := info_parts Tryz.infoCell
 have HI := Lib.hid hi0; have HZ0 := Lib.hid hz0; have HZ1 := Lib.hid hz1; have HZ2 := Lib.hid hz2
 clear hi0 hz0 hz1 hz2 hbox hown hvb HS
 have hsz : w.heap.size ≠ g := by omega
 unfold rp
 go_enter Tryz.func225, Tryz.ntmps225
 go_wp2
 generalize hW : (w.setCell ⟨g, 1, none⟩ (.int .i64 ((p : Int) + (wd.size : Int)))).alloc (.cells #[.int .i64 c.op, .int .i64 c.a, bstr c.nm] 144) = W at HSH HBH HOWN HBX ⊢
 generalize hb : w.heap.size = b at *
 clear hW h c0 c1 c2 f1 f2
 have hgl := HSH.out.lt
 have hbl := lt_of_block HBH.out
 have hne := own_ne HOWN.out HBX.out
 have hWs := HSH.out.size
 have c2 := (cell_of_row W g 2 _ _ _ HBX.out).trans (show _ = some v from rfl)
 have f2 := frozen_of_row W g 2 _ _ HBX.out
 obtain ⟨b0, b1, b2⟩ := cell_row HBH.out
 have HNE := Lib.hid hne; clear hne
 have kf : (W.alloc (Obj.cells #[.int .i64 c.op, .int .i64 c.a, bstr c.nm] 144)).drew.frozen? ⟨g, 2, none⟩ = false := (World.frozen?_alloc_past _ g 2 hgl).trans f2
 have kc : (W.alloc (Obj.cells #[.int .i64 c.op, .int .i64 c.a, bstr c.nm] 144)).drew.cell? ⟨g, 2, none⟩ = some v := (World.cell?_alloc_lt W _ _ hgl).trans c2
 have KC := Lib.hid kc; have KF := Lib.hid kf; clear kc kf
 go_region_law ((refine step_append_lies _ (by rfl) _ _ _ (by rfl) w0.heap.size 144 i0 _ 3 32 Tryz.underlying40 HI.out HZ0.out HZ1.out HZ2.out rfl (by omega) v cs.length (flat cs) (by rfl) ((HOWN.out.alloc _).drew) ⟨W.heap.size, 0, none⟩ 1 1 (cellV c) (by rfl) (by rfl) (World.news_of_block (cs := #[.int .i64 c.op, .int .i64 c.a, bstr c.nm]) (t := 144) (fr := (0, 0)) (heap_alloc_new W _)) (one_vals c) (by omega) (by unfold maxLen; omega) (by omega) (by simp; omega) (W.heap.size + 1) (by simp) ?_; intro gg cap w1 hown1 hgrow hat hlt; have k2 := (hgrow.cell_far ⟨g, 2, none⟩ (by simp; omega) (Ne.symm HNE.out)).trans KC.out; have kf2 := (hgrow.frozen_far ⟨g, 2, none⟩ (by simp; omega) (Ne.symm HNE.out)).trans KF.out))
 all_goals
  have HH : Hid (St w0 wa g s (p + wd.size) (cs ++ [c]) (w1.setCell ⟨g, 2, none⟩ (.slice (some ⟨gg, 0, none⟩) (cs.length + 1) cap))) := by
   have hx := HBX.out
   rw [show (p : Int) + (wd.size : Int) = ((p + wd.size : Nat) : Int) by omega] at hx
   refine HSH.out.push hx HOWN.out (w1 := (W.alloc (Obj.cells #[.int .i64 c.op, .int .i64 c.a, bstr c.nm] 144)).drew) ((Below.refl _ _).alloc (Nat.le_refl _) _).drew ?_ hgrow
   rw [flat_append, flat_one, List.length_append]
   exact hown1
  clear hown1 hgrow hat hlt k2 kf2
  go_wp2
  go_ret
  exact ⟨rfl, HH.out⟩
end Go.Proofs.YtkjkcgbmaojpiaaGreatDoor
namespace Go.Proofs.YtkjkcgbmaojpiaaGreatDoor
open Go.RowKit
theorem exDigit_any (c : UInt8) (w : World) :
  Calls Tryz.prog 222 #[.int .u8 c.toNat] w fun e w' => e = .returned (.bool (isD c)) ∧ w = w' := by
 by_cases h1 : (48 : Int) ≤ c.toNat
 ·by_cases h2 : (c.toNat : Int) ≤ 57
  ·have hL : isD c = true := decide_eq_true ⟨by omega, by omega⟩
   rw [hL]; clear hL
   go_enter Tryz.func222, Tryz.ntmps222
   go_wp2
   go_ret
   exact ⟨rfl, rfl⟩
  ·have hL : isD c = false := decide_eq_false (fun h => h2 (by omega))
   rw [hL]; clear hL
   go_enter Tryz.func222, Tryz.ntmps222
   go_wp2
   go_ret
   exact ⟨rfl, rfl⟩
 ·have hL : isD c = false := decide_eq_false (fun h => h1 (by omega))
  rw [hL]; clear hL
  go_enter Tryz.func222, Tryz.ntmps222
  go_wp2
  go_ret
  exact ⟨rfl, rfl⟩
theorem okB_cases (c : UInt8) : (okB c = true ∧ ((97 ≤ (c.toNat : Int) ∧ (c.toNat : Int) ≤ 122) ∨ (¬ (97 ≤ (c.toNat : Int) ∧ (c.toNat : Int) ≤ 122) ∧ isD c = true) ∨ (¬ (97 ≤ (c.toNat : Int) ∧ (c.toNat : Int) ≤ 122) ∧ isD c = false ∧ ((c.toNat : Int) == 95) = true))) ∨
  (okB c = false ∧ ¬ (97 ≤ (c.toNat : Int) ∧ (c.toNat : Int) ≤ 122) ∧ isD c = false ∧ ((c.toNat : Int) == 95) = false) := by
 unfold okB
 have hL : isLB c = decide (97 ≤ (c.toNat : Int) ∧ (c.toNat : Int) ≤ 122) := by
  unfold isLB
  by_cases h : 97 ≤ c.toNat ∧ c.toNat ≤ 122
  ·rw [decide_eq_true h, decide_eq_true (by omega)]
  ·rw [decide_eq_false h, decide_eq_false (by omega)]
 by_cases h : 97 ≤ (c.toNat : Int) ∧ (c.toNat : Int) ≤ 122
 ·rw [hL, decide_eq_true h]; exact Or.inl ⟨rfl, Or.inl h⟩
 ·rw [hL, decide_eq_false h]
  cases hd : isD c
  ·by_cases h95 : c = 95
   ·subst h95; exact Or.inl ⟨rfl, Or.inr (Or.inr ⟨h, rfl, rfl⟩)⟩
   ·have : (c == 95) = false := beq_eq_false_iff_ne.2 h95
    rw [this]
    exact Or.inr ⟨rfl, h, rfl, byte_not (k := 95) (by decide) h95⟩
  ·exact Or.inl ⟨rfl, Or.inr (Or.inl ⟨h, rfl⟩)⟩
theorem exSign_any (c : UInt8) (w : World) :
  Calls Tryz.prog 241 #[.int .u8 c.toNat] w fun e w' => e = .returned (.bool (okB c)) ∧ w = w' := by
 rcases okB_cases c with ⟨hk, ⟨h1, h2⟩ | ⟨h1, h2⟩ | ⟨h1, h2, h3⟩⟩ | ⟨hk, h1, h2, h3⟩
 ·rw [hk]; clear hk
  go_enter Tryz.func241, Tryz.ntmps241
  go_wp2
  go_ret
  exact ⟨rfl, rfl⟩
 all_goals
  rw [hk]; clear hk
  by_cases ha : (97 : Int) ≤ c.toNat
  ·have hb : ¬ (c.toNat : Int) ≤ 122 := fun h => h1 ⟨ha, h⟩
   clear h1
   go_enter Tryz.func241, Tryz.ntmps241
   go_wp2_with (go_at_call 222; refine (exDigit_any _ _).mono ?_; rintro e w' ⟨rfl, rfl⟩)
   go_ret
   exact ⟨rfl, rfl⟩
  ·clear h1
   go_enter Tryz.func241, Tryz.ntmps241
   go_wp2_with (go_at_call 222; refine (exDigit_any _ _).mono ?_; rintro e w' ⟨rfl, rfl⟩)
   go_ret
   exact ⟨rfl, rfl⟩
def RPost (w0 wa : World) (g : Nat) (s : ByteArray) (r : Rs) (e : Ending) (w' : World) : Prop := e = .returned (.bool r.1) ∧ St w0 wa g s r.2.1 r.2.2 w'
theorem closed_any {w0 wa w : World} {g : Nat} {s : ByteArray} {p : Nat} {cs : List CM} (h : St w0 wa g s p cs w) (hp : p ≤ s.size) (hs : s.size ≤ 600) :
  Calls Tryz.prog 240 #[rp g] w (RPost w0 wa g s (closeD s.data.toList (true, p, cs))) := by
 have hnx := next_any h hp
 obtain ⟨v, ⟨c0, c1, c2, f1, f2⟩, hbox, hown⟩ := h.at_
 clear hbox hown
 by_cases h41 : nx s.data.toList p = 41
 ·have HR : Hid (∀ n, RPost w0 wa g s (closeD s.data.toList (true, p, cs)) (.returned (.bool true)) ((w.drewN n).setCell ⟨g, 1, none⟩ (.int .i64 ((p : Int) + 1)))) := by
   intro n
   unfold closeD
   rw [if_pos rfl, if_pos h41]
   exact ⟨rfl, (h.drewN n).setAt _ (by simp)⟩
  have t41 : (((nx s.data.toList p).toNat : Int) != 41) = false := by simp [h41]
  have HN := Lib.hid hnx; clear h h41 hnx
  unfold rp at HN ⊢
  go_enter Tryz.func240, Tryz.ntmps240
  go_wp2_with (go_at_call 196; refine HN.out.mono ?_; rintro e w' ⟨rfl, n, rfl⟩)
  go_ret
  exact HR.out _
 ·have HR : Hid (∀ n, RPost w0 wa g s (closeD s.data.toList (true, p, cs)) (.returned (.bool false)) (w.drewN n)) := by
   intro n
   unfold closeD
   rw [if_pos rfl, if_neg h41]
   exact ⟨rfl, h.drewN n⟩
  have t41 : (((nx s.data.toList p).toNat : Int) != 41) = true := by
   have : (((nx s.data.toList p).toNat : Int) == 41) = false := byte_not (k := 41) (by decide) h41
   rw [bne, this]; rfl
  have HN := Lib.hid hnx; clear h h41 hnx
  unfold rp at HN ⊢
  go_enter Tryz.func240, Tryz.ntmps240
  go_wp2_with (go_at_call 196; refine HN.out.mono ?_; rintro e w' ⟨rfl, n, rfl⟩)
  go_ret
  exact HR.out _
def Wd (l : List UInt8) (p k : Nat) : Prop := p ≤ k ∧ k ≤ l.length ∧ ((l.drop p).take (k - p)).all okB = true
theorem Wd.start {l : List UInt8} {p : Nat} (h : p ≤ l.length) : Wd l p p := ⟨Nat.le_refl _, h, by simp⟩
theorem Wd.step {l : List UInt8} {p k : Nat} (h : Wd l p k) (hk : k < l.length) (ho : okB l[k] = true) : Wd l p (k + 1) := by
 refine ⟨by have := h.1; omega, hk, ?_⟩
 rw [take_at l p k h.1 hk, List.all_append, h.2.2]
 simp [ho]
theorem takeWhile_take {f : UInt8 → Bool} : ∀ (l : List UInt8) (n : Nat), n ≤ l.length → (l.take n).all f = true → (∀ h : n < l.length, f l[n] = false) → l.takeWhile f = l.take n
 | [], n, _, _, _ => by simp
 | c :: r, 0, _, _, h => by
  have : f c = false := h (by simp)
  simp [this]
 | c :: r, n + 1, hn, ha, h => by
  simp only [List.take_succ_cons, List.all_cons, Bool.and_eq_true] at ha
  rw [List.takeWhile_cons_of_pos ha.1, List.take_succ_cons, takeWhile_take r n (by simpa using hn) ha.2 (fun hl => h (Nat.succ_lt_succ hl))]
theorem Wd.stop {l : List UInt8} {p k : Nat} (h : Wd l p k) (hs : k = l.length ∨ ∃ hk : k < l.length, okB l[k] = false) : wordP l p = (l.drop p).take (k - p) := by
 have h1 := h.1; have h2 := h.2.1
 refine takeWhile_take _ _ (by rw [List.length_drop]; omega) h.2.2 (fun hl => ?_)
 rw [List.length_drop] at hl
 rw [List.getElem_drop]
 rcases hs with e | ⟨hk, hf⟩
 ·omega
 ·rw [← hf]; congr 2; omega
theorem word_any {w0 wa w : World} {g : Nat} {s : ByteArray} {p : Nat} {cs : List CM} (h : St w0 wa g s p cs w) (hp : p ≤ s.size) (hs : s.size ≤ 600) :
  Calls Tryz.prog 224 #[rp g] w fun e w' => e = .returned (bstr (wordP s.data.toList p)) ∧ ∃ n, w' = w.drewN n := by
 have hl : s.data.toList.length = s.size := (Lib.size_eq s).symm
 obtain ⟨v, ⟨c0, c1, c2, f1, f2⟩, hbox, hown⟩ := h.at_
 clear hbox hown h
 have hfin : ∀ k, Wd s.data.toList p k → (k = s.size ∨ ∃ hk : k < s.size, okB s[k] = false) → Ending.returned (.string (s.extract p k)) = .returned (bstr (wordP s.data.toList p)) := by
  intro k hw hk
  rw [hw.stop (hk.imp (fun e => by omega) (fun ⟨h1, h2⟩ => ⟨by omega, by rw [at_list s k h1]; exact h2⟩))]
  unfold bstr
  congr 2
  apply ByteArray.ext
  apply Array.toList_inj.1
  rw [Lib.extract_data]
 have hstep : ∀ k (hk : k < s.size), Wd s.data.toList p k → okB s[k] = true → Wd s.data.toList p (k + 1) := by
  intro k hk hw ho
  exact hw.step (by omega) (by rw [at_list s k hk]; exact ho)
 have HF := Lib.hid hfin; have HS := Lib.hid hstep; clear hfin hstep
 have HW := Lib.hid (Wd.start (l := s.data.toList) (p := p) (by omega)); clear hl
 unfold rp
 go_enter Tryz.func224, Tryz.ntmps224
 go_wp2
 go_loop [3] (fun i => ∃ k : Nat, p ≤ k ∧ k ≤ s.size ∧ Hid (Wd s.data.toList p k) ∧ i = .int .i64 k) (fun i => s.size - (intOf i).toNat)
 case atStart => exact ⟨p, Nat.le_refl _, hp, HW, rfl⟩
 case round =>
  obtain ⟨k, hpk, hk, HK, rfl⟩ := hrel
  by_cases hlt : k < s.size
  ·cases ho : okB s[k]
   ·have HE := Lib.hid (HF.out k HK.out (Or.inr ⟨hlt, ho⟩))
    go_wp2_with (go_at_call 241; refine (exSign_any _ _).mono ?_; rintro e w' ⟨rfl, rfl⟩)
    go_quiet (fail)
    go_wp2
    go_ret
    exact ⟨HE.out, _, rfl⟩
   ·have HE := Lib.hid (HS.out k hlt HK.out ho)
    go_wp2_with (go_at_call 241; refine (exSign_any _ _).mono ?_; rintro e w' ⟨rfl, rfl⟩)
    go_round
    case rel => exact ⟨k + 1, by omega, hlt, HE, by go_num⟩
    case measure => simp [intOf]; omega
  ·have HE := Lib.hid (HF.out k HK.out (Or.inl (by omega)))
   go_wp2_with (go_at_call 241; refine (exSign_any _ _).mono ?_; rintro e w' ⟨rfl, rfl⟩)
   go_quiet (fail)
   go_wp2
   go_ret
   exact ⟨HE.out, _, rfl⟩
end Go.Proofs.YtkjkcgbmaojpiaaGreatDoor
namespace Go.Proofs
open Go.Shelf
def Tryz.laysM316_ren : Go.Shelf.Ren := ⟨fun | 316 => 154 | n => n, fun | 9 => 9 | 3 => 3 | 4 => 4 | 37 => 184 | 0 => 0 | 127 => 185 | 5 => 5 | n => n, fun | n => n⟩
theorem Tryz.laysM316 : Go.Proofs.LaysM.n316 Tryz.prog Tryz.laysM316_ren := {
 mixed := by kernel_rfl
 f316 := Tryz.func154.trans (congrArg some (by kernel_rfl))
 t0 := Tryz.underlying0
 a0 := Tryz.isAgg0
 z0 := Tryz.sizeOf0
 v0 := Tryz.zeroValue0
 t3 := Tryz.underlying3
 a3 := Tryz.isAgg3
 z3 := Tryz.sizeOf3
 v3 := Tryz.zeroValue3
 t4 := Tryz.underlying4
 a4 := Tryz.isAgg4
 z4 := Tryz.sizeOf4
 v4 := Tryz.zeroValue4
 t9 := Tryz.underlying9
 a9 := Tryz.isAgg9
 z9 := Tryz.sizeOf9
 v9 := Tryz.zeroValue9
 t37 := Tryz.underlying184
 a37 := Tryz.isAgg184
 z37 := Tryz.sizeOf184
 v37 := Tryz.zeroValue184
 t127 := Tryz.underlying185
 a127 := Tryz.isAgg185
 z127 := Tryz.sizeOf185
 v127 := Tryz.zeroValue185
 t5 := Tryz.underlying5
 a5 := Tryz.isAgg5
 z5 := Tryz.sizeOf5
 v5 := Tryz.zeroValue5
 i0 := by kernel_rfl
 i3 := by kernel_rfl
 i4 := by kernel_rfl
 i5 := by kernel_rfl
 i9 := by kernel_rfl
 i37 := by kernel_rfl
 i127 := by kernel_rfl }
open Go.RowKit in
theorem Tryz.stringslite_Clone (s : ByteArray) (w : World) (hlim : s.size ≤ 281474976710656) :
  Calls Tryz.prog 154 #[.string s] w fun e w' => e = .returned (.string s) ∧ Below w.heap.size w w' := Any.stringslite_Clone Tryz.laysM316 s w hlim
def Tryz.lays99_ren : Go.Shelf.Ren := ⟨fun | 99 => 198 | 206 => 185 | n => n, fun | 9 => 9 | 4 => 4 | 3 => 3 | n => n, fun | n => n⟩
theorem Tryz.lays99 : Go.Proofs.Lays.n99 Tryz.prog Tryz.lays99_ren := {
 mixed := by kernel_rfl
 f99 := Tryz.func198.trans (congrArg some (by kernel_rfl))
 f206 := Tryz.func185.trans (congrArg some (by kernel_rfl))
 t3 := Tryz.underlying3
 a3 := Tryz.isAgg3
 z3 := Tryz.sizeOf3
 v3 := Tryz.zeroValue3
 t4 := Tryz.underlying4
 a4 := Tryz.isAgg4
 z4 := Tryz.sizeOf4
 v4 := Tryz.zeroValue4
 t9 := Tryz.underlying9
 a9 := Tryz.isAgg9
 z9 := Tryz.sizeOf9
 v9 := Tryz.zeroValue9 }
open Go.RowKit Go.Lib in
theorem Tryz.strings_HasPrefix (s p : ByteArray) (w : World) :
  Calls Tryz.prog 198 #[.string s, .string p] w fun e w' => e = .returned (.bool (Lib.hasPrefix s.data.toList p.data.toList)) ∧ w' = w := Any.strings_HasPrefix Tryz.lays99 s p w
def Tryz.lays101_ren : Go.Shelf.Ren := ⟨fun | 101 => 147 | 208 => 173 | 206 => 185 | n => n, fun | 9 => 9 | 4 => 4 | 3 => 3 | n => n, fun | n => n⟩
theorem Tryz.lays101 : Go.Proofs.Lays.n101 Tryz.prog Tryz.lays101_ren := {
 mixed := by kernel_rfl
 f101 := Tryz.func147.trans (congrArg some (by kernel_rfl))
 f206 := Tryz.func185.trans (congrArg some (by kernel_rfl))
 f208 := Tryz.func173.trans (congrArg some (by kernel_rfl))
 t3 := Tryz.underlying3
 a3 := Tryz.isAgg3
 z3 := Tryz.sizeOf3
 v3 := Tryz.zeroValue3
 t4 := Tryz.underlying4
 a4 := Tryz.isAgg4
 z4 := Tryz.sizeOf4
 v4 := Tryz.zeroValue4
 t9 := Tryz.underlying9
 a9 := Tryz.isAgg9
 z9 := Tryz.sizeOf9
 v9 := Tryz.zeroValue9 }
open Go.RowKit Go.Lib in
theorem Tryz.strings_TrimPrefix (s p : ByteArray) (w : World) :
  Calls Tryz.prog 147 #[.string s, .string p] w fun e w' => e = .returned (.string ⟨(Lib.trimPrefix s.data.toList p.data.toList).toArray⟩) ∧ w' = w := Any.strings_TrimPrefix Tryz.lays101 s p w
end Go.Proofs
