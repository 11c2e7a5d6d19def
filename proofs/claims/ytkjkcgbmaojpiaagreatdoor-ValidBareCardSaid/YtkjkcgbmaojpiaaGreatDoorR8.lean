/- Own texts, joined: F5, F6, F7, Ox, Oo, Ka. -/
import Derived.Test.YtkjkcgbmaojpiaaGreatDoorR1
import Derived.Test.YtkjkcgbmaojpiaaGreatDoorR2
import Derived.Test.YtkjkcgbmaojpiaaGreatDoorR7
import Derived.Laws.AppendOwnNone
import Derived.ProofKit
import Derived.Deep.Slices
import Derived.Lib.SmallJoins
import Derived.SizedLaws
import Derived.Lib.LaidTab
import Derived.Lib.LaidU8
import Derived.LaidMore
namespace Go.Proofs.YtkjkcgbmaojpiaaGreatDoor
theorem loop_exit {s : List UInt8} {q k : Nat} {b : Bool} {cs : List CM} (hk : 1 ≤ k) (hk5 : k ≤ 5) (hq : q ≤ s.length) (h : (opAt s q).2.2 ≠ k) : E s (.loop k b) q cs = (true, q, cs) := by
 rw [E_loop hk hk5 hq, if_pos h]
theorem up {s : List UInt8} {p q : Nat} {cs cs' : List CM} (hp : p ≤ s.length) (hq : q ≤ s.length) {k : Nat} (_hk : 1 ≤ k) (ho : (opAt s q).2.2 < k) : ∀ d j, k + d = j → j ≤ 6 → E s (.joins j) p cs = (true, q, cs') → E s (.joins k) p cs = (true, q, cs') := by
 intro d
 induction d with
 | zero =>
  intro j hj _ h
  obtain rfl : k = j := by omega
  exact h
 | succ d ih =>
  intro j hj h6 h
  refine ih (k + d) rfl (by omega) ?_
  obtain rfl : j = k + d + 1 := by omega
  rw [E_joins (by omega) (by omega) hp, h, if_pos rfl]
  show E s (.loop (k + d) false) q cs' = _
  exact loop_exit (by omega) (by omega) hq (by omega)
theorem up_ahead {s : List UInt8} {p q : Nat} {cs cs' : List CM} (hp : p ≤ s.length) (hq : q ≤ s.length) {k : Nat} (hk : 1 ≤ k) (h6 : k ≤ 6) (ho : (opAt s q).2.2 < k) (h : E s .ahead p cs = (true, q, cs')) : E s (.joins k) p cs = (true, q, cs') :=
 up hp hq hk ho (6 - k) 6 (by omega) (by omega) ((E_six hp).trans h)
def txt (k : Int) (t : T) : List UInt8 := inP (pcT t).1 (pcT t).2 k
structure U (s : List UInt8) (t : T) : Prop where
 high : ∀ p cs, At s p (pcT t).1 → Fol s (p + (pcT t).1.length) → 6 ≤ (pcT t).2 → E s .ahead p cs = (true, p + (pcT t).1.length, cs ++ post t)
 low : ∀ p cs (k : Nat), At s p (pcT t).1 → Fol s (p + (pcT t).1.length) → (pcT t).2 = (k : Int) → 1 ≤ k → k ≤ 5 → (opAt s (p + (pcT t).1.length)).2.2 ≤ k →
  E s (.joins k) p cs = E s (.loop k (k == 3)) (p + (pcT t).1.length) (cs ++ post t)
theorem strength {t : T} (h : OkT t) : 1 ≤ (pcT t).2 ∧ (pcT t).2 ≤ 7 ∧ ((pcT t).2 ≤ 5 ∨ 6 ≤ (pcT t).2) := by
 cases t with
 | leaf c =>
  have h16 : 1 ≤ c.op ∧ c.op ≤ 6 := by
   have h1 := formed_op h.1
   have ho := h.2
   unfold operN at ho
   split at ho
   ·assumption
   ·split at ho <;> omega
  have hc : c.op = 1 ∨ c.op = 2 ∨ c.op = 3 ∨ c.op = 4 ∨ c.op = 5 ∨ c.op = 6 := by omega
  have : (pcT (.leaf c)).2 = 7 := by
   show (joinP c none0 none0).2 = 7
   unfold joinP
   rcases hc with e | e | e | e | e | e <;> simp [e]
  rw [this]; omega
 | un o t =>
  have hc : o = 7 ∨ o = 8 ∨ o = 9 ∨ o = 10 := by have := h.1; have := h.2.1; omega
  rcases hc with rfl | rfl | rfl | rfl <;> (show 1 ≤ (joinP _ _ _).2 ∧ _ ∧ _; simp [pcT, joinP, opC])
 | bin o l r =>
  have h1 := tab_first (o - 11).toNat (by have := h.1; have := h.2.1; omega)
  have : (pcT (.bin o l r)).2 = (tabAt (o - 11).toNat).2.2 := by
   show (joinP (opC o) (pcT l) (pcT r)).2 = _
   rw [joinP_bin h.1]; rfl
  rw [this]; omega
theorem opAt_41 {s : List UInt8} {q : Nat} (h : nx s q = 41) : opAt s q = (0, 0, 0) := by unfold opAt; rw [h]; rfl
theorem opAt_end (s : List UInt8) : opAt s s.length = (0, 0, 0) := by unfold opAt; rw [nx_end (Nat.le_refl _)]; rfl
theorem U.plain {s : List UInt8} {t : T} (ht : OkT t) (h : U s t) {p : Nat} {cs : List CM} {k : Nat} (ha : At s p (pcT t).1) (hf : Fol s (p + (pcT t).1.length)) (hk : 1 ≤ k) (hk6 : k ≤ 6) (hs : (k : Int) ≤ (pcT t).2) (ho : (opAt s (p + (pcT t).1.length)).2.2 < k) :
  E s (.joins k) p cs = (true, p + (pcT t).1.length, cs ++ post t) := by
 have hle := ha.le
 obtain ⟨h1, h2, h3⟩ := strength ht
 rcases h3 with h3 | h3
 ·obtain ⟨j, hj⟩ : ∃ j : Nat, (pcT t).2 = (j : Int) := ⟨(pcT t).2.toNat, by omega⟩
  have hlow := h.low p cs j ha hf hj (by omega) (by omega) (by omega)
  rw [loop_exit (by omega) (by omega) hle (by omega)] at hlow
  exact up (by omega) hle hk ho (j - k) j (by omega) (by omega) hlow
 ·exact up_ahead (by omega) hle hk hk6 ho (h.high p cs ha hf h3)
theorem paren {s : List UInt8} {t : T} (ht : OkT t) (h : U s t) {p : Nat} {cs : List CM} (ha : At s p ([40] ++ (pcT t).1 ++ [41])) : E s .ahead p cs = (true, p + ([40] ++ (pcT t).1 ++ [41]).length, cs ++ post t) := by
 have hle := ha.le
 have h40 := (ha.split.1.head)
 have h41 := ha.split.2.head.1
 rw [E_ahead (by omega), h40.1, if_neg (by decide), if_neg (by decide), if_pos rfl]
 have e1 : p + ([40] ++ (pcT t).1).length = p + 1 + (pcT t).1.length := by simp; omega
 rw [e1] at h41
 have hst := strength ht
 rw [h.plain ht h40.2 (by unfold Fol; rw [h41]; decide) (by omega) (by omega) (by omega) (by rw [opAt_41 h41]; decide)]
 unfold closeD
 rw [if_pos rfl, if_pos h41]
 have e2 : p + ([40] ++ (pcT t).1 ++ [41]).length = p + 1 + (pcT t).1.length + 1 := by simp; omega
 rw [e2]
theorem txt_ahead {s : List UInt8} {t : T} (ht : OkT t) (h : U s t) {p : Nat} {cs : List CM} (ha : At s p (txt 6 t)) (hf : Fol s (p + (txt 6 t).length)) : E s .ahead p cs = (true, p + (txt 6 t).length, cs ++ post t) := by
 unfold txt inP at *
 split at ha
 ·rename_i hlt
  rw [if_pos hlt]
  exact paren ht h ha
 ·rename_i hlt
  rw [if_neg hlt] at hf ⊢
  exact h.high p cs ha hf (by omega)
theorem txt_read {s : List UInt8} {t : T} (ht : OkT t) (h : U s t) {p : Nat} {cs : List CM} {k : Nat} (hk : 1 ≤ k) (hk6 : k ≤ 6) (ha : At s p (txt k t)) (hf : Fol s (p + (txt k t).length)) (ho : (opAt s (p + (txt k t).length)).2.2 < k) :
  E s (.joins k) p cs = (true, p + (txt k t).length, cs ++ post t) := by
 have hle := ha.le
 unfold txt inP at *
 split at ha
 ·rename_i hlt
  rw [if_pos hlt] at ho hf hle ⊢
  exact up_ahead (by omega) hle hk hk6 ho (paren ht h ha)
 ·rename_i hlt
  rw [if_neg hlt] at ho hf ⊢
  exact h.plain ht ha hf hk hk6 (by omega) ho
theorem left_read {s : List UInt8} {t : T} (ht : OkT t) (h : U s t) {p : Nat} {cs : List CM} {k : Nat} (hk : 1 ≤ k) (hk5 : k ≤ 5) (h3 : k ≠ 3) (ha : At s p (txt k t)) (hf : Fol s (p + (txt k t).length)) (ho : (opAt s (p + (txt k t).length)).2.2 = k) :
  E s (.joins k) p cs = E s (.loop k false) (p + (txt k t).length) (cs ++ post t) := by
 have hle := ha.le
 have up1 : E s (.joins (k + 1)) p cs = (true, p + (txt k t).length, cs ++ post t) → E s (.joins k) p cs = E s (.loop k false) (p + (txt k t).length) (cs ++ post t) := by
  intro e
  rw [E_joins hk hk5 (by omega), e, if_pos rfl]
 by_cases hlt : (pcT t).2 < k
 ·have e : txt k t = [40] ++ (pcT t).1 ++ [41] := by unfold txt inP; rw [if_pos hlt]
  rw [e] at ha hf ho hle up1 ⊢
  exact up1 (up_ahead (by omega) hle (by omega) (by omega) (by omega) (paren ht h ha))
 ·have e : txt k t = (pcT t).1 := by unfold txt inP; rw [if_neg hlt]
  rw [e] at ha hf ho hle up1 ⊢
  by_cases heq : (pcT t).2 = (k : Int)
  ·have := h.low p cs k ha hf heq hk hk5 (by omega)
   rw [this]
   have e3 : (k == 3) = false := beq_eq_false_iff_ne.2 h3
   rw [e3]
  ·exact up1 (h.plain ht ha hf (by omega) (by omega) (by omega) (by omega))
theorem isD_not (c : UInt8) (h : isD c = true) : c ≠ 45 ∧ c ≠ 33 ∧ c ≠ 40 := by
 refine ⟨?_, ?_, ?_⟩ <;> (rintro rfl; exact absurd h (by decide))
theorem isLB_not (c : UInt8) (h : isLB c = true) : c ≠ 45 ∧ c ≠ 33 ∧ c ≠ 40 ∧ isD c = false := by
 refine ⟨?_, ?_, ?_, ?_⟩
 ·rintro rfl; exact absurd h (by decide)
 ·rintro rfl; exact absurd h (by decide)
 ·rintro rfl; exact absurd h (by decide)
 ·have := isLB_iff.1 h
  cases hd : isD c with
  | false => rfl
  | true => have := isD_iff.1 hd; omega
theorem word_ahead {s : List UInt8} {p : Nat} {cs : List CM} {c : UInt8} {x : List UInt8} (ha : At s p (c :: x)) (hc : isLB c = true) (hx : x.all okB = true) (hf : Fol s (p + (c :: x).length)) :
  E s .ahead p cs = wordD s p cs (c :: x) (E s (.joins 1) (p + 3) cs) := by
 obtain ⟨h1, h2, h3, h4⟩ := isLB_not c hc
 have hle := ha.le
 rw [E_ahead (by omega), ha.head.1, if_neg h1, if_neg h2, if_neg h3, h4, if_neg (by decide)]
 rw [word_at ha (by rw [List.all_cons, hx, okB_letter hc]; rfl) hf]
theorem digit_ahead {s : List UInt8} {p : Nat} {cs : List CM} {c : UInt8} {x : List UInt8} (ha : At s p (c :: x)) (hc : isD c = true) : E s .ahead p cs = numD s p cs := by
 obtain ⟨h1, h2, h3⟩ := isD_not c hc
 have hle := ha.le
 rw [E_ahead (by omega), ha.head.1, if_neg h1, if_neg h2, if_neg h3, if_pos hc]
theorem numP_dec {u : Nat} (h : u ≤ 1099511627776) : numP (Lib.decDigits u) = ((u : Int), 0) := by
 obtain ⟨c, r, e, hc⟩ := dec_first u
 have h45 : (Lib.decDigits u).head? ≠ some 45 := by
  rw [e]; simp; rintro rfl; exact absurd hc (by decide)
 have hf0 : fOf (Lib.decDigits u) = 0 := by unfold fOf; rw [if_neg h45]
 have hv : valN (Lib.decDigits u) = u := by unfold valN; rw [hf0]; exact valD_dec u
 have hok : okN (Lib.decDigits u) = true := by
  unfold okN
  rw [hf0, List.drop_zero]
  have h1 : (Lib.decDigits u).isEmpty = false := by rw [e]; rfl
  have h2 : (Lib.decDigits u).all isD = true := List.all_eq_true.2 (dec_all u)
  rw [h1, h2]
  by_cases h0 : u = 0
  ·subst h0; rw [dec_zero]; rfl
  ·have := dec_head u h0
   rw [beq_eq_false_iff_ne.2 this]; rfl
 rw [numP_pos hok (by omega) h45, hv]
theorem dec_tok {s : List UInt8} {p u : Nat} (ha : At s p (Lib.decDigits u)) (hf : isD (nx s (p + (Lib.decDigits u).length)) = false) : numT s p = Lib.decDigits u := by
 obtain ⟨c, r, e, hc⟩ := dec_first u
 have hh := ha
 rw [e] at hh
 have h1 := hh.head.1
 unfold numT
 rw [h1]
 split
 ·rename_i e48
  subst e48
  by_cases h0 : u = 0
  ·subst h0; rw [dec_zero]
  ·exact absurd (by rw [e]; rfl) (dec_head u h0)
 ·exact takeWhile_at ha (List.all_eq_true.2 (dec_all u)) hf
theorem U_leaf {s : List UInt8} {c : CM} (h : OkT (.leaf c)) : U s (.leaf c) := by
 have h16 : 1 ≤ c.op ∧ c.op ≤ 6 := by
  have h1 := formed_op h.1
  have ho := h.2
  unfold operN at ho
  split at ho
  ·assumption
  ·split at ho <;> omega
 have hc : c.op = 1 ∨ c.op = 2 ∨ c.op = 3 ∨ c.op = 4 ∨ c.op = 5 ∨ c.op = 6 := by omega
 have hnum := fun ho => formed_num h.1 ho
 have hfm := h.1
 obtain ⟨op, a, nm⟩ := c
 simp only at *
 rcases hc with rfl | rfl | rfl | rfl | rfl | rfl
 ·-- a number
  have ha0 := hnum (Or.inl rfl)
  have hnm : nm = [] := by unfold formedB at hfm; simp at hfm; exact hfm.1
  subst hnm
  have e : pcT (.leaf ⟨1, a, []⟩) = (Lib.decDigits a.toNat, 7) := by rw [← itoa_nat ha0.1]; rfl
  refine ⟨?_, fun p cs k _ _ hs => by rw [e] at hs; simp only at hs; omega⟩
  intro p cs hat hf _
  rw [e] at hat hf ⊢
  simp only at hat hf ⊢
  have hd : isD (nx s (p + (Lib.decDigits a.toNat).length)) = false := by
   cases hd : isD (nx s (p + (Lib.decDigits a.toNat).length)) with
   | false => rfl
   | true => unfold Fol at hf; rw [okB_digit hd] at hf; cases hf
  have ht := dec_tok hat hd
  obtain ⟨c, r, e2, hc⟩ := dec_first a.toNat
  rw [digit_ahead (c := c) (x := r) (by rw [← e2]; exact hat) hc]
  have h105 : nx s (p + (Lib.decDigits a.toNat).length) ≠ 105 := by
   intro e3; unfold Fol at hf; rw [e3] at hf; exact absurd hf (by decide)
  unfold numD
  rw [ht, numP_dec (by omega), if_neg (by simp), if_neg h105]
  rw [show ((a.toNat : Nat) : Int) = a by omega]; rfl
 ·have ha0 := hnum (Or.inr rfl)
  have hnm : nm = [] ∧ a ≤ 1048576 := by unfold formedB at hfm; simp at hfm; exact ⟨hfm.1, hfm.2.2⟩
  obtain ⟨rfl, hb⟩ := hnm
  have e : pcT (.leaf ⟨2, a, []⟩) = (Lib.decDigits a.toNat ++ [105], 7) := by rw [← itoa_nat ha0.1]; rfl
  refine ⟨?_, fun p cs k _ _ hs => by rw [e] at hs; simp only at hs; omega⟩
  intro p cs hat hf _
  rw [e] at hat hf ⊢
  simp only at hat hf ⊢
  have h105 := hat.split.2.head.1
  have ht := dec_tok hat.split.1 (by rw [h105]; decide)
  obtain ⟨c, r, e2, hc⟩ := dec_first a.toNat
  rw [digit_ahead (c := c) (x := r) (by rw [← e2]; exact hat.split.1) hc]
  unfold numD
  rw [ht, numP_dec (by omega), if_neg (by simp), if_pos h105, if_pos (by simp only; omega)]
  rw [show ((a.toNat : Nat) : Int) = a by omega, List.length_append]; rfl
 ·have hz : a = 0 ∧ nm = [] := by unfold formedB at hfm; simp at hfm; exact hfm
  obtain ⟨rfl, rfl⟩ := hz
  refine ⟨?_, fun p cs k _ _ hs => by have : (7 : Int) = k := hs; omega⟩
  intro p cs hat hf _
  have hat : At s p (116 :: [114, 117, 101]) := hat
  rw [word_ahead hat (by decide) (by decide) hf]; rfl
 ·have hz : a = 0 ∧ nm = [] := by unfold formedB at hfm; simp at hfm; exact hfm
  obtain ⟨rfl, rfl⟩ := hz
  refine ⟨?_, fun p cs k _ _ hs => by have : (7 : Int) = k := hs; omega⟩
  intro p cs hat hf _
  have hat : At s p (102 :: [97, 108, 115, 101]) := hat
  rw [word_ahead hat (by decide) (by decide) hf]; rfl
 ·have hz : a = 0 ∧ nameB nm = true := by unfold formedB at hfm; simp at hfm; exact hfm
  obtain ⟨rfl, hn⟩ := hz
  refine ⟨?_, fun p cs k _ _ hs => by have : (7 : Int) = k := hs; omega⟩
  intro p cs hat hf _
  obtain ⟨c, r, e2, hc, hr, htk⟩ := name_head hn
  have hat : At s p nm := hat
  have hf : Fol s (p + nm.length) := hf
  show E s .ahead p cs = (true, p + nm.length, cs ++ [⟨5, 0, nm⟩])
  rw [e2] at hat hf
  rw [word_ahead hat hc hr hf, ← e2]
  unfold wordD
  unfold takenB at htk
  simp only [Bool.or_eq_false_iff, beq_eq_false_iff_ne] at htk
  rw [if_neg (show nm ≠ wTrue from htk.1.1.1.1), if_neg (show nm ≠ wFalse from htk.1.1.1.2), if_pos hn]
 ·have hz : a = 0 ∧ nameB nm = true := by unfold formedB at hfm; simp at hfm; exact hfm
  obtain ⟨rfl, hn⟩ := hz
  refine ⟨?_, fun p cs k _ _ hs => by have : (7 : Int) = k := hs; omega⟩
  intro p cs hat hf _
  have hat : At s p ([105, 110, 40] ++ nm ++ [41]) := hat
  obtain ⟨h1, h2⟩ := hat.split
  obtain ⟨h3, h4⟩ := h1.split
  have h5 : At s p ([105, 110] ++ [40]) := h3
  obtain ⟨h6, h7⟩ := h5.split
  have h40 := h7.head.1
  have h41 := h2.head.1
  obtain ⟨c, r, e2, hc, hr, htk⟩ := name_head hn
  have h8 : At s p (105 :: [110]) := h6
  rw [word_ahead h8 (by decide) (by decide) (by show okB (nx s (p + 2)) = false; rw [show nx s (p + 2) = 40 from h40]; decide)]
  unfold wordD
  rw [if_neg (by decide), if_neg (by decide), if_neg (by decide), if_neg (fun hh => hh h40), if_pos (by decide)]
  unfold stateD
  have e3 : p + ([105, 110, 40] ++ nm).length = p + 3 + nm.length := by simp; omega
  rw [e3] at h41
  have h9 : At s (p + 3) nm := h4
  have hw : wordP s (p + 3) = nm := word_at h9 (by rw [e2, List.all_cons, hr, okB_letter hc]; rfl) (by unfold Fol; rw [h41]; decide)
  rw [hw, if_pos hn]
  unfold closeD
  rw [if_pos rfl, if_pos h41]
  show (true, p + 3 + nm.length + 1, cs ++ [⟨6, 0, nm⟩]) = (true, p + ([105, 110, 40] ++ nm ++ [41]).length, cs ++ [⟨6, 0, nm⟩])
  congr 2
  simp; omega
theorem U_un {s : List UInt8} {o : Int} {t : T} (ht : OkT t) (h : U s t) (ho : 7 ≤ o ∧ o ≤ 10) : U s (.un o t) := by
 have hc : o = 7 ∨ o = 8 ∨ o = 9 ∨ o = 10 := by omega
 rcases hc with rfl | rfl | rfl | rfl
 ·refine ⟨?_, fun p cs k _ _ hs => by have : (6 : Int) = k := hs; omega⟩
  intro p cs hat hf _
  have hat : At s p ([45] ++ txt 6 t) := hat
  have hf : Fol s (p + ([45] ++ txt 6 t).length) := hf
  have e1 : p + ([45] ++ txt 6 t).length = p + 1 + (txt 6 t).length := by simp; omega
  have hle := hat.le
  rw [e1] at hf
  show E s .ahead p cs = (true, p + ([45] ++ txt 6 t).length, cs ++ (post t ++ [opC 7]))
  rw [E_ahead (by omega), hat.head.1, if_pos rfl, txt_ahead ht h hat.head.2 hf, e1]
  unfold addD
  rw [if_pos rfl, List.append_assoc]
 ·refine ⟨?_, fun p cs k _ _ hs => by have : (6 : Int) = k := hs; omega⟩
  intro p cs hat hf _
  have hat : At s p ([33] ++ txt 6 t) := hat
  have hf : Fol s (p + ([33] ++ txt 6 t).length) := hf
  have e1 : p + ([33] ++ txt 6 t).length = p + 1 + (txt 6 t).length := by simp; omega
  have hle := hat.le
  rw [e1] at hf
  show E s .ahead p cs = (true, p + ([33] ++ txt 6 t).length, cs ++ (post t ++ [opC 8]))
  rw [E_ahead (by omega), hat.head.1, if_neg (by decide), if_pos rfl, txt_ahead ht h hat.head.2 hf, e1]
  unfold addD
  rw [if_pos rfl, List.append_assoc]
 ·refine ⟨?_, fun p cs k _ _ hs => by have : (7 : Int) = k := hs; omega⟩
  intro p cs hat hf _
  have hat : At s p ([114, 101, 40] ++ (pcT t).1 ++ [41]) := hat
  obtain ⟨h1, h2⟩ := hat.split
  obtain ⟨h3, h4⟩ := h1.split
  have h5 : At s p ([114, 101] ++ [40]) := h3
  obtain ⟨h6, h7⟩ := h5.split
  have h40 := h7.head.1
  have h41 := h2.head.1
  have h8 : At s p (114 :: [101]) := h6
  have e3 : p + ([114, 101, 40] ++ (pcT t).1).length = p + 3 + (pcT t).1.length := by simp; omega
  rw [e3] at h41
  show E s .ahead p cs = (true, p + ([114, 101, 40] ++ (pcT t).1 ++ [41]).length, cs ++ (post t ++ [opC 9]))
  rw [word_ahead h8 (by decide) (by decide) (by show okB (nx s (p + 2)) = false; rw [show nx s (p + 2) = 40 from h40]; decide)]
  unfold wordD
  rw [if_neg (by decide), if_neg (by decide), if_neg (by decide), if_neg (fun hh => hh h40), if_neg (by decide), if_pos (by decide)]
  have hst := strength ht
  rw [h.plain ht (p := p + 3) (k := 1) h4 (by unfold Fol; rw [show nx s (p + 3 + (pcT t).1.length) = 41 from h41]; decide) (by omega) (by omega) (by omega) (by rw [opAt_41 h41]; decide)]
  unfold addD closeD
  rw [if_pos rfl]
  simp only
  rw [if_pos h41, if_pos rfl]
  have e2 : p + ([114, 101, 40] ++ (pcT t).1 ++ [41]).length = p + 3 + (pcT t).1.length + 1 := by simp; omega
  rw [e2, List.append_assoc]
 ·refine ⟨?_, fun p cs k _ _ hs => by have : (7 : Int) = k := hs; omega⟩
  intro p cs hat hf _
  have hat : At s p ([105, 109, 40] ++ (pcT t).1 ++ [41]) := hat
  obtain ⟨h1, h2⟩ := hat.split
  obtain ⟨h3, h4⟩ := h1.split
  have h5 : At s p ([105, 109] ++ [40]) := h3
  obtain ⟨h6, h7⟩ := h5.split
  have h40 := h7.head.1
  have h41 := h2.head.1
  have h8 : At s p (105 :: [109]) := h6
  have e3 : p + ([105, 109, 40] ++ (pcT t).1).length = p + 3 + (pcT t).1.length := by simp; omega
  rw [e3] at h41
  show E s .ahead p cs = (true, p + ([105, 109, 40] ++ (pcT t).1 ++ [41]).length, cs ++ (post t ++ [opC 10]))
  rw [word_ahead h8 (by decide) (by decide) (by show okB (nx s (p + 2)) = false; rw [show nx s (p + 2) = 40 from h40]; decide)]
  unfold wordD
  rw [if_neg (by decide), if_neg (by decide), if_neg (by decide), if_neg (fun hh => hh h40), if_neg (by decide), if_neg (by decide), if_pos (by decide)]
  have hst := strength ht
  rw [h.plain ht (p := p + 3) (k := 1) h4 (by unfold Fol; rw [show nx s (p + 3 + (pcT t).1.length) = 41 from h41]; decide) (by omega) (by omega) (by omega) (by rw [opAt_41 h41]; decide)]
  unfold addD closeD
  rw [if_pos rfl]
  simp only
  rw [if_pos h41, if_pos rfl]
  have e2 : p + ([105, 109, 40] ++ (pcT t).1 ++ [41]).length = p + 3 + (pcT t).1.length + 1 := by simp; omega
  rw [e2, List.append_assoc]
theorem U_bin {s : List UInt8} {o : Int} {l r : T} (hl : OkT l) (hr : OkT r) (ul : U s l) (ur : U s r) (ho : 11 ≤ o ∧ o ≤ 23) : U s (.bin o l r) := by
 obtain ⟨j, hj, rfl⟩ : ∃ j : Nat, j < 13 ∧ o = (j : Int) + 11 := ⟨(o - 11).toNat, by omega, by omega⟩
 obtain ⟨ht1, ht2, ht3⟩ := tab_first j hj
 obtain ⟨k, hk⟩ : ∃ k : Nat, (tabAt j).2.2 = (k : Int) := ⟨(tabAt j).2.2.toNat, by omega⟩
 have e : pcT (.bin ((j : Int) + 11) l r) = (txt (if (k : Int) = 3 then 4 else k) l ++ (tabAt j).2.1 ++ txt ((k + 1 : Nat) : Int) r, (k : Int)) := by
  show joinP (opC ((j : Int) + 11)) (pcT l) (pcT r) = _
  rw [joinP_bin ho.1, show ((j : Int) + 11 - 11).toNat = j by omega]
  unfold betP txt
  rw [hk]
  by_cases h3 : (k : Int) = 3
  ·rw [if_pos h3, if_pos h3]
   have hk3 : k = 3 := by omega
   subst hk3
   rfl
  ·rw [if_neg h3, if_neg h3]; rfl
 refine ⟨fun p cs _ _ hs => by rw [e] at hs; simp only at hs; omega, ?_⟩
 intro p cs k' hat hf hs h1 h5 hop
 rw [e] at hat hf hs hop ⊢
 simp only at hat hf hs hop ⊢
 obtain rfl : k = k' := by omega
 clear hs
 obtain ⟨hA, hB⟩ := hat.split
 obtain ⟨hC, hD⟩ := hA.split
 have hle := hat.le
 obtain ⟨c0, x0, ex, hx0⟩ := noeq_in (a := (pcT r).2) (b := ((k + 1 : Nat) : Int)) (noeq hr)
 have ex : txt ((k + 1 : Nat) : Int) r = c0 :: x0 := ex
 have hO : At s (p + (txt (if (k : Int) = 3 then 4 else k) l).length) ((tabAt j).2.1 ++ c0 :: x0) := by
  obtain ⟨h2, rr, h3⟩ := hat
  rw [List.append_assoc] at h3 h2
  rw [← ex]
  rw [List.length_append] at h2
  refine ⟨by omega, rr, ?_⟩
  rw [← List.drop_drop, h3, List.append_assoc, List.drop_left']
  ·exact (List.append_assoc _ _ _).symm
  ·rfl
 obtain ⟨hop1, hfl⟩ := op_at hj hO hx0
 rw [ht1, hk] at hop1
 have hkn : ((k : Int)).toNat = k := by omega
 rw [hkn] at hop1
 -- the left operand
 have hL : E s (.joins k) p cs = E s (.loop k false) (p + (txt (if (k : Int) = 3 then 4 else k) l).length) (cs ++ post l) := by
  by_cases h3 : (k : Int) = 3
  ·rw [if_pos h3] at hC hfl hop1 ⊢
   have hr4 := txt_read hl ul (k := 4) (cs := cs) (by omega) (by omega) hC hfl (by show (opAt s (p + (txt 4 l).length)).2.2 < 4; rw [hop1]; simp only; omega)
   have hk3 : k = 3 := by omega
   subst hk3
   rw [E_joins (by omega) (by omega) (by omega), hr4, if_pos rfl]; rfl
  ·rw [if_neg h3] at hC hfl hop1 ⊢
   exact left_read hl ul h1 h5 (by omega) hC hfl (by rw [hop1])
 rw [hL]
 have hq : p + (txt (if (k : Int) = 3 then 4 else k) l).length ≤ s.length := by have := hC.le; omega
 rw [E_loop h1 h5 hq, hop1, if_neg (by simp), if_neg (by simp)]
 have e2 : p + (txt (if (k : Int) = 3 then 4 else k) l ++ (tabAt j).2.1).length = p + (txt (if (k : Int) = 3 then 4 else k) l).length + (tabAt j).2.1.length := by rw [List.length_append]; omega
 have e3 : p + (txt (if (k : Int) = 3 then 4 else k) l ++ (tabAt j).2.1 ++ txt ((k + 1 : Nat) : Int) r).length = p + (txt (if (k : Int) = 3 then 4 else k) l).length + (tabAt j).2.1.length + (txt ((k + 1 : Nat) : Int) r).length := by
  rw [List.length_append, List.length_append]; omega
 rw [e2] at hB
 rw [e3] at hf hop ⊢
 have hR := txt_read hr ur (k := k + 1) (cs := cs ++ post l) (by omega) (by omega) hB hf (by omega)
 simp only
 rw [hR, if_pos rfl]
 simp only
 rw [show post (T.bin ((j : Int) + 11) l r) = post l ++ post r ++ [opC ((j : Int) + 11)] from rfl]
 simp only [List.append_assoc]
theorem U_all (s : List UInt8) : ∀ t : T, OkT t → U s t
 | .leaf _, h => U_leaf h
 | .un _ t, h => U_un h.2.2 (U_all s t h.2.2) ⟨h.1, h.2.1⟩
 | .bin _ l r, h => U_bin h.2.2.1 h.2.2.2 (U_all s l h.2.2.1) (U_all s r h.2.2.2) ⟨h.1, h.2.1⟩
end Go.Proofs.YtkjkcgbmaojpiaaGreatDoor
namespace Go.Proofs.YtkjkcgbmaojpiaaGreatDoor
theorem itoa_13 {a : Int} (ha0 : 0 ≤ a) (ha1 : a ≤ 1099511627776) : (Lib.itoa a).length ≤ 13 := by
 rw [itoa_nat ha0]
 have : ∀ (k u : Nat), u < 10 ^ (k + 1) → (Lib.decDigits u).length ≤ k + 1 := by
  intro k
  induction k with
  | zero => intro u hu; rw [dec_small (by omega)]; simp
  | succ k ih =>
   intro u hu
   by_cases h : u < 10
   ·rw [dec_small h]; simp
   ·rw [dec_big h]
    have := ih (u / 10) (by rw [Nat.pow_succ] at hu; omega)
    simp; omega
 exact this 12 _ (by omega)
theorem leaf_len {c : CM} (h : OkT (.leaf c)) : (joinP c none0 none0).1.length ≤ 16 := by
 have h16 : 1 ≤ c.op ∧ c.op ≤ 6 := by
  have h1 := formed_op h.1
  have ho := h.2
  unfold operN at ho
  split at ho
  ·assumption
  ·split at ho <;> omega
 have hn := formed_name h.1
 unfold joinP
 split
 ·rename_i e; have := formed_num h.1 (Or.inl e); have := itoa_13 this.1 this.2; simp only; omega
 ·split
  ·rename_i e; have := formed_num h.1 (Or.inr e); have := itoa_13 this.1 this.2; simp only [List.length_append, List.length_singleton]; omega
  ·split
   ·simp [wTrue]
   ·split
    ·simp [wFalse]
    ·split
     ·simp only; omega
     ·split
      ·simp; omega
      ·exfalso; omega
theorem text_len {t : T} (h : OkT t) : (pcT t).1.length + 2 ≤ 18 * (post t).length := by
 induction t with
 | leaf c => have := leaf_len h; show (joinP c none0 none0).1.length + 2 ≤ 18 * 1; omega
 | un o t ih =>
  have := ih h.2.2
  have hc : o = 7 ∨ o = 8 ∨ o = 9 ∨ o = 10 := by have := h.1; have := h.2.1; omega
  have hp : (post (.un o t)).length = (post t).length + 1 := by simp [post]
  have h6 := inP_len (pcT t).1 (pcT t).2 6
  rw [hp]
  rcases hc with rfl | rfl | rfl | rfl
  ·show ([45] ++ inP (pcT t).1 (pcT t).2 6).length + 2 ≤ _; simp; omega
  ·show ([33] ++ inP (pcT t).1 (pcT t).2 6).length + 2 ≤ _; simp; omega
  ·show ([114, 101, 40] ++ (pcT t).1 ++ [41]).length + 2 ≤ _; simp; omega
  ·show ([105, 109, 40] ++ (pcT t).1 ++ [41]).length + 2 ≤ _; simp; omega
 | bin o l r ihl ihr =>
  have h1 := ihl h.2.2.1
  have h2 := ihr h.2.2.2
  have hp : (post (.bin o l r)).length = (post l).length + (post r).length + 1 := by simp [post]; omega
  have h3 := betP_len (o - 11).toNat (pcT l) (pcT r)
  rw [hp]
  show (joinP (opC o) (pcT l) (pcT r)).1.length + 2 ≤ _
  rw [joinP_bin h.1]
  omega
theorem read_text {t : T} (h : OkT t) (hl : (post t).length ≤ 32) : parseP (pcT t).1 = (post t, 0, 0) := by
 have h1 := text_len h
 have hs := strength h
 have hE := (U_all (pcT t).1 t h).plain h (p := 0) (cs := []) (k := 1) (At.all _) (by rw [Nat.zero_add]; exact fol_end) (by omega) (by omega) (by omega) (by rw [Nat.zero_add, opAt_end]; decide)
 rw [Nat.zero_add, List.nil_append] at hE
 rw [parse_E, if_neg (by omega), hE, if_neg (by simp), if_neg (by simp only; omega)]
theorem back {cs : List CM} (h : rightB cs = true) : parseP (showP cs).1 = (cs, 0, 0) ∧ (showP cs).2 = 0 := by
 obtain ⟨t, h1, rfl⟩ := right_tree h
 have hl : (post t).length ≤ 32 := by unfold rightB at h; simp at h; exact h.1
 rw [tree_show h1 hl]
 exact ⟨read_text h1 hl, rfl⟩
end Go.Proofs.YtkjkcgbmaojpiaaGreatDoor
namespace Go.Proofs.YtkjkcgbmaojpiaaGreatDoor
open Go.RowKit
def Names (cs : List CM) : Prop := ∀ c ∈ cs, c.nm.length ≤ 9223372036854775807
end Go.Proofs.YtkjkcgbmaojpiaaGreatDoor
namespace Go.Proofs.YtkjkcgbmaojpiaaGreatDoor
open Go Go.RowKit
def Inn (w : World) (size : Nat) (v : Value) (n : Nat) (xs : List Value) : Prop :=
 (v = .slice none 0 0 ∧ n = 0 ∧ xs = []) ∨ ∃ ad c, v = .slice (some ad) n c ∧ xs.length = n * size ∧ (0 < n → ∃ b o, ad = ⟨b, o, none⟩ ∧ b < w.heap.size ∧ ∀ j u, xs[j]? = some u → w.cell? ⟨b, o + j, none⟩ = some u)
theorem Inn.same {w w' : World} {size : Nat} {v : Value} {n : Nat} {xs : List Value} (h : Inn w size v n xs) (hs : w.heap.size ≤ w'.heap.size) (hb : ∀ k, k < w.heap.size → w'.heap[k]? = w.heap[k]?) : Inn w' size v n xs := by
 rcases h with h | ⟨ad, c, e, hl, h⟩
 ·exact Or.inl h
 ·refine Or.inr ⟨ad, c, e, hl, fun hn => ?_⟩
  obtain ⟨b, o, e, hlt, hc⟩ := h hn
  refine ⟨b, o, e, by omega, fun j u hu => ?_⟩
  rw [World.cell?_of_block (w := w) (hb _ hlt)]
  exact hc j u hu
theorem Inn.below {w w' : World} {size : Nat} {v : Value} {n : Nat} {xs : List Value} (h : Inn w size v n xs) (hb : Below w.heap.size w w') : Inn w' size v n xs := h.same hb.size hb.block
theorem Inn.form {w : World} {size : Nat} {v : Value} {n : Nat} {xs : List Value} (h : Inn w size v n xs) : ∃ A c, v = .slice A n c := by
 rcases h with ⟨rfl, rfl, _⟩ | ⟨ad, c, rfl, _⟩
 ·exact ⟨_, _, rfl⟩
 ·exact ⟨_, _, rfl⟩
theorem Inn.len {w : World} {size : Nat} {v : Value} {n : Nat} {xs : List Value} (h : Inn w size v n xs) : xs.length = n * size := by
 rcases h with ⟨_, rfl, rfl⟩ | ⟨ad, c, _, h, _⟩
 ·simp
 ·exact h
theorem Inn.at_ {w : World} {size : Nat} {A : Option Addr} {m c : Nat} {n : Nat} {xs : List Value} (h : Inn w size (.slice A m c) n xs) {k : Nat} (hk : k < n) :
  ∃ b o, A = some ⟨b, o, none⟩ ∧ b < w.heap.size ∧ ∀ j u, xs[k * size + j]? = some u → w.cell? ⟨b, o + k * size + j, none⟩ = some u := by
 rcases h with ⟨_, rfl, _⟩ | ⟨ad, c', e, _, h⟩
 ·omega
 ·simp only [Value.slice.injEq] at e
  obtain ⟨b, o, rfl, hlt, hc⟩ := h (by omega)
  exact ⟨b, o, e.1, hlt, fun j u hu => by rw [Nat.add_assoc]; exact hc _ u hu⟩
theorem Inn.of_own {w : World} {B : Nat} {e : TypeId} {size n : Nat} {v : Value} {xs : List Value} (h : w.ownsRow B e size v n xs) : Inn w size v n xs := by
 rcases h.2 with ⟨rfl, rfl⟩ | ⟨g, cap, cur, rfl, _⟩
 ·exact Or.inl ⟨rfl, rfl, by have := h.1; simp at this; exact this⟩
 ·have hlt := (h.lt g rfl).2
  exact Or.inr ⟨⟨g, 0, none⟩, cap, rfl, h.1, fun _ => ⟨g, 0, rfl, hlt, fun j u hu => by
   have := h.cells (g := g) rfl j u hu
   rw [add_lit'] at this; exact this⟩⟩
theorem Inn.nil (w : World) (size : Nat) : Inn w size (.slice none 0 0) 0 [] := Or.inl ⟨rfl, rfl, rfl⟩
namespace Ow
theorem walk_cons {P : Program} {ops : Array Oper} {Q : Exit → Act → World → Prop} {md : Region.Mode} {Rs : List Rel} {owns : List Bool} {eats : List (Option Nat)} {base : Nat} {w0 : World} {l r : List Oper} {o : Oper} {i : Nat} {a : Act} {vs : List Value} {f : Value → Act} {us : Value → List Value}
  (hl : l = o :: r) (h : Duty P ops md Rs owns eats base w0 i o a vs) (hf : ∀ v, a.put o.dst v = f v) (hu : ∀ v, vs ++ [v] = us v) (hr : ∀ v, Walk P ops Q md Rs owns eats base w0 r (i + 1) (f v) (us v)) : Walk P ops Q md Rs owns eats base w0 l i a vs := by
 subst hl; exact ⟨h, fun v => by rw [hf, hu]; exact hr v⟩
theorem walk_nil {P : Program} {ops : Array Oper} {Q : Exit → Act → World → Prop} {md : Region.Mode} {Rs : List Rel} {owns : List Bool} {eats : List (Option Nat)} {base : Nat} {w0 : World} {l : List Oper} {i : Nat} {a : Act} {vs : List Value}
  (hl : l = []) (h : ∀ w, Below base w0 w → (∀ j, (Nat.blt j ops.size && !eatenB eats j) = true → rel Rs j (vs.getD j undef) w) → Q .normal a w) : Walk P ops Q md Rs owns eats base w0 l i a vs := by
 subst hl
 refine fun w hb hd => h w hb fun j hj => ?_
 rw [Bool.and_eq_true] at hj
 exact hd j (by simpa using hj.1) (by simpa using hj.2)
section
variable {Rs : List Rel} {owns : List Bool} {eats : List (Option Nat)} {base : Nat} {w w' : World} {vs : List Value} {i : Nat} {v : Value}
def KeepsL (base : Nat) : List Bool → List Rel → Prop
 | o :: os, R :: rs => Keeps1 base o R ∧ KeepsL base os rs
 | [], R :: rs => Keeps1 base false R ∧ KeepsL base [] rs
 | _, [] => True
theorem KeepsL.all : ∀ (os : List Bool) (rs : List Rel), KeepsL base os rs → ∀ i, Keeps1 base (os.getD i false) (rel rs i)
 | o :: os, R :: rs, h, 0 => h.1
 | o :: os, R :: rs, h, i + 1 => KeepsL.all os rs h.2 i
 | [], R :: rs, h, 0 => h.1
 | [], R :: rs, h, i + 1 => KeepsL.all [] rs h.2 i
 | [], [], _, i => fun _ _ _ _ h _ _ _ => by cases i <;> exact h
 | _ :: _, [], _, i => fun _ _ _ _ _ _ _ _ => by simp [rel]
theorem keeps_eq (x : Value) (o : Bool) : Keeps1 base o (eqR x) := fun _ _ _ _ h _ _ _ => h
theorem good_same (_h1 : eatsAt eats i = none) (h2 : owns.getD i false = false) (h3 : rel Rs i v w) : Good Rs owns base (rowV eats vs i) i w v w :=
 ⟨h3, ⟨rfl, rfl, rfl, Nat.le_refl _, fun _ _ _ => rfl⟩, fun h => by rw [h2] at h; cases h⟩
theorem good_below (_h1 : eatsAt eats i = none) (h2 : owns.getD i false = false) (hb : Below w.heap.size w w') (h3 : rel Rs i v w') : Good Rs owns base (rowV eats vs i) i w v w' :=
 ⟨h3, grown_of_below hb _, fun h => by rw [h2] at h; cases h⟩
end
theorem region_own' {P : Program} {ops : Array Oper} {Q : Exit → Act → World → Prop} {id : Nat} {a0 : Act} {w : World} (n : Nat) (Rs : List Rel) (owns : List Bool) (eats : List (Option Nat)) (hm : P.follows .mixedOrders = true) (hn : a0.tmps.size = n) (hs : shapeB .any ops owns eats n = true)
  (hK : KeepsL w.heap.size owns Rs) (hW : Walk P ops Q .any Rs owns eats w.heap.size w.drew ops.toList 0 a0 []) : (Code.region id ops true).wp P Q a0 w :=
 region_own Rs owns eats hm hn hs (fun i _ => KeepsL.all _ _ hK i) hW
theorem oper_append {P : Program} {o : Oper} {a : Act} {w : World} {K : Act → World → Prop} {Q : Exit → Act → World → Prop} (s x : Operand) (t : TypeId)
  (ho : o.op = .call { callee := .builtin .append, args := #[s, x], argTypes := #[t, t] })
  (base : Nat) (e : TypeId) (i : TypeInfo) (z : Value) (size bytes : Nat) (ht : P.underlying t = some (.slice e)) (hi : P.info? e = some i) (hz : i.zero = some z)
  (hsize : i.size = size) (hby : i.bytes = bytes) (hzs : z.cells.size = size) (hsz : 0 < size)
  (v : Value) (n : Nat) (xs : List Value) (hs : a.eval s = v) (hown : w.ownsRow base e size v n xs)
  (u : Value) (m : Nat) (news : List Value) (hx : a.eval x = u) (hin : Inn w size u m news) (h1 : ∀ u ∈ news, u.oneCell' = true)
  (h63 : n + m ≤ maxLen) (hbytes : (n + m) * bytes ≤ 140737488355328) (hbase : base ≤ w.heap.size)
  (h : ∀ v' w', w'.ownsRow base e size v' (n + m) (xs ++ news) → w.grownBy w' v.ownBlock → ((v'.ownBlock = v.ownBlock ∧ ∀ g, v'.ownBlock = some g → g < w'.heap.size) ∨ ∀ g, v'.ownBlock = some g → w.heap.size ≤ g ∧ g < w'.heap.size) → K (a.put o.dst v') w') :
  Oper.wp P o a w K Q := by
 rcases hin with ⟨rfl, rfl, rfl⟩ | ⟨ad, c, rfl, hl, hc⟩
 ·have hrun := run_append_owned_none (P := P) (w := w) base t o.type e i size ht hi v n xs hown
  unfold Oper.wp execOp
  simp only [ho, resolve, invoke, builtin, Sem.run_bind, Sem.run_pure, Result.andThen_ok, List.map_toArray, List.map_cons, List.map_nil, hs, hx, hrun]
  exact h v w (by simpa using hown) ⟨rfl, rfl, rfl, Nat.le_refl _, fun _ _ _ => rfl⟩ (Or.inl ⟨rfl, fun g hg => (hown.lt g hg).2⟩)
 ·obtain ⟨v', w', hrun, h2, h3, _, h5⟩ := run_append_own_at (P := P) w base t o.type e i z size bytes ht hi hz hsize hby hzs hsz v n xs hown ad m c news hl (fun j u hu => by
   have hm : 0 < m := by
    rcases Nat.eq_zero_or_pos m with h0 | h0
    ·subst h0
     have : news = [] := List.eq_nil_of_length_eq_zero (by omega)
     subst this; simp at hu
    ·exact h0
   obtain ⟨b, k, rfl, _, hc⟩ := hc hm
   rw [add_lit']; exact hc j u hu) h1 h63 hbytes hbase
  unfold Oper.wp execOp
  simp only [ho, resolve, invoke, builtin, Sem.run_bind, Sem.run_pure, Result.andThen_ok, List.map_toArray, List.map_cons, List.map_nil, hs, hx, hrun]
  refine h v' w' h2 h3 ?_
  rcases h5 with h5 | h5
  ·exact Or.inl ⟨h5, fun g hg => (h2.lt g hg).2⟩
  ·refine Or.inr fun g hg => ⟨?_, (h2.lt g hg).2⟩
   rw [h5] at hg
   exact Nat.le_of_eq (Option.some.inj hg)
theorem step_append {P : Program} {ops : Array Oper} {o : Oper} {a : Act} {w : World} {K : Act → World → Prop} {Q : Exit → Act → World → Prop} {E : Prop} (hgd : o.guard = none) (s x : Operand) (t : TypeId)
  (ho : o.op = .call { callee := .builtin .append, args := #[s, x], argTypes := #[t, t] })
  (base : Nat) (e : TypeId) (i : TypeInfo) (z : Value) (size bytes : Nat) (ht : P.underlying t = some (.slice e)) (hi : P.info? e = some i) (hz : i.zero = some z)
  (hsize : i.size = size) (hby : i.bytes = bytes) (hzs : z.cells.size = size) (hsz : 0 < size)
  (v : Value) (n : Nat) (xs : List Value) (hs : a.eval s = v) (hown : w.ownsRow base e size v n xs)
  (u : Value) (m : Nat) (news : List Value) (hx : a.eval x = u) (hin : Inn w size u m news) (h1 : ∀ u ∈ news, u.oneCell' = true)
  (h63 : n + m ≤ maxLen) (hbytes : (n + m) * bytes ≤ 140737488355328) (hbase : base ≤ w.heap.size)
  (h : ∀ v' w', w'.ownsRow base e size v' (n + m) (xs ++ news) → w.grownBy w' v.ownBlock → ((v'.ownBlock = v.ownBlock ∧ ∀ g, v'.ownBlock = some g → g < w'.heap.size) ∨ ∀ g, v'.ownBlock = some g → w.heap.size ≤ g ∧ g < w'.heap.size) → K (a.put o.dst v') w') :
  if Region.wanted o (yielded ops a.tmps) = true then Oper.wp P o a w K Q else E := by
 have hw : Region.wanted o (yielded ops a.tmps) = true := by simp [Region.wanted, hgd]
 rw [if_pos hw]
 exact oper_append s x t ho base e i z size bytes ht hi hz hsize hby hzs hsz v n xs hs hown u m news hx hin h1 h63 hbytes hbase h
theorem wpList_append {P : Program} {ops : Array Oper} {rest : List Oper} {o : Oper} {a : Act} {w : World} {Q : Exit → Act → World → Prop} (hgd : o.guard = none) (s x : Operand) (t : TypeId)
  (ho : o.op = .call { callee := .builtin .append, args := #[s, x], argTypes := #[t, t] })
  (base : Nat) (e : TypeId) (i : TypeInfo) (z : Value) (size bytes : Nat) (ht : P.underlying t = some (.slice e)) (hi : P.info? e = some i) (hz : i.zero = some z)
  (hsize : i.size = size) (hby : i.bytes = bytes) (hzs : z.cells.size = size) (hsz : 0 < size)
  (v : Value) (n : Nat) (xs : List Value) (hs : a.eval s = v) (hown : w.ownsRow base e size v n xs)
  (u : Value) (m : Nat) (news : List Value) (hx : a.eval x = u) (hin : Inn w size u m news) (h1 : ∀ u ∈ news, u.oneCell' = true)
  (h63 : n + m ≤ maxLen) (hbytes : (n + m) * bytes ≤ 140737488355328) (hbase : base ≤ w.heap.size)
  (h : ∀ v' w', w'.ownsRow base e size v' (n + m) (xs ++ news) → w.grownBy w' v.ownBlock → ((v'.ownBlock = v.ownBlock ∧ ∀ g, v'.ownBlock = some g → g < w'.heap.size) ∨ ∀ g, v'.ownBlock = some g → w.heap.size ≤ g ∧ g < w'.heap.size) → wpList P ops Q rest (a.put o.dst v') w') :
  wpList P ops Q (o :: rest) a w :=
 wpList_plain hgd fun _ hK => oper_append s x t ho base e i z size bytes ht hi hz hsize hby hzs hsz v n xs hs hown u m news hx hin h1 h63 hbytes hbase fun v' w' h2 h3 h4 => hK _ _ (h v' w' h2 h3 h4)
end Ow
end Go.Proofs.YtkjkcgbmaojpiaaGreatDoor
namespace Go.Proofs.YtkjkcgbmaojpiaaGreatDoor
open Go.RowKit Go.ChangeShapes Go.WideShapes Go.ChangeAt
section
variable {H : Type} {enc : TypeId × Value → H} {P : Program} {W : World}
theorem open_inn {t e : TypeId} {size n : Nat} {v : Value} {y : DataW H × List MemPlace} (ht : P.underlying t = some (.slice e)) (hC : P.cellsOf e = size) (h0 : 0 < size)
  (h : DataW.trod enc P W 0 (fun _ => true) true n t [v] = some y) :
  ∃ rows : List (List Value), Inn W size v rows.length rows.flatten ∧ (∀ r ∈ rows, r.length = size ∧ ∃ k x, DataW.trod enc P W 0 (fun _ => true) true k e r = some x) ∧
   ((y.1 = .nil ∧ rows = []) ∨ ∃ es sp, y.1 = .slice es sp ∧ rows.length = es.length) ∧ ∀ A m c, v = .slice A m c → m ≤ c := by
 rcases Go.Deep.open_slice ht h with ⟨hcs, hx⟩ | ⟨a, len, cap, m, k, D, Pl, hcs, _, hl, hm, hmm, hx, hi⟩
 ·simp at hcs
  subst hcs
  exact ⟨[], Inn.nil _ _, (by intro r hr; cases hr), Or.inl ⟨by rw [hx], rfl⟩, fun A m c e => by injection e; omega⟩
 ·simp at hcs
  subst hcs
  rw [if_pos rfl] at hmm
  subst hmm
  rw [hC] at hi
  have hall : ∀ q, q ≤ len → ∃ rows : List (List Value), rows.length = q ∧ (∀ r ∈ rows, r.length = size ∧ ∃ k x, DataW.trod enc P W 0 (fun _ => true) true k e r = some x) ∧ ∀ j u, rows.flatten[j]? = some u → W.cell? (a.add j) = some u := by
   intro q
   induction q with
   | zero => intro _; exact ⟨[], rfl, (by intro r hr; cases hr), fun j u hu => by simp at hu⟩
   | succ q ih =>
    intro hq
    obtain ⟨rows, h1, h2, h3⟩ := ih (by omega)
    obtain ⟨r, hr1, hr2⟩ := hi q (by omega)
    obtain ⟨_, hrl, hat⟩ := World.cells?_some hr1
    have hfl : rows.flatten.length = q * size := by
     rw [← h1]
     clear h3 hr1 hr2 hat ih h1
     induction rows with
     | nil => simp
     | cons x rs ihr =>
      rw [List.flatten_cons, List.length_append, (h2 x (by simp)).1, ihr (fun r hr => h2 r (by simp [hr]))]
      simp [Nat.succ_mul]; omega
    refine ⟨rows ++ [r], by simp [h1], fun r' hr' => ?_, fun j u hu => ?_⟩
    ·rcases List.mem_append.1 hr' with h | h
     ·exact h2 r' h
     ·simp at h; subst h; exact ⟨hrl, _, _, hr2⟩
    ·rw [List.flatten_append] at hu
     by_cases hj : j < q * size
     ·rw [List.getElem?_append_left (by omega)] at hu
      exact h3 j u hu
     ·rw [List.getElem?_append_right (by omega), hfl] at hu
      simp only [List.flatten_cons, List.flatten_nil, List.append_nil] at hu
      have hjl := (List.getElem?_eq_some_iff.1 hu).1
      have h4 := hat (j - q * size) (by omega)
      rw [Go.Deep.add_add, hu] at h4
      rw [show q * size + (j - q * size) = j by omega] at h4
      exact h4
  obtain ⟨rows, h1, h2, h3⟩ := hall len (Nat.le_refl _)
  have hfl : rows.flatten.length = len * size := by
   rw [← h1]
   clear h3 hall h1
   induction rows with
   | nil => simp
   | cons x rs ihr =>
    rw [List.flatten_cons, List.length_append, (h2 x (by simp)).1, ihr (fun r hr => h2 r (by simp [hr]))]
    simp [Nat.succ_mul]; omega
  refine ⟨rows, Or.inr ⟨a, m, by rw [h1], by rw [hfl, h1], fun hn => ?_⟩, h2, Or.inr ⟨_, _, by rw [hx], by simp [h1]⟩, fun A q c e => by injection e; omega⟩
  rw [h1] at hn
  have hlt : 0 < rows.flatten.length := by rw [hfl]; exact Nat.mul_pos hn h0
  have hc0 := h3 0 _ (List.getElem?_eq_getElem hlt)
  obtain ⟨bl, off, spot⟩ := a
  have hc0' : W.cell? ⟨bl, off, spot⟩ = some (rows.flatten[0]'hlt) := by simpa [Addr.add] using hc0
  have := Go.Proofs.cell_spot hc0'
  subst this
  exact ⟨bl, off, rfl, cell_lt hc0', fun j u hu => by have := h3 j u hu; rw [add_lit'] at this; exact this⟩
end
end Go.Proofs.YtkjkcgbmaojpiaaGreatDoor
namespace Go.Proofs.YtkjkcgbmaojpiaaGreatDoor
structure VM where
 nm : List UInt8
 kd : Int
 lo : Int
 hi : Int
 ik : Int
 ia : Int
 ib : Int
def varK (vs : List VM) (n : List UInt8) : Int × Int :=
 match vs.find? (fun v => decide (v.nm = n)) with
 | none => (0, 2)
 | some v => if 1 ≤ v.kd ∧ v.kd ≤ 3 then (v.kd, 0) else (0, 8)
def leafK (vs : List VM) (ss : List (List UInt8)) (c : CM) : Int × Int :=
 if c.op = 1 then (1, 0) else if c.op = 2 then (3, 0) else if c.op = 5 then varK vs c.nm else if c.op = 6 ∧ c.nm ∉ ss then (0, 2) else (2, 0)
def unK (o k : Int) : Int := if o = 7 then (if k = 2 then 0 else k) else if o = 8 then (if k = 2 then 2 else 0) else if k = 3 then 1 else 0
def binK (o k : Int) : Int :=
 if o = 16 ∨ o = 17 then 2 else if o = 22 ∨ o = 23 then (if k = 2 then 2 else 0) else if 18 ≤ o then (if k = 1 then 2 else 0) else if 14 ≤ o then (if k = 1 then 1 else 0) else if k = 2 then 0 else k
def errK (k : Int) : Int × Int := if k = 0 then (0, 8) else (k, 0)
def joinK (o a b : Int) : Int × Int := if a ≠ b then (0, 8) else errK (binK o a)
section
variable (vs : List VM) (ss : List (List UInt8))
def madeK (c : CM) (st : List Int) : Int × Int :=
 match operN c.op with
 | 0 => leafK vs ss c
 | 1 => errK (unK c.op (st.headD 0))
 | _ => joinK c.op (st.headD 0) ((st.drop 1).headD 0)
def kRun : List CM → List Int → Int × Int
 | [], st => (st.headD 0, 0)
 | c :: r, st => if (madeK vs ss c (st.drop (st.length - operN c.op))).2 ≠ 0 then (0, (madeK vs ss c (st.drop (st.length - operN c.op))).2)
  else kRun r (st.take (st.length - operN c.op) ++ [(madeK vs ss c (st.drop (st.length - operN c.op))).1])
def kindP (cs : List CM) : Int × Int := if rightB cs = true then kRun vs ss cs [] else (0, 1)
end
section
variable {vs : List VM} {ss : List (List UInt8)}
theorem varK_range (n : List UInt8) : ((varK vs n).2 = 0 ∧ 1 ≤ (varK vs n).1 ∧ (varK vs n).1 ≤ 3) ∨ ((varK vs n).2 ≠ 0 ∧ (varK vs n).1 = 0) := by
 unfold varK
 split
 ·exact Or.inr ⟨by decide, rfl⟩
 ·split
  ·rename_i h; exact Or.inl ⟨rfl, h.1, h.2⟩
  ·exact Or.inr ⟨by decide, rfl⟩
theorem leafK_range (c : CM) : ((leafK vs ss c).2 = 0 ∧ 1 ≤ (leafK vs ss c).1 ∧ (leafK vs ss c).1 ≤ 3) ∨ ((leafK vs ss c).2 ≠ 0 ∧ (leafK vs ss c).1 = 0) := by
 unfold leafK
 split
 ·exact Or.inl ⟨rfl, by decide, by decide⟩
 ·split
  ·exact Or.inl ⟨rfl, by decide, by decide⟩
  ·split
   ·exact varK_range _
   ·split
    ·exact Or.inr ⟨by decide, rfl⟩
    ·exact Or.inl ⟨rfl, by decide, by decide⟩
theorem errK_range {k : Int} (h : 0 ≤ k ∧ k ≤ 3) : ((errK k).2 = 0 ∧ 1 ≤ (errK k).1 ∧ (errK k).1 ≤ 3) ∨ ((errK k).2 ≠ 0 ∧ (errK k).1 = 0) := by
 unfold errK
 split
 ·exact Or.inr ⟨by decide, rfl⟩
 ·exact Or.inl ⟨rfl, by show 1 ≤ k; omega, h.2⟩
theorem unK_range {o k : Int} (h : 1 ≤ k ∧ k ≤ 3) : 0 ≤ unK o k ∧ unK o k ≤ 3 := by
 unfold unK
 repeat' split
 all_goals omega
theorem binK_range {o k : Int} (h : 1 ≤ k ∧ k ≤ 3) : 0 ≤ binK o k ∧ binK o k ≤ 3 := by
 unfold binK
 repeat' split
 all_goals omega
theorem joinK_range {o a b : Int} (h : 1 ≤ a ∧ a ≤ 3) : ((joinK o a b).2 = 0 ∧ 1 ≤ (joinK o a b).1 ∧ (joinK o a b).1 ≤ 3) ∨ ((joinK o a b).2 ≠ 0 ∧ (joinK o a b).1 = 0) := by
 unfold joinK
 split
 ·exact Or.inr ⟨by decide, rfl⟩
 ·exact errK_range (binK_range h)
end
end Go.Proofs.YtkjkcgbmaojpiaaGreatDoor
