/- What the document's reader of points does to a list of bytes, and what the program's does: just the texts of points are read, each to its point. No program is named here. -/
import Derived.Test.YtimcecbnnohneaaDoorDg
namespace Go.Proofs.YtimcecbnnohneaaDoor
open Go.Lib

/-- may the number be a part? -/
def inB (n : Int) : Bool := decide (-1048576 ≤ n ∧ n ≤ 1048576)
theorem inB_iff {n : Int} : inB n = true ↔ -1048576 ≤ n ∧ n ≤ 1048576 := decide_eq_true_iff

/-- what stands ahead of the second part -/
def sgn (b : Int) : List UInt8 := if b < 0 then [] else [43]
/-- the text of a point -/
def shw (a b : Int) : List UInt8 := itoa a ++ (sgn b ++ itoa b) ++ [105]

/-- the loop of the document's reader: digits from here on, as long as the number is no greater than 2^20: the number, how many. -/
def wloop (n : Nat) : List UInt8 → Nat × Nat
  | [] => (n, 0)
  | c :: r => if isD c = true ∧ n ≤ 1048576 then ((wloop (10 * n + digv c) r).1, (wloop (10 * n + digv c) r).2 + 1) else (n, 0)

theorem wloop_nil (n : Nat) : wloop n [] = (n, 0) := rfl
theorem wloop_go {n : Nat} {c : UInt8} {r : List UInt8} (h : isD c = true ∧ n ≤ 1048576) : wloop n (c :: r) = ((wloop (10 * n + digv c) r).1, (wloop (10 * n + digv c) r).2 + 1) := by rw [wloop, if_pos h]
theorem wloop_stop {n : Nat} {c : UInt8} {r : List UInt8} (h : ¬ (isD c = true ∧ n ≤ 1048576)) : wloop n (c :: r) = (n, 0) := by rw [wloop, if_neg h]

theorem wloop_spec : ∀ (l : List UInt8) (n : Nat), (wloop n l).2 ≤ l.length ∧ (∀ c ∈ l.take (wloop n l).2, isD c = true) ∧ (wloop n l).1 = valD n (l.take (wloop n l).2)
  | [], n => by rw [wloop_nil]; exact ⟨Nat.le_refl _, fun c hc => by simp at hc, by simp [valD_nil]⟩
  | c :: r, n => by
    by_cases h : isD c = true ∧ n ≤ 1048576
    · obtain ⟨h1, h2, h3⟩ := wloop_spec r (10 * n + digv c)
      rw [wloop_go h]
      refine ⟨by simp; omega, ?_, ?_⟩
      · intro x hx
        rw [List.take_succ_cons] at hx
        rcases List.mem_cons.1 hx with rfl | hx
        · exact h.1
        · exact h2 x hx
      · rw [List.take_succ_cons, valD_cons]; exact h3
    · rw [wloop_stop h]
      exact ⟨Nat.zero_le _, fun c hc => by simp at hc, by simp [valD_nil]⟩

theorem valD_ge : ∀ (l : List UInt8) (n : Nat), n ≤ valD n l
  | [], n => by rw [valD_nil]; exact Nat.le_refl _
  | c :: r, n => by rw [valD_cons]; have := valD_ge r (10 * n + digv c); omega

/-- digits of a number that is small enough are gone through to their end -/
theorem wloop_all : ∀ (l m : List UInt8) (n : Nat), (∀ c ∈ l, isD c = true) → valD n l ≤ 1048576 → (∀ c, m.head? = some c → isD c = false) → wloop n (l ++ m) = (valD n l, l.length)
  | [], m, n, _, _, hm => by
    rw [List.nil_append, valD_nil]
    cases m with
    | nil => rfl
    | cons c r => exact wloop_stop (fun h => by have := hm c rfl; rw [h.1] at this; cases this)
  | c :: r, m, n, hl, hv, hm => by
    rw [valD_cons] at hv ⊢
    have hge := valD_ge r (10 * n + digv c)
    rw [List.cons_append, wloop_go ⟨hl c (by simp), by omega⟩, wloop_all r m _ (fun x hx => hl x (by simp [hx])) hv hm]
    rfl

/-- the document's 'whole' -/
def wholeL (l : List UInt8) : Int × Nat :=
  if l.head? = some 45 then
    if (wloop 0 l.tail).2 = 0 ∨ l.tail.head? = some 48 then (0, 0) else (-((wloop 0 l.tail).1 : Int), (wloop 0 l.tail).2 + 1)
  else if (wloop 0 l).2 = 0 ∨ (l.head? = some 48 ∧ 1 < (wloop 0 l).2) then (0, 0) else ((wloop 0 l).1, (wloop 0 l).2)

theorem itoa_pos {a : Int} (h : 0 ≤ a) : itoa a = decDigits a.toNat := by unfold itoa; rw [if_neg (by omega)]
theorem itoa_neg' {a : Int} (h : a < 0) : itoa a = 45 :: decDigits a.natAbs := by unfold itoa; rw [if_pos h]

theorem dig_ne_45 {c : UInt8} (h : isD c = true) : c ≠ 45 := fun e => by subst e; revert h; decide
theorem dig_ne_43 {c : UInt8} (h : isD c = true) : c ≠ 43 := fun e => by subst e; revert h; decide
theorem dig_ne_105 {c : UInt8} (h : isD c = true) : c ≠ 105 := fun e => by subst e; revert h; decide

theorem wholeL_itoa (a : Int) (m : List UInt8) (ha : inB a = true) (hm : ∀ c, m.head? = some c → isD c = false) : wholeL (itoa a ++ m) = (a, (itoa a).length) := by
  have hb := inB_iff.1 ha
  by_cases h : a < 0
  · rw [itoa_neg' h]
    unfold wholeL
    rw [List.cons_append, List.head?_cons, if_pos rfl, List.tail_cons, wloop_all _ _ _ (dec_all _) (by rw [valD_dec]; omega) hm, valD_dec, head_append (dec_ne _)]
    have hl : (decDigits a.natAbs).length ≠ 0 := fun e => dec_ne _ (List.length_eq_zero_iff.1 e)
    rw [if_neg (by rintro (e | e); exact hl e; exact dec_head _ (by omega) e)]
    simp only [List.length_cons]
    congr 1; omega
  · rw [itoa_pos (by omega)]
    obtain ⟨c, r, e, hc⟩ := dec_head_digit a.toNat
    unfold wholeL
    rw [head_append (dec_ne _), wloop_all _ _ _ (dec_all _) (by rw [valD_dec]; omega) hm, valD_dec]
    have hl : (decDigits a.toNat).length ≠ 0 := fun e => dec_ne _ (List.length_eq_zero_iff.1 e)
    rw [if_neg (by rw [e]; simpa using dig_ne_45 hc)]
    rw [if_neg]
    · congr 1; omega
    · rintro (e' | ⟨e1, e2⟩)
      · exact hl e'
      · by_cases h0 : a.toNat = 0
        · rw [h0, dec_zero] at e2; simp at e2
        · exact dec_head _ h0 e1

theorem wholeL_some (l : List UInt8) (a : Int) (n : Nat) (h : wholeL l = (a, n)) (hn : n ≠ 0) : n ≤ l.length ∧ l.take n = itoa a := by
  unfold wholeL at h
  split at h
  · rename_i h45
    cases l with
    | nil => simp at h45
    | cons c r =>
      rw [List.head?_cons] at h45
      injection h45 with h45
      subst h45
      rw [List.tail_cons] at h
      split at h
      · injection h with _ h2; exact absurd h2.symm hn
      · rename_i hnot
        obtain ⟨h1, h2, h3⟩ := wloop_spec r 0
        generalize hk : (wloop 0 r).2 = k at *
        generalize hv : (wloop 0 r).1 = v at *
        injection h with ha hn'
        subst hn'
        refine ⟨by simp; omega, ?_⟩
        rw [List.take_succ_cons]
        have hk0 : k ≠ 0 := fun e => hnot (Or.inl e)
        have hne : r.take k ≠ [] := by
          intro e
          have := congrArg List.length e
          rw [List.length_take, List.length_nil] at this
          omega
        have hhd : (r.take k).head? = r.head? := by
          cases r with
          | nil => simp at h1; omega
          | cons x y => cases k with
            | zero => exact absurd rfl hk0
            | succ k => rfl
        have hu := dec_unique _ (r.take k) rfl h2 hne (fun e => absurd (Or.inr (hhd ▸ e)) hnot)
        rw [← h3] at hu
        have hv0 : v ≠ 0 := by
          intro e
          rw [e, dec_zero] at hu
          exact hnot (Or.inr (by rw [← hhd, ← hu]; rfl))
        rw [← ha, itoa_neg' (by omega), ← hu]
        congr 2; omega
  · rename_i h45
    split at h
    · injection h with _ h2; exact absurd h2.symm hn
    · rename_i hnot
      obtain ⟨h1, h2, h3⟩ := wloop_spec l 0
      generalize hk : (wloop 0 l).2 = k at *
      generalize hv : (wloop 0 l).1 = v at *
      injection h with ha hn'
      subst hn'
      refine ⟨h1, ?_⟩
      have hne : l.take k ≠ [] := by
        intro e
        have := congrArg List.length e
        rw [List.length_take, List.length_nil] at this
        omega
      have hhd : (l.take k).head? = l.head? := by
        cases l with
        | nil => simp at h1; omega
        | cons x y => cases k with
          | zero => exact absurd rfl hn
          | succ k => rfl
      have hu := dec_unique _ (l.take k) rfl h2 hne (fun e => by
        rw [hhd] at e
        have : ¬ 1 < k := fun hk1 => hnot (Or.inr ⟨e, hk1⟩)
        rw [List.length_take]; omega)
      rw [← h3] at hu
      rw [← ha, itoa_pos (by omega), ← hu]
      congr 1

/-- the end of the document's Read -/
def finL (a : Int) (t : List UInt8) : Option (Int × Int) :=
  if (wholeL t).2 = 0 ∨ t.drop (wholeL t).2 ≠ [105] ∨ inB a = false ∨ inB (wholeL t).1 = false then none else some (a, (wholeL t).1)

/-- what stands behind the first part -/
def refT (a : Int) : List UInt8 → Option (Int × Int)
  | [] => none
  | c :: t => if c = 43 then (if t.head? = some 45 then none else finL a t) else if c = 45 then finL a (c :: t) else none

/-- the document's Read -/
def refL (l : List UInt8) : Option (Int × Int) :=
  if (wholeL l).2 = 0 ∨ (wholeL l).2 = l.length then none else refT (wholeL l).1 (l.drop (wholeL l).2)

theorem finL_some {a : Int} {t : List UInt8} {p : Int × Int} (h : finL a t = some p) : ∃ b, p = (a, b) ∧ inB a = true ∧ inB b = true ∧ t = itoa b ++ [105] := by
  unfold finL at h
  split at h
  · cases h
  · rename_i hnot
    simp only [not_or, ne_eq, Decidable.not_not, Bool.not_eq_false] at hnot
    obtain ⟨h1, h2, h3, h4⟩ := hnot
    injection h with h
    refine ⟨_, h.symm, h3, h4, ?_⟩
    have hw := wholeL_some t (wholeL t).1 (wholeL t).2 rfl h1
    rw [← hw.2, ← h2, List.take_append_drop]

theorem itoa_head_neg {b : Int} : (itoa b).head? = some 45 ↔ b < 0 := by
  constructor
  · intro h
    rcases Int.lt_or_le b 0 with hb | hb
    · exact hb
    · rw [itoa_pos hb] at h
      obtain ⟨c, r, e, hc⟩ := dec_head_digit b.toNat
      rw [e, List.head?_cons] at h
      injection h with h
      exact absurd h (dig_ne_45 hc)
  · intro h; rw [itoa_neg' h]; rfl

theorem itoa_ne (b : Int) : itoa b ≠ [] := by
  unfold itoa; split
  · simp
  · exact dec_ne _

theorem refL_some {l : List UInt8} {a b : Int} (h : refL l = some (a, b)) : inB a = true ∧ inB b = true ∧ l = shw a b := by
  unfold refL at h
  split at h
  · cases h
  · rename_i hn
    have hw := wholeL_some l (wholeL l).1 (wholeL l).2 rfl (fun e => hn (Or.inl e))
    have hl : l = itoa (wholeL l).1 ++ l.drop (wholeL l).2 := by rw [← hw.2, List.take_append_drop]
    generalize wholeL l = wl at *
    unfold refT at h
    split at h
    · cases h
    · rename_i c t hd
      rw [hd] at hl
      split at h
      · rename_i hc
        subst hc
        split at h
        · cases h
        · rename_i ht
          obtain ⟨b', hp, ha, hb, e⟩ := finL_some h
          injection hp with e1 e2
          subst e2
          rw [← e1] at hl ha
          refine ⟨ha, hb, ?_⟩
          rw [e, head_append (itoa_ne _), itoa_head_neg] at ht
          rw [hl, e]
          unfold shw sgn
          rw [if_neg ht]
          simp
      · split at h
        · rename_i hc
          subst hc
          obtain ⟨b', hp, ha, hb, e⟩ := finL_some h
          injection hp with e1 e2
          subst e2
          rw [← e1] at hl ha
          refine ⟨ha, hb, ?_⟩
          have hneg : b < 0 := by
            rw [← itoa_head_neg, ← head_append (m := [105]) (itoa_ne b), ← e]; rfl
          rw [hl, e]
          unfold shw sgn
          rw [if_pos hneg]
          simp
        · cases h

theorem finL_itoa (a b : Int) (ha : inB a = true) (hb : inB b = true) : finL a (itoa b ++ [105]) = some (a, b) := by
  unfold finL
  rw [wholeL_itoa b [105] hb (fun c h => by simp at h; subst h; decide)]
  have hl : (itoa b).length ≠ 0 := fun e => itoa_ne b (List.length_eq_zero_iff.1 e)
  simp [hl, ha, hb]

theorem sgn_itoa (b : Int) : (∃ c t, sgn b ++ itoa b = c :: t ∧ (c = 43 ∨ c = 45)) := by
  unfold sgn
  split
  · rename_i h; rw [itoa_neg' h]; exact ⟨45, _, rfl, Or.inr rfl⟩
  · exact ⟨43, _, rfl, Or.inl rfl⟩

theorem refL_shw (a b : Int) (ha : inB a = true) (hb : inB b = true) : refL (shw a b) = some (a, b) := by
  have hw : wholeL (shw a b) = (a, (itoa a).length) := by
    unfold shw
    rw [List.append_assoc]
    refine wholeL_itoa a _ ha ?_
    intro c hc
    obtain ⟨x, t, e, hx⟩ := sgn_itoa b
    rw [e] at hc
    simp at hc
    subst hc
    rcases hx with rfl | rfl <;> decide
  have hl : (itoa a).length ≠ 0 := fun e => itoa_ne a (List.length_eq_zero_iff.1 e)
  unfold refL
  rw [hw]
  have hlen : (itoa a).length ≠ (shw a b).length := by unfold shw; simp
  rw [if_neg (by rintro (e | e); exact hl e; exact hlen e)]
  have hd : (shw a b).drop (itoa a).length = (sgn b ++ itoa b) ++ [105] := by
    unfold shw; rw [List.append_assoc, List.drop_left]
  simp only [hd]
  by_cases h : b < 0
  · have e : sgn b ++ itoa b ++ [105] = 45 :: (decDigits b.natAbs ++ [105]) := by
      unfold sgn; rw [if_pos h, itoa_neg' h]; rfl
    rw [e]
    simp only [refT]
    rw [if_neg (by decide), if_pos trivial]
    have := finL_itoa a b ha hb
    rw [itoa_neg' h] at this
    exact this
  · have e : sgn b ++ itoa b ++ [105] = 43 :: (itoa b ++ [105]) := by
      unfold sgn; rw [if_neg h]; rfl
    rw [e]
    simp only [refT]
    rw [if_pos trivial, if_neg, finL_itoa a b ha hb]
    rw [head_append (itoa_ne _), itoa_head_neg]; exact h

/-! ### The program's reader -/

/-- two parts that were parsed, if they are a point's -/
def finP : NumEnd Int → NumEnd Int → Option (Int × Int)
  | .ok a, .ok b => if (inB a && inB b) = true then some (a, b) else none
  | _, _ => none

/-- what the program's 'guess' finds, if the first sign behind the first byte stands at k (counted behind that byte) -/
def guessL (l : List UInt8) (k : Int) : Option (Int × Int) :=
  if hasSuffix l [105] = false ∨ trimSuffix l [105] = [] ∨ k = -1 then none else
  finP (parseIntB 64 ((trimSuffix l [105]).take (1 + k).toNat)) (parseIntB 64 ((trimSuffix l [105]).drop (1 + k).toNat))

theorem guessL_bd {l : List UInt8} {k : Int} {a b : Int} (h : guessL l k = some (a, b)) : inB a = true ∧ inB b = true := by
  unfold guessL at h
  split at h
  · cases h
  · unfold finP at h
    split at h
    · split at h
      · rename_i hh
        injection h with h
        injection h with h1 h2
        subst h1; subst h2
        simpa using hh
      · cases h
    · cases h

theorem suffix_105 (m : List UInt8) : hasSuffix (m ++ [105]) [105] = true ∧ trimSuffix (m ++ [105]) [105] = m := by
  have h : hasSuffix (m ++ [105]) [105] = true := by
    unfold hasSuffix
    rw [List.isSuffixOf_iff_suffix]
    exact ⟨m, rfl⟩
  refine ⟨h, ?_⟩
  unfold trimSuffix
  rw [if_pos h]
  simp

theorem itoa_tail (a : Int) : ∃ c r, itoa a = c :: r ∧ ∀ x ∈ r, isD x = true := by
  by_cases h : a < 0
  · exact ⟨45, _, itoa_neg' h, dec_all _⟩
  · obtain ⟨c, r, e, hc⟩ := dec_head_digit a.toNat
    exact ⟨c, r, by rw [itoa_pos (by omega), e], fun x hx => dec_all a.toNat x (by rw [e]; simp [hx])⟩

theorem indexAny_shw (a b : Int) : indexAny ((itoa a ++ (sgn b ++ itoa b)).drop 1) [43, 45] = (((itoa a).length - 1 : Nat) : Int) := by
  obtain ⟨c, r, e, hr⟩ := itoa_tail a
  obtain ⟨x, t, e2, hx⟩ := sgn_itoa b
  rw [e, e2, List.cons_append, List.drop_succ_cons, List.drop_zero, List.length_cons, Nat.add_sub_cancel]
  refine indexAny_hit (x := x) ?_ (by simp) (by rcases hx with rfl | rfl <;> decide)
  intro j y hj hy
  rw [List.getElem?_append_left hj] at hy
  have hy' := hr y (List.mem_of_getElem? hy)
  have h1 := dig_ne_43 hy'
  have h2 := dig_ne_45 hy'
  simp [h1, h2]

/-- a point's text is found -/
theorem guessL_shw (a b : Int) (ha : inB a = true) (hb : inB b = true) : guessL (shw a b) (indexAny ((trimSuffix (shw a b) [105]).drop 1) [43, 45]) = some (a, b) := by
  have ha' := inB_iff.1 ha
  have hb' := inB_iff.1 hb
  obtain ⟨s1, s2⟩ := suffix_105 (itoa a ++ (sgn b ++ itoa b))
  have e : shw a b = itoa a ++ (sgn b ++ itoa b) ++ [105] := rfl
  rw [e, s2, indexAny_shw]
  have hl : 0 < (itoa a).length := List.length_pos_iff.2 (itoa_ne a)
  unfold guessL
  rw [s1, s2, if_neg]
  · have ek : (1 + (((itoa a).length - 1 : Nat) : Int)).toNat = (itoa a).length := by omega
    rw [ek, List.take_left, List.drop_left, parseIntB_64, parseIntB_64, atoiAll_itoa a (by omega)]
    have e2 : atoiAll (sgn b ++ itoa b) = .ok b := by
      unfold sgn
      split
      · exact atoiAll_itoa b (by omega)
      · exact atoiAll_plus_itoa b (by omega) (by omega)
    rw [e2]
    simp [finP, ha, hb]
  · rintro (h | h | h)
    · cases h
    · have := congrArg List.length h
      simp at this
      exact itoa_ne a this.1
    · omega

/-- the point of which a text is the text -/
def readL (l : List UInt8) : Option (Int × Int) := refL l

theorem readL_iff {l : List UInt8} {a b : Int} : refL l = some (a, b) ↔ inB a = true ∧ inB b = true ∧ l = shw a b :=
  ⟨refL_some, fun ⟨h1, h2, h3⟩ => by rw [h3]; exact refL_shw a b h1 h2⟩

theorem shw_ascii (a b : Int) : ∀ c ∈ shw a b, c.toNat < 128 := by
  have hd : ∀ c, isD c = true → c.toNat < 128 := fun c h => by have := isD_iff.1 h; omega
  have hi : ∀ n, ∀ c ∈ itoa n, c.toNat < 128 := fun n c hc => by
    unfold itoa at hc
    split at hc
    · rcases List.mem_cons.1 hc with rfl | hc
      · decide
      · exact hd c (dec_all _ c hc)
    · exact hd c (dec_all _ c hc)
  intro c hc
  unfold shw at hc
  rcases List.mem_append.1 hc with hc | hc
  · rcases List.mem_append.1 hc with hc | hc
    · exact hi a c hc
    · rcases List.mem_append.1 hc with hc | hc
      · unfold sgn at hc
        split at hc
        · simp at hc
        · rw [List.mem_singleton] at hc; subst hc; decide
      · exact hi b c hc
  · rw [List.mem_singleton] at hc; subst hc; decide

end Go.Proofs.YtimcecbnnohneaaDoor
