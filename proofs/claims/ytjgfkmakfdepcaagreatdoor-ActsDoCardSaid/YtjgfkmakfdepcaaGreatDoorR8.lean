/- Own texts, joined: F3, F4, F5, F6. -/
import Derived.Test.YtjgfkmakfdepcaaGreatDoorR5
import Derived.Test.YtjgfkmakfdepcaaGreatDoorR7
namespace Go.Proofs.YtjgfkmakfdepcaaGreatDoor

theorem wordD_same {s : List UInt8} {p : Nat} {cs : List CM} {a b : Rs} (h : p + 3 ≤ s.length → a = b) : wordD s p cs (wordP s p) a = wordD s p cs (wordP s p) b := by
  unfold wordD
  split
  · rfl
  · split
    · rfl
    · split
      · rfl
      · split
        · rfl
        · rename_i h40
          have h3 := nx_lt (s := s) (p := p + (wordP s p).length) (by rw [Decidable.not_not.1 h40]; decide)
          split
          · rfl
          · split
            · rename_i e; rw [e] at h3; simp [wRe] at h3; rw [h (by omega)]
            · split
              · rename_i e; rw [e] at h3; simp [wIm] at h3; rw [h (by omega)]
              · rfl

def goodQ : Q → Prop
  | .joins k => 1 ≤ k ∧ k ≤ 6
  | .loop k _ => 1 ≤ k ∧ k ≤ 5
  | .ahead => True

/-- one round more changes nothing, where there are enough -/
theorem more (s : List UInt8) : ∀ (n : Nat) (q : Q) (p : Nat) (cs : List CM), goodQ q → p ≤ s.length → need s q p ≤ n → D s (n + 1) q p cs = D s n q p cs := by
  intro n
  induction n with
  | zero => intro q p cs hg hp hn; cases q <;> simp only [need, goodQ] at hn hg <;> omega
  | succ n ih =>
    intro q p cs hg hp hn
    cases q with
    | joins k =>
      rw [D_joins s (n + 1) k p cs, D_joins s n k p cs]
      by_cases h6 : k = 6
      · subst h6
        rw [if_pos rfl, if_pos rfl]
        exact ih .ahead p cs trivial hp (by simp only [need] at *; omega)
      · rw [if_neg h6, if_neg h6]
        have hk : k ≤ 6 := hg.2
        have h1 := ih (.joins (k + 1)) p cs ⟨by omega, by omega⟩ hp (by simp only [need] at *; omega)
        rw [h1]
        by_cases hb : (D s n (.joins (k + 1)) p cs).1 = true
        · rw [if_pos hb, if_pos hb]
          have hgo := goes s n (.joins (k + 1)) p cs hp
          have hgt : p < (D s n (.joins (k + 1)) p cs).2.1 := hgo.gt hb
          have hle := hgo.le
          exact ih (.loop k false) _ _ ⟨hg.1, by omega⟩ hle (by simp only [need] at *; omega)
        · rw [if_neg hb, if_neg hb]
    | loop k cmp =>
      rw [D_loop s (n + 1) k cmp p cs, D_loop s n k cmp p cs]
      have hk1 : 1 ≤ k := hg.1
      have hk5 : k ≤ 5 := hg.2
      by_cases hs : (opAt s p).2.2 ≠ k
      · rw [if_pos hs, if_pos hs]
      · rw [if_neg hs, if_neg hs]
        by_cases hc : cmp = true
        · rw [if_pos hc, if_pos hc]
        · rw [if_neg hc, if_neg hc]
          have hs := Decidable.not_not.1 hs
          have ho := opAt_some (s := s) (p := p) (by omega)
          have h1 := ih (.joins (k + 1)) (p + (opAt s p).2.1) cs ⟨by omega, by omega⟩ ho.2 (by simp only [need] at *; omega)
          rw [h1]
          by_cases hb : (D s n (.joins (k + 1)) (p + (opAt s p).2.1) cs).1 = true
          · rw [if_pos hb, if_pos hb]
            have hgo := goes s n (.joins (k + 1)) (p + (opAt s p).2.1) cs ho.2
            have hgt : p + (opAt s p).2.1 < (D s n (.joins (k + 1)) (p + (opAt s p).2.1) cs).2.1 := hgo.gt hb
            have hle := hgo.le
            exact ih (.loop k (k == 3)) _ _ ⟨hk1, hk5⟩ hle (by simp only [need] at *; omega)
          · rw [if_neg hb, if_neg hb]
    | ahead =>
      rw [D_ahead s (n + 1) p cs, D_ahead s n p cs]
      by_cases h45 : nx s p = 45
      · rw [if_pos h45, if_pos h45]
        have := nx_lt (s := s) (p := p) (by rw [h45]; decide)
        rw [ih .ahead (p + 1) cs trivial (by omega) (by simp only [need] at *; omega)]
      · rw [if_neg h45, if_neg h45]
        by_cases h33 : nx s p = 33
        · rw [if_pos h33, if_pos h33]
          have := nx_lt (s := s) (p := p) (by rw [h33]; decide)
          rw [ih .ahead (p + 1) cs trivial (by omega) (by simp only [need] at *; omega)]
        · rw [if_neg h33, if_neg h33]
          by_cases h40 : nx s p = 40
          · rw [if_pos h40, if_pos h40]
            have := nx_lt (s := s) (p := p) (by rw [h40]; decide)
            rw [ih (.joins 1) (p + 1) cs ⟨by omega, by omega⟩ (by omega) (by simp only [need] at *; omega)]
          · rw [if_neg h40, if_neg h40]
            by_cases hd : isD (nx s p) = true
            · rw [if_pos hd, if_pos hd]
            · rw [if_neg hd, if_neg hd]
              exact wordD_same (fun h3 => ih (.joins 1) (p + 3) cs ⟨by omega, by omega⟩ h3 (by simp only [need] at *; omega))

theorem more_to (s : List UInt8) (q : Q) (p : Nat) (cs : List CM) (hg : goodQ q) (hp : p ≤ s.length) (n : Nat) (h : need s q p ≤ n) : D s n q p cs = D s (need s q p) q p cs := by
  obtain ⟨d, rfl⟩ : ∃ d, n = need s q p + d := ⟨n - need s q p, by omega⟩
  clear h
  induction d with
  | zero => rfl
  | succ d ih => rw [← ih, ← Nat.add_assoc]; exact more s _ q p cs hg hp (by omega)

/-- the reading -/
def E (s : List UInt8) (q : Q) (p : Nat) (cs : List CM) : Rs := D s (need s q p) q p cs

section
variable {s : List UInt8} {p : Nat} {cs : List CM}
theorem D_E {n : Nat} {q : Q} (hg : goodQ q) (hp : p ≤ s.length) (h : need s q p ≤ n) : D s n q p cs = E s q p cs := more_to s q p cs hg hp n h

theorem E_six (hp : p ≤ s.length) : E s (.joins 6) p cs = E s .ahead p cs := by
  rw [← D_E (q := .joins 6) (n := need s (.joins 6) p + 1) ⟨by omega, by omega⟩ hp (by omega), D_joins, if_pos rfl]
  exact D_E (q := .ahead) trivial hp (by simp only [need]; omega)
theorem E_joins {k : Nat} (hk : 1 ≤ k) (hk5 : k ≤ 5) (hp : p ≤ s.length) : E s (.joins k) p cs =
    if (E s (.joins (k + 1)) p cs).1 = true then E s (.loop k false) (E s (.joins (k + 1)) p cs).2.1 (E s (.joins (k + 1)) p cs).2.2 else E s (.joins (k + 1)) p cs := by
  rw [← D_E (q := .joins k) (n := need s (.joins k) p + 1) ⟨by omega, by omega⟩ hp (by omega), D_joins, if_neg (by omega)]
  have h1 := D_E (s := s) (p := p) (cs := cs) (n := need s (.joins k) p) (q := .joins (k + 1)) ⟨by omega, by omega⟩ hp (by simp only [need]; omega)
  rw [h1]
  by_cases hb : (E s (.joins (k + 1)) p cs).1 = true
  · rw [if_pos hb, if_pos hb]
    have hgo := goes s (need s (.joins (k + 1)) p) (.joins (k + 1)) p cs hp
    have hgt : p < (E s (.joins (k + 1)) p cs).2.1 := hgo.gt hb
    have hle : (E s (.joins (k + 1)) p cs).2.1 ≤ s.length := hgo.le
    exact D_E (q := .loop k false) ⟨hk, hk5⟩ hle (by simp only [need] at *; omega)
  · rw [if_neg hb, if_neg hb]
theorem E_loop {k : Nat} {cmp : Bool} (hk : 1 ≤ k) (hk5 : k ≤ 5) (hp : p ≤ s.length) : E s (.loop k cmp) p cs =
    if (opAt s p).2.2 ≠ k then (true, p, cs)
    else if cmp = true then (false, p, cs)
    else if (E s (.joins (k + 1)) (p + (opAt s p).2.1) cs).1 = true then
      E s (.loop k (k == 3)) (E s (.joins (k + 1)) (p + (opAt s p).2.1) cs).2.1 ((E s (.joins (k + 1)) (p + (opAt s p).2.1) cs).2.2 ++ [opC (opAt s p).1])
    else E s (.joins (k + 1)) (p + (opAt s p).2.1) cs := by
  rw [← D_E (q := .loop k cmp) (n := need s (.loop k cmp) p + 1) ⟨hk, hk5⟩ hp (by omega), D_loop]
  by_cases hs : (opAt s p).2.2 ≠ k
  · rw [if_pos hs, if_pos hs]
  · rw [if_neg hs, if_neg hs]
    by_cases hc : cmp = true
    · rw [if_pos hc, if_pos hc]
    · rw [if_neg hc, if_neg hc]
      have hs := Decidable.not_not.1 hs
      have ho := opAt_some (s := s) (p := p) (by omega)
      have h1 := D_E (s := s) (p := p + (opAt s p).2.1) (cs := cs) (n := need s (.loop k cmp) p) (q := .joins (k + 1)) ⟨by omega, by omega⟩ ho.2 (by simp only [need]; omega)
      rw [h1]
      by_cases hb : (E s (.joins (k + 1)) (p + (opAt s p).2.1) cs).1 = true
      · rw [if_pos hb, if_pos hb]
        have hgo := goes s (need s (.joins (k + 1)) (p + (opAt s p).2.1)) (.joins (k + 1)) (p + (opAt s p).2.1) cs ho.2
        have hgt : p + (opAt s p).2.1 < (E s (.joins (k + 1)) (p + (opAt s p).2.1) cs).2.1 := hgo.gt hb
        have hle : (E s (.joins (k + 1)) (p + (opAt s p).2.1) cs).2.1 ≤ s.length := hgo.le
        exact D_E (q := .loop k (k == 3)) ⟨hk, hk5⟩ hle (by simp only [need] at *; omega)
      · rw [if_neg hb, if_neg hb]
theorem E_ahead (hp : p ≤ s.length) : E s .ahead p cs =
    if nx s p = 45 then addD 7 (E s .ahead (p + 1) cs)
    else if nx s p = 33 then addD 8 (E s .ahead (p + 1) cs)
    else if nx s p = 40 then closeD s (E s (.joins 1) (p + 1) cs)
    else if isD (nx s p) = true then numD s p cs
    else wordD s p cs (wordP s p) (E s (.joins 1) (p + 3) cs) := by
  rw [← D_E (q := .ahead) (n := need s .ahead p + 1) trivial hp (by omega), D_ahead]
  by_cases h45 : nx s p = 45
  · rw [if_pos h45, if_pos h45]
    have := nx_lt (s := s) (p := p) (by rw [h45]; decide)
    rw [D_E (q := .ahead) trivial (by omega) (by simp only [need]; omega)]
  · rw [if_neg h45, if_neg h45]
    by_cases h33 : nx s p = 33
    · rw [if_pos h33, if_pos h33]
      have := nx_lt (s := s) (p := p) (by rw [h33]; decide)
      rw [D_E (q := .ahead) trivial (by omega) (by simp only [need]; omega)]
    · rw [if_neg h33, if_neg h33]
      by_cases h40 : nx s p = 40
      · rw [if_pos h40, if_pos h40]
        have := nx_lt (s := s) (p := p) (by rw [h40]; decide)
        rw [D_E (q := .joins 1) ⟨by omega, by omega⟩ (by omega) (by simp only [need]; omega)]
      · rw [if_neg h40, if_neg h40]
        by_cases hd : isD (nx s p) = true
        · rw [if_pos hd, if_pos hd]
        · rw [if_neg hd, if_neg hd]
          exact wordD_same (fun h3 => D_E (q := .joins 1) ⟨by omega, by omega⟩ h3 (by simp only [need]; omega))
theorem parse_E (s : List UInt8) : parseP s = if 600 < s.length then ([], 0, 4)
    else if (E s (.joins 1) 0 []).1 = false ∨ (E s (.joins 1) 0 []).2.1 < s.length then ([], (E s (.joins 1) 0 []).2.1, 1)
    else if 32 < (E s (.joins 1) 0 []).2.2.length then ([], 0, 4) else ((E s (.joins 1) 0 []).2.2, 0, 0) := by
  unfold parseP
  rw [D_E (q := .joins 1) ⟨by omega, by omega⟩ (Nat.zero_le _) (by simp only [need]; omega)]
end
end Go.Proofs.YtjgfkmakfdepcaaGreatDoor
namespace Go.Proofs.YtjgfkmakfdepcaaGreatDoor

/-- x stands at place p -/
def At (s : List UInt8) (p : Nat) (x : List UInt8) : Prop := p + x.length ≤ s.length ∧ ∃ r, s.drop p = x ++ r

section
variable {s x y : List UInt8} {p : Nat} {c : UInt8}
theorem At.le (h : At s p x) : p + x.length ≤ s.length := h.1
theorem At.head (h : At s p (c :: x)) : nx s p = c ∧ At s (p + 1) x := by
  obtain ⟨h1, r, h2⟩ := h
  simp only [List.length_cons] at h1
  have hp : p < s.length := by omega
  rw [List.drop_eq_getElem_cons hp] at h2
  injection h2 with h3 h4
  refine ⟨by rw [nx_at hp, h3], by omega, r, h4⟩
theorem At.split (h : At s p (x ++ y)) : At s p x ∧ At s (p + x.length) y := by
  obtain ⟨h1, r, h2⟩ := h
  rw [List.length_append] at h1
  refine ⟨⟨by omega, y ++ r, by rw [h2, List.append_assoc]⟩, ⟨by omega, r, ?_⟩⟩
  rw [← List.drop_drop, h2, List.append_assoc, List.drop_left']
  rfl
theorem At.all (s : List UInt8) : At s 0 s := ⟨by omega, [], by simp⟩

/-- what a word cannot go on with -/
def Fol (s : List UInt8) (q : Nat) : Prop := okB (nx s q) = false
theorem fol_end : Fol s s.length := by unfold Fol; rw [nx_end (Nat.le_refl _)]; decide

theorem takeWhile_at {f : UInt8 → Bool} (h : At s p x) (hx : x.all f = true) (hf : f (nx s (p + x.length)) = false) : (s.drop p).takeWhile f = x := by
  obtain ⟨h1, r, h2⟩ := h
  rw [h2]
  have hr : r.takeWhile f = [] := by
    cases r with
    | nil => rfl
    | cons c r' =>
      have e : s.drop (p + x.length) = c :: r' := by rw [← List.drop_drop, h2, List.drop_left']; rfl
      have hp : p + x.length < s.length := by
        rcases Nat.lt_or_ge (p + x.length) s.length with h | h
        · exact h
        · rw [List.drop_of_length_le h] at e; cases e
      rw [List.drop_eq_getElem_cons hp] at e
      injection e with e1 e2
      rw [nx_at hp, e1] at hf
      simp [hf]
  have : ∀ (x : List UInt8), x.all f = true → (x ++ r).takeWhile f = x := by
    intro x
    induction x with
    | nil => intro _; exact hr
    | cons c x ih =>
      intro hx
      rw [List.all_cons, Bool.and_eq_true] at hx
      rw [List.cons_append, List.takeWhile_cons_of_pos hx.1, ih hx.2]
  exact this x hx
theorem word_at (h : At s p x) (hx : x.all okB = true) (hf : Fol s (p + x.length)) : wordP s p = x := takeWhile_at h hx hf

theorem okB_digit (h : isD c = true) : okB c = true := by simp [okB, h]
end

/-- an operator's text and what follows it -/
theorem op_at {s x : List UInt8} {p : Nat} {c : UInt8} {k : Nat} (hk : k < 13) (h : At s p ((tabAt k).2.1 ++ c :: x)) (hc : c ≠ 61) :
    opAt s p = ((tabAt k).1, (tabAt k).2.1.length, (tabAt k).2.2.toNat) ∧ Fol s p := by
  have hh : k = 0 ∨ k = 1 ∨ k = 2 ∨ k = 3 ∨ k = 4 ∨ k = 5 ∨ k = 6 ∨ k = 7 ∨ k = 8 ∨ k = 9 ∨ k = 10 ∨ k = 11 ∨ k = 12 := by omega
  rcases hh with rfl | rfl | rfl | rfl | rfl | rfl | rfl | rfl | rfl | rfl | rfl | rfl | rfl
  all_goals
    have h1 := h.head
    have h2 := h1.2.head
    unfold opAt Fol
    rw [h1.1, h2.1]
    first
      | exact ⟨rfl, by decide⟩
      | exact ⟨by simp [opOf, hc]; exact ⟨rfl, rfl, rfl⟩, by decide⟩
theorem tab_first (k : Nat) (hk : k < 13) : (tabAt k).1 = (k : Int) + 11 ∧ 1 ≤ (tabAt k).2.2 ∧ (tabAt k).2.2 ≤ 5 := by
  have hh : k = 0 ∨ k = 1 ∨ k = 2 ∨ k = 3 ∨ k = 4 ∨ k = 5 ∨ k = 6 ∨ k = 7 ∨ k = 8 ∨ k = 9 ∨ k = 10 ∨ k = 11 ∨ k = 12 := by omega
  rcases hh with rfl | rfl | rfl | rfl | rfl | rfl | rfl | rfl | rfl | rfl | rfl | rfl | rfl <;> decide

/-- a piece's text begins with something, and that is no = -/
def NoEq (x : List UInt8) : Prop := ∃ c r, x = c :: r ∧ c ≠ 61
theorem noeq_in {x : List UInt8} {a b : Int} (h : NoEq x) : NoEq (inP x a b) := by
  unfold inP
  split
  · exact ⟨40, x ++ [41], rfl, by decide⟩
  · exact h
theorem noeq_append {x y : List UInt8} (h : NoEq x) : NoEq (x ++ y) := by
  obtain ⟨c, r, rfl, hc⟩ := h
  exact ⟨c, r ++ y, rfl, hc⟩
theorem dec_first (u : Nat) : ∃ c r, Lib.decDigits u = c :: r ∧ isD c = true := by
  induction u using Nat.strongRecOn with
  | _ u ih =>
    by_cases h : u < 10
    · rw [dec_small h]
      exact ⟨_, _, rfl, by rw [isD_iff, digit_ofNat h]; omega⟩
    · rw [dec_big h]
      obtain ⟨c, r, e, hc⟩ := ih (u / 10) (by omega)
      exact ⟨c, _, by rw [e]; rfl, hc⟩
theorem itoa_nat {a : Int} (h : 0 ≤ a) : Lib.itoa a = Lib.decDigits a.toNat := by
  unfold Lib.itoa
  rw [if_neg (by omega)]
theorem digit_noeq {c : UInt8} (h : isD c = true) : c ≠ 61 := by rintro rfl; exact absurd h (by decide)
theorem name_head {l : List UInt8} (h : nameB l = true) : ∃ c r, l = c :: r ∧ isLB c = true ∧ r.all okB = true ∧ takenB l = false := by
  cases l with
  | nil => cases h
  | cons c r =>
    simp [nameB] at h
    exact ⟨c, r, rfl, h.1.1.2, by simpa using h.1.2, h.2⟩
theorem noeq_leaf {c : CM} (h : formedB c = true) (ho : operN c.op = 0) : NoEq (joinP c none0 none0).1 := by
  have h16 : 1 ≤ c.op ∧ c.op ≤ 6 := by
    have := formed_op h
    unfold operN at ho
    split at ho
    · assumption
    · split at ho <;> omega
  unfold joinP
  split
  · rename_i e
    have := formed_num h (Or.inl e)
    rw [itoa_nat this.1]
    obtain ⟨d, r, e2, hd⟩ := dec_first c.a.toNat
    exact ⟨d, r, e2, digit_noeq hd⟩
  · split
    · rename_i e
      have := formed_num h (Or.inr e)
      rw [itoa_nat this.1]
      obtain ⟨d, r, e2, hd⟩ := dec_first c.a.toNat
      exact noeq_append ⟨d, r, e2, digit_noeq hd⟩
    · split
      · exact ⟨116, _, rfl, by decide⟩
      · split
        · exact ⟨102, _, rfl, by decide⟩
        · split
          · rename_i e
            unfold formedB at h
            rw [if_neg (by omega), if_neg (by omega), if_pos (Or.inl e)] at h
            simp at h
            obtain ⟨d, r, e2, hd, _⟩ := name_head h.2
            exact ⟨d, r, e2, by rintro rfl; exact absurd hd (by decide)⟩
          · split
            · exact ⟨105, _, rfl, by decide⟩
            · exfalso; omega
theorem joinP_bin {o : Int} (h : 11 ≤ o) (a b : Pc) : joinP (opC o) a b = betP (tabAt (o - 11).toNat).2.1 (tabAt (o - 11).toNat).2.2 a b := by
  unfold joinP opC
  simp only
  rw [if_neg (by omega), if_neg (by omega), if_neg (by omega), if_neg (by omega), if_neg (by omega), if_neg (by omega), if_neg (by omega), if_neg (by omega), if_neg (by omega), if_neg (by omega)]
theorem noeq {t : T} (h : OkT t) : NoEq (pcT t).1 := by
  induction t with
  | leaf c => exact noeq_leaf h.1 h.2
  | un o t ih =>
    have hc : o = 7 ∨ o = 8 ∨ o = 9 ∨ o = 10 := by have := h.1; have := h.2.1; omega
    rcases hc with rfl | rfl | rfl | rfl
    · exact ⟨45, _, rfl, by decide⟩
    · exact ⟨33, _, rfl, by decide⟩
    · exact ⟨114, _, rfl, by decide⟩
    · exact ⟨105, _, rfl, by decide⟩
  | bin o l r ihl ihr =>
    show NoEq (joinP (opC o) (pcT l) (pcT r)).1
    rw [joinP_bin h.1]
    exact noeq_append (noeq_append (noeq_in (ihl h.2.2.1)))
end Go.Proofs.YtjgfkmakfdepcaaGreatDoor
namespace Go.Proofs.YtjgfkmakfdepcaaGreatDoor

theorem loop_exit {s : List UInt8} {q k : Nat} {b : Bool} {cs : List CM} (hk : 1 ≤ k) (hk5 : k ≤ 5) (hq : q ≤ s.length) (h : (opAt s q).2.2 ≠ k) : E s (.loop k b) q cs = (true, q, cs) := by
  rw [E_loop hk hk5 hq, if_pos h]
/-- what is read by a strength is read by all below, down to that of what follows -/
theorem up {s : List UInt8} {p q : Nat} {cs cs' : List CM} (hp : p ≤ s.length) (hq : q ≤ s.length) {k : Nat} (_hk : 1 ≤ k) (ho : (opAt s q).2.2 < k) : ∀ d j, k + d = j → j ≤ 6 → E s (.joins j) p cs = (true, q, cs') → E s (.joins k) p cs = (true, q, cs') := by
  intro d
  induction d with
  | zero =>
    intro j hj _ h
    obtain rfl : k = j := by omega
    exact h
  | succ d ih =>
    intro j hj h6 h
    refine ih (k + d) rfl (by omega) ?_
    obtain rfl : j = k + d + 1 := by omega
    rw [E_joins (by omega) (by omega) hp, h, if_pos rfl]
    show E s (.loop (k + d) false) q cs' = _
    exact loop_exit (by omega) (by omega) hq (by omega)
theorem up_ahead {s : List UInt8} {p q : Nat} {cs cs' : List CM} (hp : p ≤ s.length) (hq : q ≤ s.length) {k : Nat} (hk : 1 ≤ k) (h6 : k ≤ 6) (ho : (opAt s q).2.2 < k) (h : E s .ahead p cs = (true, q, cs')) : E s (.joins k) p cs = (true, q, cs') :=
  up hp hq hk ho (6 - k) 6 (by omega) (by omega) ((E_six hp).trans h)

def txt (k : Int) (t : T) : List UInt8 := inP (pcT t).1 (pcT t).2 k

/-- a tree's own text, read -/
structure U (s : List UInt8) (t : T) : Prop where
  high : ∀ p cs, At s p (pcT t).1 → Fol s (p + (pcT t).1.length) → 6 ≤ (pcT t).2 → E s .ahead p cs = (true, p + (pcT t).1.length, cs ++ post t)
  low : ∀ p cs (k : Nat), At s p (pcT t).1 → Fol s (p + (pcT t).1.length) → (pcT t).2 = (k : Int) → 1 ≤ k → k ≤ 5 → (opAt s (p + (pcT t).1.length)).2.2 ≤ k →
    E s (.joins k) p cs = E s (.loop k (k == 3)) (p + (pcT t).1.length) (cs ++ post t)

theorem strength {t : T} (h : OkT t) : 1 ≤ (pcT t).2 ∧ (pcT t).2 ≤ 7 ∧ ((pcT t).2 ≤ 5 ∨ 6 ≤ (pcT t).2) := by
  cases t with
  | leaf c =>
    have h16 : 1 ≤ c.op ∧ c.op ≤ 6 := by
      have h1 := formed_op h.1
      have ho := h.2
      unfold operN at ho
      split at ho
      · assumption
      · split at ho <;> omega
    have hc : c.op = 1 ∨ c.op = 2 ∨ c.op = 3 ∨ c.op = 4 ∨ c.op = 5 ∨ c.op = 6 := by omega
    have : (pcT (.leaf c)).2 = 7 := by
      show (joinP c none0 none0).2 = 7
      unfold joinP
      rcases hc with e | e | e | e | e | e <;> simp [e]
    rw [this]; omega
  | un o t =>
    have hc : o = 7 ∨ o = 8 ∨ o = 9 ∨ o = 10 := by have := h.1; have := h.2.1; omega
    rcases hc with rfl | rfl | rfl | rfl <;> (show 1 ≤ (joinP _ _ _).2 ∧ _ ∧ _; simp [pcT, joinP, opC])
  | bin o l r =>
    have h1 := tab_first (o - 11).toNat (by have := h.1; have := h.2.1; omega)
    have : (pcT (.bin o l r)).2 = (tabAt (o - 11).toNat).2.2 := by
      show (joinP (opC o) (pcT l) (pcT r)).2 = _
      rw [joinP_bin h.1]; rfl
    rw [this]; omega

theorem opAt_41 {s : List UInt8} {q : Nat} (h : nx s q = 41) : opAt s q = (0, 0, 0) := by unfold opAt; rw [h]; rfl
theorem opAt_end (s : List UInt8) : opAt s s.length = (0, 0, 0) := by unfold opAt; rw [nx_end (Nat.le_refl _)]; rfl

/-- by any strength below its own, where no stronger operator follows -/
theorem U.plain {s : List UInt8} {t : T} (ht : OkT t) (h : U s t) {p : Nat} {cs : List CM} {k : Nat} (ha : At s p (pcT t).1) (hf : Fol s (p + (pcT t).1.length)) (hk : 1 ≤ k) (hk6 : k ≤ 6) (hs : (k : Int) ≤ (pcT t).2) (ho : (opAt s (p + (pcT t).1.length)).2.2 < k) :
    E s (.joins k) p cs = (true, p + (pcT t).1.length, cs ++ post t) := by
  have hle := ha.le
  obtain ⟨h1, h2, h3⟩ := strength ht
  rcases h3 with h3 | h3
  · obtain ⟨j, hj⟩ : ∃ j : Nat, (pcT t).2 = (j : Int) := ⟨(pcT t).2.toNat, by omega⟩
    have hlow := h.low p cs j ha hf hj (by omega) (by omega) (by omega)
    rw [loop_exit (by omega) (by omega) hle (by omega)] at hlow
    exact up (by omega) hle hk ho (j - k) j (by omega) (by omega) hlow
  · exact up_ahead (by omega) hle hk hk6 ho (h.high p cs ha hf h3)

theorem paren {s : List UInt8} {t : T} (ht : OkT t) (h : U s t) {p : Nat} {cs : List CM} (ha : At s p ([40] ++ (pcT t).1 ++ [41])) : E s .ahead p cs = (true, p + ([40] ++ (pcT t).1 ++ [41]).length, cs ++ post t) := by
  have hle := ha.le
  have h40 := (ha.split.1.head)
  have h41 := ha.split.2.head.1
  rw [E_ahead (by omega), h40.1, if_neg (by decide), if_neg (by decide), if_pos rfl]
  have e1 : p + ([40] ++ (pcT t).1).length = p + 1 + (pcT t).1.length := by simp; omega
  rw [e1] at h41
  have hst := strength ht
  rw [h.plain ht h40.2 (by unfold Fol; rw [h41]; decide) (by omega) (by omega) (by omega) (by rw [opAt_41 h41]; decide)]
  unfold closeD
  rw [if_pos rfl, if_pos h41]
  have e2 : p + ([40] ++ (pcT t).1 ++ [41]).length = p + 1 + (pcT t).1.length + 1 := by simp; omega
  rw [e2]

theorem txt_ahead {s : List UInt8} {t : T} (ht : OkT t) (h : U s t) {p : Nat} {cs : List CM} (ha : At s p (txt 6 t)) (hf : Fol s (p + (txt 6 t).length)) : E s .ahead p cs = (true, p + (txt 6 t).length, cs ++ post t) := by
  unfold txt inP at *
  split at ha
  · rename_i hlt
    rw [if_pos hlt]
    exact paren ht h ha
  · rename_i hlt
    rw [if_neg hlt] at hf ⊢
    exact h.high p cs ha hf (by omega)

theorem txt_read {s : List UInt8} {t : T} (ht : OkT t) (h : U s t) {p : Nat} {cs : List CM} {k : Nat} (hk : 1 ≤ k) (hk6 : k ≤ 6) (ha : At s p (txt k t)) (hf : Fol s (p + (txt k t).length)) (ho : (opAt s (p + (txt k t).length)).2.2 < k) :
    E s (.joins k) p cs = (true, p + (txt k t).length, cs ++ post t) := by
  have hle := ha.le
  unfold txt inP at *
  split at ha
  · rename_i hlt
    rw [if_pos hlt] at ho hf hle ⊢
    exact up_ahead (by omega) hle hk hk6 ho (paren ht h ha)
  · rename_i hlt
    rw [if_neg hlt] at ho hf ⊢
    exact h.plain ht ha hf hk hk6 (by omega) ho

/-- the left operand of an operator of strength k, up to the loop -/
theorem left_read {s : List UInt8} {t : T} (ht : OkT t) (h : U s t) {p : Nat} {cs : List CM} {k : Nat} (hk : 1 ≤ k) (hk5 : k ≤ 5) (h3 : k ≠ 3) (ha : At s p (txt k t)) (hf : Fol s (p + (txt k t).length)) (ho : (opAt s (p + (txt k t).length)).2.2 = k) :
    E s (.joins k) p cs = E s (.loop k false) (p + (txt k t).length) (cs ++ post t) := by
  have hle := ha.le
  have up1 : E s (.joins (k + 1)) p cs = (true, p + (txt k t).length, cs ++ post t) → E s (.joins k) p cs = E s (.loop k false) (p + (txt k t).length) (cs ++ post t) := by
    intro e
    rw [E_joins hk hk5 (by omega), e, if_pos rfl]
  by_cases hlt : (pcT t).2 < k
  · have e : txt k t = [40] ++ (pcT t).1 ++ [41] := by unfold txt inP; rw [if_pos hlt]
    rw [e] at ha hf ho hle up1 ⊢
    exact up1 (up_ahead (by omega) hle (by omega) (by omega) (by omega) (paren ht h ha))
  · have e : txt k t = (pcT t).1 := by unfold txt inP; rw [if_neg hlt]
    rw [e] at ha hf ho hle up1 ⊢
    by_cases heq : (pcT t).2 = (k : Int)
    · have := h.low p cs k ha hf heq hk hk5 (by omega)
      rw [this]
      have e3 : (k == 3) = false := beq_eq_false_iff_ne.2 h3
      rw [e3]
    · exact up1 (h.plain ht ha hf (by omega) (by omega) (by omega) (by omega))

theorem isD_not (c : UInt8) (h : isD c = true) : c ≠ 45 ∧ c ≠ 33 ∧ c ≠ 40 := by
  refine ⟨?_, ?_, ?_⟩ <;> (rintro rfl; exact absurd h (by decide))
theorem isLB_not (c : UInt8) (h : isLB c = true) : c ≠ 45 ∧ c ≠ 33 ∧ c ≠ 40 ∧ isD c = false := by
  refine ⟨?_, ?_, ?_, ?_⟩
  · rintro rfl; exact absurd h (by decide)
  · rintro rfl; exact absurd h (by decide)
  · rintro rfl; exact absurd h (by decide)
  · have := isLB_iff.1 h
    cases hd : isD c with
    | false => rfl
    | true => have := isD_iff.1 hd; omega

/-- a word that begins with a letter -/
theorem word_ahead {s : List UInt8} {p : Nat} {cs : List CM} {c : UInt8} {x : List UInt8} (ha : At s p (c :: x)) (hc : isLB c = true) (hx : x.all okB = true) (hf : Fol s (p + (c :: x).length)) :
    E s .ahead p cs = wordD s p cs (c :: x) (E s (.joins 1) (p + 3) cs) := by
  obtain ⟨h1, h2, h3, h4⟩ := isLB_not c hc
  have hle := ha.le
  rw [E_ahead (by omega), ha.head.1, if_neg h1, if_neg h2, if_neg h3, h4, if_neg (by decide)]
  rw [word_at ha (by rw [List.all_cons, hx, okB_letter hc]; rfl) hf]
theorem digit_ahead {s : List UInt8} {p : Nat} {cs : List CM} {c : UInt8} {x : List UInt8} (ha : At s p (c :: x)) (hc : isD c = true) : E s .ahead p cs = numD s p cs := by
  obtain ⟨h1, h2, h3⟩ := isD_not c hc
  have hle := ha.le
  rw [E_ahead (by omega), ha.head.1, if_neg h1, if_neg h2, if_neg h3, if_pos hc]

theorem numP_dec {u : Nat} (h : u ≤ 1099511627776) : numP (Lib.decDigits u) = ((u : Int), 0) := by
  obtain ⟨c, r, e, hc⟩ := dec_first u
  have h45 : (Lib.decDigits u).head? ≠ some 45 := by
    rw [e]; simp; rintro rfl; exact absurd hc (by decide)
  have hf0 : fOf (Lib.decDigits u) = 0 := by unfold fOf; rw [if_neg h45]
  have hv : valN (Lib.decDigits u) = u := by unfold valN; rw [hf0]; exact valD_dec u
  have hok : okN (Lib.decDigits u) = true := by
    unfold okN
    rw [hf0, List.drop_zero]
    have h1 : (Lib.decDigits u).isEmpty = false := by rw [e]; rfl
    have h2 : (Lib.decDigits u).all isD = true := List.all_eq_true.2 (dec_all u)
    rw [h1, h2]
    by_cases h0 : u = 0
    · subst h0; rw [dec_zero]; rfl
    · have := dec_head u h0
      rw [beq_eq_false_iff_ne.2 this]; rfl
  rw [numP_pos hok (by omega) h45, hv]
theorem dec_tok {s : List UInt8} {p u : Nat} (ha : At s p (Lib.decDigits u)) (hf : isD (nx s (p + (Lib.decDigits u).length)) = false) : numT s p = Lib.decDigits u := by
  obtain ⟨c, r, e, hc⟩ := dec_first u
  have hh := ha
  rw [e] at hh
  have h1 := hh.head.1
  unfold numT
  rw [h1]
  split
  · rename_i e48
    subst e48
    by_cases h0 : u = 0
    · subst h0; rw [dec_zero]
    · exact absurd (by rw [e]; rfl) (dec_head u h0)
  · exact takeWhile_at ha (List.all_eq_true.2 (dec_all u)) hf

theorem U_leaf {s : List UInt8} {c : CM} (h : OkT (.leaf c)) : U s (.leaf c) := by
  have h16 : 1 ≤ c.op ∧ c.op ≤ 6 := by
    have h1 := formed_op h.1
    have ho := h.2
    unfold operN at ho
    split at ho
    · assumption
    · split at ho <;> omega
  have hc : c.op = 1 ∨ c.op = 2 ∨ c.op = 3 ∨ c.op = 4 ∨ c.op = 5 ∨ c.op = 6 := by omega
  have hnum := fun ho => formed_num h.1 ho
  have hfm := h.1
  obtain ⟨op, a, nm⟩ := c
  simp only at *
  rcases hc with rfl | rfl | rfl | rfl | rfl | rfl
  · -- a number
    have ha0 := hnum (Or.inl rfl)
    have hnm : nm = [] := by unfold formedB at hfm; simp at hfm; exact hfm.1
    subst hnm
    have e : pcT (.leaf ⟨1, a, []⟩) = (Lib.decDigits a.toNat, 7) := by rw [← itoa_nat ha0.1]; rfl
    refine ⟨?_, fun p cs k _ _ hs => by rw [e] at hs; simp only at hs; omega⟩
    intro p cs hat hf _
    rw [e] at hat hf ⊢
    simp only at hat hf ⊢
    have hd : isD (nx s (p + (Lib.decDigits a.toNat).length)) = false := by
      cases hd : isD (nx s (p + (Lib.decDigits a.toNat).length)) with
      | false => rfl
      | true => unfold Fol at hf; rw [okB_digit hd] at hf; cases hf
    have ht := dec_tok hat hd
    obtain ⟨c, r, e2, hc⟩ := dec_first a.toNat
    rw [digit_ahead (c := c) (x := r) (by rw [← e2]; exact hat) hc]
    have h105 : nx s (p + (Lib.decDigits a.toNat).length) ≠ 105 := by
      intro e3; unfold Fol at hf; rw [e3] at hf; exact absurd hf (by decide)
    unfold numD
    rw [ht, numP_dec (by omega), if_neg (by simp), if_neg h105]
    rw [show ((a.toNat : Nat) : Int) = a by omega]; rfl
  · have ha0 := hnum (Or.inr rfl)
    have hnm : nm = [] ∧ a ≤ 1048576 := by unfold formedB at hfm; simp at hfm; exact ⟨hfm.1, hfm.2.2⟩
    obtain ⟨rfl, hb⟩ := hnm
    have e : pcT (.leaf ⟨2, a, []⟩) = (Lib.decDigits a.toNat ++ [105], 7) := by rw [← itoa_nat ha0.1]; rfl
    refine ⟨?_, fun p cs k _ _ hs => by rw [e] at hs; simp only at hs; omega⟩
    intro p cs hat hf _
    rw [e] at hat hf ⊢
    simp only at hat hf ⊢
    have h105 := hat.split.2.head.1
    have ht := dec_tok hat.split.1 (by rw [h105]; decide)
    obtain ⟨c, r, e2, hc⟩ := dec_first a.toNat
    rw [digit_ahead (c := c) (x := r) (by rw [← e2]; exact hat.split.1) hc]
    unfold numD
    rw [ht, numP_dec (by omega), if_neg (by simp), if_pos h105, if_pos (by simp only; omega)]
    rw [show ((a.toNat : Nat) : Int) = a by omega, List.length_append]; rfl
  · have hz : a = 0 ∧ nm = [] := by unfold formedB at hfm; simp at hfm; exact hfm
    obtain ⟨rfl, rfl⟩ := hz
    refine ⟨?_, fun p cs k _ _ hs => by have : (7 : Int) = k := hs; omega⟩
    intro p cs hat hf _
    have hat : At s p (116 :: [114, 117, 101]) := hat
    rw [word_ahead hat (by decide) (by decide) hf]; rfl
  · have hz : a = 0 ∧ nm = [] := by unfold formedB at hfm; simp at hfm; exact hfm
    obtain ⟨rfl, rfl⟩ := hz
    refine ⟨?_, fun p cs k _ _ hs => by have : (7 : Int) = k := hs; omega⟩
    intro p cs hat hf _
    have hat : At s p (102 :: [97, 108, 115, 101]) := hat
    rw [word_ahead hat (by decide) (by decide) hf]; rfl
  · have hz : a = 0 ∧ nameB nm = true := by unfold formedB at hfm; simp at hfm; exact hfm
    obtain ⟨rfl, hn⟩ := hz
    refine ⟨?_, fun p cs k _ _ hs => by have : (7 : Int) = k := hs; omega⟩
    intro p cs hat hf _
    obtain ⟨c, r, e2, hc, hr, htk⟩ := name_head hn
    have hat : At s p nm := hat
    have hf : Fol s (p + nm.length) := hf
    show E s .ahead p cs = (true, p + nm.length, cs ++ [⟨5, 0, nm⟩])
    rw [e2] at hat hf
    rw [word_ahead hat hc hr hf, ← e2]
    unfold wordD
    unfold takenB at htk
    simp only [Bool.or_eq_false_iff, beq_eq_false_iff_ne] at htk
    rw [if_neg (show nm ≠ wTrue from htk.1.1.1.1), if_neg (show nm ≠ wFalse from htk.1.1.1.2), if_pos hn]
  · have hz : a = 0 ∧ nameB nm = true := by unfold formedB at hfm; simp at hfm; exact hfm
    obtain ⟨rfl, hn⟩ := hz
    refine ⟨?_, fun p cs k _ _ hs => by have : (7 : Int) = k := hs; omega⟩
    intro p cs hat hf _
    have hat : At s p ([105, 110, 40] ++ nm ++ [41]) := hat
    obtain ⟨h1, h2⟩ := hat.split
    obtain ⟨h3, h4⟩ := h1.split
    have h5 : At s p ([105, 110] ++ [40]) := h3
    obtain ⟨h6, h7⟩ := h5.split
    have h40 := h7.head.1
    have h41 := h2.head.1
    obtain ⟨c, r, e2, hc, hr, htk⟩ := name_head hn
    have h8 : At s p (105 :: [110]) := h6
    rw [word_ahead h8 (by decide) (by decide) (by show okB (nx s (p + 2)) = false; rw [show nx s (p + 2) = 40 from h40]; decide)]
    unfold wordD
    rw [if_neg (by decide), if_neg (by decide), if_neg (by decide), if_neg (fun hh => hh h40), if_pos (by decide)]
    unfold stateD
    have e3 : p + ([105, 110, 40] ++ nm).length = p + 3 + nm.length := by simp; omega
    rw [e3] at h41
    have h9 : At s (p + 3) nm := h4
    have hw : wordP s (p + 3) = nm := word_at h9 (by rw [e2, List.all_cons, hr, okB_letter hc]; rfl) (by unfold Fol; rw [h41]; decide)
    rw [hw, if_pos hn]
    unfold closeD
    rw [if_pos rfl, if_pos h41]
    show (true, p + 3 + nm.length + 1, cs ++ [⟨6, 0, nm⟩]) = (true, p + ([105, 110, 40] ++ nm ++ [41]).length, cs ++ [⟨6, 0, nm⟩])
    congr 2
    simp; omega

theorem U_un {s : List UInt8} {o : Int} {t : T} (ht : OkT t) (h : U s t) (ho : 7 ≤ o ∧ o ≤ 10) : U s (.un o t) := by
  have hc : o = 7 ∨ o = 8 ∨ o = 9 ∨ o = 10 := by omega
  rcases hc with rfl | rfl | rfl | rfl
  · refine ⟨?_, fun p cs k _ _ hs => by have : (6 : Int) = k := hs; omega⟩
    intro p cs hat hf _
    have hat : At s p ([45] ++ txt 6 t) := hat
    have hf : Fol s (p + ([45] ++ txt 6 t).length) := hf
    have e1 : p + ([45] ++ txt 6 t).length = p + 1 + (txt 6 t).length := by simp; omega
    have hle := hat.le
    rw [e1] at hf
    show E s .ahead p cs = (true, p + ([45] ++ txt 6 t).length, cs ++ (post t ++ [opC 7]))
    rw [E_ahead (by omega), hat.head.1, if_pos rfl, txt_ahead ht h hat.head.2 hf, e1]
    unfold addD
    rw [if_pos rfl, List.append_assoc]
  · refine ⟨?_, fun p cs k _ _ hs => by have : (6 : Int) = k := hs; omega⟩
    intro p cs hat hf _
    have hat : At s p ([33] ++ txt 6 t) := hat
    have hf : Fol s (p + ([33] ++ txt 6 t).length) := hf
    have e1 : p + ([33] ++ txt 6 t).length = p + 1 + (txt 6 t).length := by simp; omega
    have hle := hat.le
    rw [e1] at hf
    show E s .ahead p cs = (true, p + ([33] ++ txt 6 t).length, cs ++ (post t ++ [opC 8]))
    rw [E_ahead (by omega), hat.head.1, if_neg (by decide), if_pos rfl, txt_ahead ht h hat.head.2 hf, e1]
    unfold addD
    rw [if_pos rfl, List.append_assoc]
  · refine ⟨?_, fun p cs k _ _ hs => by have : (7 : Int) = k := hs; omega⟩
    intro p cs hat hf _
    have hat : At s p ([114, 101, 40] ++ (pcT t).1 ++ [41]) := hat
    obtain ⟨h1, h2⟩ := hat.split
    obtain ⟨h3, h4⟩ := h1.split
    have h5 : At s p ([114, 101] ++ [40]) := h3
    obtain ⟨h6, h7⟩ := h5.split
    have h40 := h7.head.1
    have h41 := h2.head.1
    have h8 : At s p (114 :: [101]) := h6
    have e3 : p + ([114, 101, 40] ++ (pcT t).1).length = p + 3 + (pcT t).1.length := by simp; omega
    rw [e3] at h41
    show E s .ahead p cs = (true, p + ([114, 101, 40] ++ (pcT t).1 ++ [41]).length, cs ++ (post t ++ [opC 9]))
    rw [word_ahead h8 (by decide) (by decide) (by show okB (nx s (p + 2)) = false; rw [show nx s (p + 2) = 40 from h40]; decide)]
    unfold wordD
    rw [if_neg (by decide), if_neg (by decide), if_neg (by decide), if_neg (fun hh => hh h40), if_neg (by decide), if_pos (by decide)]
    have hst := strength ht
    rw [h.plain ht (p := p + 3) (k := 1) h4 (by unfold Fol; rw [show nx s (p + 3 + (pcT t).1.length) = 41 from h41]; decide) (by omega) (by omega) (by omega) (by rw [opAt_41 h41]; decide)]
    unfold addD closeD
    rw [if_pos rfl]
    simp only
    rw [if_pos h41, if_pos rfl]
    have e2 : p + ([114, 101, 40] ++ (pcT t).1 ++ [41]).length = p + 3 + (pcT t).1.length + 1 := by simp; omega
    rw [e2, List.append_assoc]
  · refine ⟨?_, fun p cs k _ _ hs => by have : (7 : Int) = k := hs; omega⟩
    intro p cs hat hf _
    have hat : At s p ([105, 109, 40] ++ (pcT t).1 ++ [41]) := hat
    obtain ⟨h1, h2⟩ := hat.split
    obtain ⟨h3, h4⟩ := h1.split
    have h5 : At s p ([105, 109] ++ [40]) := h3
    obtain ⟨h6, h7⟩ := h5.split
    have h40 := h7.head.1
    have h41 := h2.head.1
    have h8 : At s p (105 :: [109]) := h6
    have e3 : p + ([105, 109, 40] ++ (pcT t).1).length = p + 3 + (pcT t).1.length := by simp; omega
    rw [e3] at h41
    show E s .ahead p cs = (true, p + ([105, 109, 40] ++ (pcT t).1 ++ [41]).length, cs ++ (post t ++ [opC 10]))
    rw [word_ahead h8 (by decide) (by decide) (by show okB (nx s (p + 2)) = false; rw [show nx s (p + 2) = 40 from h40]; decide)]
    unfold wordD
    rw [if_neg (by decide), if_neg (by decide), if_neg (by decide), if_neg (fun hh => hh h40), if_neg (by decide), if_neg (by decide), if_pos (by decide)]
    have hst := strength ht
    rw [h.plain ht (p := p + 3) (k := 1) h4 (by unfold Fol; rw [show nx s (p + 3 + (pcT t).1.length) = 41 from h41]; decide) (by omega) (by omega) (by omega) (by rw [opAt_41 h41]; decide)]
    unfold addD closeD
    rw [if_pos rfl]
    simp only
    rw [if_pos h41, if_pos rfl]
    have e2 : p + ([105, 109, 40] ++ (pcT t).1 ++ [41]).length = p + 3 + (pcT t).1.length + 1 := by simp; omega
    rw [e2, List.append_assoc]
theorem U_bin {s : List UInt8} {o : Int} {l r : T} (hl : OkT l) (hr : OkT r) (ul : U s l) (ur : U s r) (ho : 11 ≤ o ∧ o ≤ 23) : U s (.bin o l r) := by
  obtain ⟨j, hj, rfl⟩ : ∃ j : Nat, j < 13 ∧ o = (j : Int) + 11 := ⟨(o - 11).toNat, by omega, by omega⟩
  obtain ⟨ht1, ht2, ht3⟩ := tab_first j hj
  obtain ⟨k, hk⟩ : ∃ k : Nat, (tabAt j).2.2 = (k : Int) := ⟨(tabAt j).2.2.toNat, by omega⟩
  have e : pcT (.bin ((j : Int) + 11) l r) = (txt (if (k : Int) = 3 then 4 else k) l ++ (tabAt j).2.1 ++ txt ((k + 1 : Nat) : Int) r, (k : Int)) := by
    show joinP (opC ((j : Int) + 11)) (pcT l) (pcT r) = _
    rw [joinP_bin ho.1, show ((j : Int) + 11 - 11).toNat = j by omega]
    unfold betP txt
    rw [hk]
    by_cases h3 : (k : Int) = 3
    · rw [if_pos h3, if_pos h3]
      have hk3 : k = 3 := by omega
      subst hk3
      rfl
    · rw [if_neg h3, if_neg h3]; rfl
  refine ⟨fun p cs _ _ hs => by rw [e] at hs; simp only at hs; omega, ?_⟩
  intro p cs k' hat hf hs h1 h5 hop
  rw [e] at hat hf hs hop ⊢
  simp only at hat hf hs hop ⊢
  obtain rfl : k = k' := by omega
  clear hs
  obtain ⟨hA, hB⟩ := hat.split
  obtain ⟨hC, hD⟩ := hA.split
  have hle := hat.le
  obtain ⟨c0, x0, ex, hx0⟩ := noeq_in (a := (pcT r).2) (b := ((k + 1 : Nat) : Int)) (noeq hr)
  have ex : txt ((k + 1 : Nat) : Int) r = c0 :: x0 := ex
  have hO : At s (p + (txt (if (k : Int) = 3 then 4 else k) l).length) ((tabAt j).2.1 ++ c0 :: x0) := by
    obtain ⟨h2, rr, h3⟩ := hat
    rw [List.append_assoc] at h3 h2
    rw [← ex]
    rw [List.length_append] at h2
    refine ⟨by omega, rr, ?_⟩
    rw [← List.drop_drop, h3, List.append_assoc, List.drop_left']
    · exact (List.append_assoc _ _ _).symm
    · rfl
  obtain ⟨hop1, hfl⟩ := op_at hj hO hx0
  rw [ht1, hk] at hop1
  have hkn : ((k : Int)).toNat = k := by omega
  rw [hkn] at hop1
  -- the left operand
  have hL : E s (.joins k) p cs = E s (.loop k false) (p + (txt (if (k : Int) = 3 then 4 else k) l).length) (cs ++ post l) := by
    by_cases h3 : (k : Int) = 3
    · rw [if_pos h3] at hC hfl hop1 ⊢
      have hr4 := txt_read hl ul (k := 4) (cs := cs) (by omega) (by omega) hC hfl (by show (opAt s (p + (txt 4 l).length)).2.2 < 4; rw [hop1]; simp only; omega)
      have hk3 : k = 3 := by omega
      subst hk3
      rw [E_joins (by omega) (by omega) (by omega), hr4, if_pos rfl]; rfl
    · rw [if_neg h3] at hC hfl hop1 ⊢
      exact left_read hl ul h1 h5 (by omega) hC hfl (by rw [hop1])
  rw [hL]
  have hq : p + (txt (if (k : Int) = 3 then 4 else k) l).length ≤ s.length := by have := hC.le; omega
  rw [E_loop h1 h5 hq, hop1, if_neg (by simp), if_neg (by simp)]
  have e2 : p + (txt (if (k : Int) = 3 then 4 else k) l ++ (tabAt j).2.1).length = p + (txt (if (k : Int) = 3 then 4 else k) l).length + (tabAt j).2.1.length := by rw [List.length_append]; omega
  have e3 : p + (txt (if (k : Int) = 3 then 4 else k) l ++ (tabAt j).2.1 ++ txt ((k + 1 : Nat) : Int) r).length = p + (txt (if (k : Int) = 3 then 4 else k) l).length + (tabAt j).2.1.length + (txt ((k + 1 : Nat) : Int) r).length := by
    rw [List.length_append, List.length_append]; omega
  rw [e2] at hB
  rw [e3] at hf hop ⊢
  have hR := txt_read hr ur (k := k + 1) (cs := cs ++ post l) (by omega) (by omega) hB hf (by omega)
  simp only
  rw [hR, if_pos rfl]
  simp only
  rw [show post (T.bin ((j : Int) + 11) l r) = post l ++ post r ++ [opC ((j : Int) + 11)] from rfl]
  simp only [List.append_assoc]

theorem U_all (s : List UInt8) : ∀ t : T, OkT t → U s t
  | .leaf _, h => U_leaf h
  | .un _ t, h => U_un h.2.2 (U_all s t h.2.2) ⟨h.1, h.2.1⟩
  | .bin _ l r, h => U_bin h.2.2.1 h.2.2.2 (U_all s l h.2.2.1) (U_all s r h.2.2.2) ⟨h.1, h.2.1⟩
end Go.Proofs.YtjgfkmakfdepcaaGreatDoor
namespace Go.Proofs.YtjgfkmakfdepcaaGreatDoor

theorem itoa_13 {a : Int} (ha0 : 0 ≤ a) (ha1 : a ≤ 1099511627776) : (Lib.itoa a).length ≤ 13 := by
  rw [itoa_nat ha0]
  have : ∀ (k u : Nat), u < 10 ^ (k + 1) → (Lib.decDigits u).length ≤ k + 1 := by
    intro k
    induction k with
    | zero => intro u hu; rw [dec_small (by omega)]; simp
    | succ k ih =>
      intro u hu
      by_cases h : u < 10
      · rw [dec_small h]; simp
      · rw [dec_big h]
        have := ih (u / 10) (by rw [Nat.pow_succ] at hu; omega)
        simp; omega
  exact this 12 _ (by omega)

theorem leaf_len {c : CM} (h : OkT (.leaf c)) : (joinP c none0 none0).1.length ≤ 16 := by
  have h16 : 1 ≤ c.op ∧ c.op ≤ 6 := by
    have h1 := formed_op h.1
    have ho := h.2
    unfold operN at ho
    split at ho
    · assumption
    · split at ho <;> omega
  have hn := formed_name h.1
  unfold joinP
  split
  · rename_i e; have := formed_num h.1 (Or.inl e); have := itoa_13 this.1 this.2; simp only; omega
  · split
    · rename_i e; have := formed_num h.1 (Or.inr e); have := itoa_13 this.1 this.2; simp only [List.length_append, List.length_singleton]; omega
    · split
      · simp [wTrue]
      · split
        · simp [wFalse]
        · split
          · simp only; omega
          · split
            · simp; omega
            · exfalso; omega
theorem text_len {t : T} (h : OkT t) : (pcT t).1.length + 2 ≤ 18 * (post t).length := by
  induction t with
  | leaf c => have := leaf_len h; show (joinP c none0 none0).1.length + 2 ≤ 18 * 1; omega
  | un o t ih =>
    have := ih h.2.2
    have hc : o = 7 ∨ o = 8 ∨ o = 9 ∨ o = 10 := by have := h.1; have := h.2.1; omega
    have hp : (post (.un o t)).length = (post t).length + 1 := by simp [post]
    have h6 := inP_len (pcT t).1 (pcT t).2 6
    rw [hp]
    rcases hc with rfl | rfl | rfl | rfl
    · show ([45] ++ inP (pcT t).1 (pcT t).2 6).length + 2 ≤ _; simp; omega
    · show ([33] ++ inP (pcT t).1 (pcT t).2 6).length + 2 ≤ _; simp; omega
    · show ([114, 101, 40] ++ (pcT t).1 ++ [41]).length + 2 ≤ _; simp; omega
    · show ([105, 109, 40] ++ (pcT t).1 ++ [41]).length + 2 ≤ _; simp; omega
  | bin o l r ihl ihr =>
    have h1 := ihl h.2.2.1
    have h2 := ihr h.2.2.2
    have hp : (post (.bin o l r)).length = (post l).length + (post r).length + 1 := by simp [post]; omega
    have h3 := betP_len (o - 11).toNat (pcT l) (pcT r)
    rw [hp]
    show (joinP (opC o) (pcT l) (pcT r)).1.length + 2 ≤ _
    rw [joinP_bin h.1]
    omega

theorem read_text {t : T} (h : OkT t) (hl : (post t).length ≤ 32) : parseP (pcT t).1 = (post t, 0, 0) := by
  have h1 := text_len h
  have hs := strength h
  have hE := (U_all (pcT t).1 t h).plain h (p := 0) (cs := []) (k := 1) (At.all _) (by rw [Nat.zero_add]; exact fol_end) (by omega) (by omega) (by omega) (by rw [Nat.zero_add, opAt_end]; decide)
  rw [Nat.zero_add, List.nil_append] at hE
  rw [parse_E, if_neg (by omega), hE, if_neg (by simp), if_neg (by simp only; omega)]
theorem back {cs : List CM} (h : rightB cs = true) : parseP (showP cs).1 = (cs, 0, 0) ∧ (showP cs).2 = 0 := by
  obtain ⟨t, h1, rfl⟩ := right_tree h
  have hl : (post t).length ≤ 32 := by unfold rightB at h; simp at h; exact h.1
  rw [tree_show h1 hl]
  exact ⟨read_text h1 hl, rfl⟩
end Go.Proofs.YtjgfkmakfdepcaaGreatDoor
