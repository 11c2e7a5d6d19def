/- What stands at a place of a text: tokens, operators. -/
import Derived.Test.YtfgocdeaanalgaaDoorF2
import Derived.Test.YtfgocdeaanalgaaDoorF3
namespace Go.Proofs.YtfgocdeaanalgaaDoor

/-- x stands at place p -/
def At (s : List UInt8) (p : Nat) (x : List UInt8) : Prop := p + x.length ≤ s.length ∧ ∃ r, s.drop p = x ++ r

section
variable {s x y : List UInt8} {p : Nat} {c : UInt8}
theorem At.le (h : At s p x) : p + x.length ≤ s.length := h.1
theorem At.head (h : At s p (c :: x)) : nx s p = c ∧ At s (p + 1) x := by
  obtain ⟨h1, r, h2⟩ := h
  simp only [List.length_cons] at h1
  have hp : p < s.length := by omega
  rw [List.drop_eq_getElem_cons hp] at h2
  injection h2 with h3 h4
  refine ⟨by rw [nx_at hp, h3], by omega, r, h4⟩
theorem At.split (h : At s p (x ++ y)) : At s p x ∧ At s (p + x.length) y := by
  obtain ⟨h1, r, h2⟩ := h
  rw [List.length_append] at h1
  refine ⟨⟨by omega, y ++ r, by rw [h2, List.append_assoc]⟩, ⟨by omega, r, ?_⟩⟩
  rw [← List.drop_drop, h2, List.append_assoc, List.drop_left']
  rfl
theorem At.all (s : List UInt8) : At s 0 s := ⟨by omega, [], by simp⟩

/-- what a word cannot go on with -/
def Fol (s : List UInt8) (q : Nat) : Prop := okB (nx s q) = false
theorem fol_end : Fol s s.length := by unfold Fol; rw [nx_end (Nat.le_refl _)]; decide

theorem takeWhile_at {f : UInt8 → Bool} (h : At s p x) (hx : x.all f = true) (hf : f (nx s (p + x.length)) = false) : (s.drop p).takeWhile f = x := by
  obtain ⟨h1, r, h2⟩ := h
  rw [h2]
  have hr : r.takeWhile f = [] := by
    cases r with
    | nil => rfl
    | cons c r' =>
      have e : s.drop (p + x.length) = c :: r' := by rw [← List.drop_drop, h2, List.drop_left']; rfl
      have hp : p + x.length < s.length := by
        rcases Nat.lt_or_ge (p + x.length) s.length with h | h
        · exact h
        · rw [List.drop_of_length_le h] at e; cases e
      rw [List.drop_eq_getElem_cons hp] at e
      injection e with e1 e2
      rw [nx_at hp, e1] at hf
      simp [hf]
  have : ∀ (x : List UInt8), x.all f = true → (x ++ r).takeWhile f = x := by
    intro x
    induction x with
    | nil => intro _; exact hr
    | cons c x ih =>
      intro hx
      rw [List.all_cons, Bool.and_eq_true] at hx
      rw [List.cons_append, List.takeWhile_cons_of_pos hx.1, ih hx.2]
  exact this x hx
theorem word_at (h : At s p x) (hx : x.all okB = true) (hf : Fol s (p + x.length)) : wordP s p = x := takeWhile_at h hx hf

theorem okB_digit (h : isD c = true) : okB c = true := by simp [okB, h]
theorem num_at (h : At s p x) (hne : x ≠ []) (hx : x.all isD = true) (h0 : x.head? = some 48 → x = [48]) (hf : Fol s (p + x.length)) : numT s p = x := by
  obtain ⟨c, r, rfl⟩ : ∃ c r, x = c :: r := by
    cases x with
    | nil => exact absurd rfl hne
    | cons c r => exact ⟨c, r, rfl⟩
  have hc := h.head.1
  unfold numT
  rw [hc]
  split
  · rename_i e
    subst e
    rw [h0 rfl]
  · refine takeWhile_at h hx ?_
    cases hd : isD (nx s (p + (c :: r).length)) with
    | false => rfl
    | true => unfold Fol at hf; rw [okB_digit hd] at hf; cases hf
end

/-- an operator's text and what follows it -/
theorem op_at {s x : List UInt8} {p : Nat} {c : UInt8} {k : Nat} (hk : k < 13) (h : At s p ((tabAt k).2.1 ++ c :: x)) (hc : c ≠ 61) :
    opAt s p = ((tabAt k).1, (tabAt k).2.1.length, (tabAt k).2.2.toNat) ∧ Fol s p := by
  have hh : k = 0 ∨ k = 1 ∨ k = 2 ∨ k = 3 ∨ k = 4 ∨ k = 5 ∨ k = 6 ∨ k = 7 ∨ k = 8 ∨ k = 9 ∨ k = 10 ∨ k = 11 ∨ k = 12 := by omega
  rcases hh with rfl | rfl | rfl | rfl | rfl | rfl | rfl | rfl | rfl | rfl | rfl | rfl | rfl
  all_goals
    have h1 := h.head
    have h2 := h1.2.head
    unfold opAt Fol
    rw [h1.1, h2.1]
    first
      | exact ⟨rfl, by decide⟩
      | exact ⟨by simp [opOf, hc]; exact ⟨rfl, rfl, rfl⟩, by decide⟩
theorem tab_first (k : Nat) (hk : k < 13) : (tabAt k).1 = (k : Int) + 11 ∧ 1 ≤ (tabAt k).2.2 ∧ (tabAt k).2.2 ≤ 5 := by
  have hh : k = 0 ∨ k = 1 ∨ k = 2 ∨ k = 3 ∨ k = 4 ∨ k = 5 ∨ k = 6 ∨ k = 7 ∨ k = 8 ∨ k = 9 ∨ k = 10 ∨ k = 11 ∨ k = 12 := by omega
  rcases hh with rfl | rfl | rfl | rfl | rfl | rfl | rfl | rfl | rfl | rfl | rfl | rfl | rfl <;> decide

/-- a piece's text begins with something, and that is no = -/
def NoEq (x : List UInt8) : Prop := ∃ c r, x = c :: r ∧ c ≠ 61
theorem noeq_in {x : List UInt8} {a b : Int} (h : NoEq x) : NoEq (inP x a b) := by
  unfold inP
  split
  · exact ⟨40, x ++ [41], rfl, by decide⟩
  · exact h
theorem noeq_append {x y : List UInt8} (h : NoEq x) : NoEq (x ++ y) := by
  obtain ⟨c, r, rfl, hc⟩ := h
  exact ⟨c, r ++ y, rfl, hc⟩
theorem dec_first (u : Nat) : ∃ c r, Lib.decDigits u = c :: r ∧ isD c = true := by
  induction u using Nat.strongRecOn with
  | _ u ih =>
    by_cases h : u < 10
    · rw [dec_small h]
      exact ⟨_, _, rfl, by rw [isD_iff, digit_ofNat h]; omega⟩
    · rw [dec_big h]
      obtain ⟨c, r, e, hc⟩ := ih (u / 10) (by omega)
      exact ⟨c, _, by rw [e]; rfl, hc⟩
theorem itoa_nat {a : Int} (h : 0 ≤ a) : Lib.itoa a = Lib.decDigits a.toNat := by
  unfold Lib.itoa
  rw [if_neg (by omega)]
theorem digit_noeq {c : UInt8} (h : isD c = true) : c ≠ 61 := by rintro rfl; exact absurd h (by decide)
theorem name_head {l : List UInt8} (h : nameB l = true) : ∃ c r, l = c :: r ∧ isLB c = true ∧ r.all okB = true ∧ takenB l = false := by
  cases l with
  | nil => cases h
  | cons c r =>
    simp [nameB] at h
    exact ⟨c, r, rfl, h.1.1.2, by simpa using h.1.2, h.2⟩
theorem noeq_leaf {c : CM} (h : formedB c = true) (ho : operN c.op = 0) : NoEq (joinP c none0 none0).1 := by
  have h16 : 1 ≤ c.op ∧ c.op ≤ 6 := by
    have := formed_op h
    unfold operN at ho
    split at ho
    · assumption
    · split at ho <;> omega
  unfold joinP
  split
  · rename_i e
    have := formed_num h (Or.inl e)
    rw [itoa_nat this.1]
    obtain ⟨d, r, e2, hd⟩ := dec_first c.a.toNat
    exact ⟨d, r, e2, digit_noeq hd⟩
  · split
    · rename_i e
      have := formed_num h (Or.inr e)
      rw [itoa_nat this.1]
      obtain ⟨d, r, e2, hd⟩ := dec_first c.a.toNat
      exact noeq_append ⟨d, r, e2, digit_noeq hd⟩
    · split
      · exact ⟨116, _, rfl, by decide⟩
      · split
        · exact ⟨102, _, rfl, by decide⟩
        · split
          · rename_i e
            unfold formedB at h
            rw [if_neg (by omega), if_neg (by omega), if_pos (Or.inl e)] at h
            simp at h
            obtain ⟨d, r, e2, hd, _⟩ := name_head h.2
            exact ⟨d, r, e2, by rintro rfl; exact absurd hd (by decide)⟩
          · split
            · exact ⟨105, _, rfl, by decide⟩
            · exfalso; omega
theorem joinP_bin {o : Int} (h : 11 ≤ o) (a b : Pc) : joinP (opC o) a b = betP (tabAt (o - 11).toNat).2.1 (tabAt (o - 11).toNat).2.2 a b := by
  unfold joinP opC
  simp only
  rw [if_neg (by omega), if_neg (by omega), if_neg (by omega), if_neg (by omega), if_neg (by omega), if_neg (by omega), if_neg (by omega), if_neg (by omega), if_neg (by omega), if_neg (by omega)]
theorem noeq {t : T} (h : OkT t) : NoEq (pcT t).1 := by
  induction t with
  | leaf c => exact noeq_leaf h.1 h.2
  | un o t ih =>
    have hc : o = 7 ∨ o = 8 ∨ o = 9 ∨ o = 10 := by have := h.1; have := h.2.1; omega
    rcases hc with rfl | rfl | rfl | rfl
    · exact ⟨45, _, rfl, by decide⟩
    · exact ⟨33, _, rfl, by decide⟩
    · exact ⟨114, _, rfl, by decide⟩
    · exact ⟨105, _, rfl, by decide⟩
  | bin o l r ihl ihr =>
    show NoEq (joinP (opC o) (pcT l) (pcT r)).1
    rw [joinP_bin h.1]
    exact noeq_append (noeq_append (noeq_in (ihl h.2.2.1)))
end Go.Proofs.YtfgocdeaanalgaaDoor
