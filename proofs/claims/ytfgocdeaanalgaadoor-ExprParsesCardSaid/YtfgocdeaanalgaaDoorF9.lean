/- What is read is an expression, and its text is no longer than what was read. -/
import Derived.Test.YtfgocdeaanalgaaDoorF6
namespace Go.Proofs.YtfgocdeaanalgaaDoor
open Go.RowKit

theorem inP_mono (x : List UInt8) {st a b : Int} (h : a ≤ b) : (inP x st a).length ≤ (inP x st b).length := by
  unfold inP
  by_cases h1 : st < a
  · rw [if_pos h1, if_pos (by omega)]; exact Nat.le_refl _
  · rw [if_neg h1]
    split
    · simp; omega
    · exact Nat.le_refl _
theorem txt_mono {t : T} {a b : Int} (h : a ≤ b) : (txt a t).length ≤ (txt b t).length := inP_mono _ h
theorem txt_top (t : T) (k : Int) : (txt k t).length ≤ (pcT t).1.length + 2 := inP_len _ _ _
theorem txt_own {t : T} {k : Int} (h : k ≤ (pcT t).2) : txt k t = (pcT t).1 := by unfold txt inP; rw [if_neg (by omega)]

def loK (k : Nat) (cmp : Bool) : Int := if k = 3 ∧ cmp = false then 4 else k

/-- a reading that went well gave a tree's cells, and its text has room in what was read -/
def Got (p : Nat) (cs : List CM) (k : Int) (r : Rs) : Prop := r.1 = true → ∃ t, OkT t ∧ r.2.2 = cs ++ post t ∧ (txt k t).length + p ≤ r.2.1

theorem opOf_tab {c d : UInt8} (h : (opOf c d).2.2 ≠ 0) : 11 ≤ (opOf c d).1 ∧ (opOf c d).1 ≤ 23 ∧ (tabAt ((opOf c d).1 - 11).toNat).2.1.length = (opOf c d).2.1 ∧ (tabAt ((opOf c d).1 - 11).toNat).2.2 = ((opOf c d).2.2 : Int) := by
  revert h
  unfold opOf
  repeat' split
  all_goals first | (intro h; exact absurd rfl h) | (intro _; decide)

theorem leaf_top {c : CM} (h : OkT (.leaf c)) : (pcT (.leaf c)).2 = 7 := by
  have h16 : 1 ≤ c.op ∧ c.op ≤ 6 := by
    have h1 := formed_op h.1
    have ho := h.2
    unfold operN at ho
    split at ho
    · assumption
    · split at ho <;> omega
  have hc : c.op = 1 ∨ c.op = 2 ∨ c.op = 3 ∨ c.op = 4 ∨ c.op = 5 ∨ c.op = 6 := by omega
  show (joinP c none0 none0).2 = 7
  unfold joinP
  rcases hc with e | e | e | e | e | e <;> simp [e]

section
variable {s : List UInt8} {p q : Nat} {cs : List CM}
theorem got_no {k : Int} : Got p cs k (false, q, cs) := by intro h; cases h
theorem got_leaf {c : CM} (hf : formedB c = true) (ho : operN c.op = 0) (hl : (joinP c none0 none0).1.length + p ≤ q) : Got p cs 6 (true, q, cs ++ [c]) := by
  intro _
  refine ⟨.leaf c, ⟨hf, ho⟩, rfl, ?_⟩
  rw [txt_own (by rw [leaf_top ⟨hf, ho⟩]; omega)]
  exact hl
theorem got_hold {inner : Rs} {o : Int} (ho : o = 9 ∨ o = 10) (hi : Got (p + 3) cs 1 inner) : Got p cs 6 (addD o (closeD s inner)) := by
  obtain ⟨b, q, cs'⟩ := inner
  cases b
  · intro h; simp [addD, closeD] at h
  · by_cases h41 : nx s q = 41
    · have e : addD o (closeD s (true, q, cs')) = (true, q + 1, cs' ++ [opC o]) := by simp [addD, closeD, h41]
      rw [e]
      obtain ⟨t, h1, h2, h3⟩ := hi rfl
      simp only at h2 h3
      intro _
      have hs := strength h1
      rw [txt_own (by omega)] at h3
      refine ⟨.un o t, ⟨by omega, by omega, h1⟩, ?_, ?_⟩
      · show cs' ++ [opC o] = cs ++ (post t ++ [opC o])
        rw [h2, List.append_assoc]
      · rcases ho with rfl | rfl
        · rw [txt_own (by show (6 : Int) ≤ 7; omega)]
          show ([114, 101, 40] ++ (pcT t).1 ++ [41]).length + p ≤ q + 1
          simp; omega
        · rw [txt_own (by show (6 : Int) ≤ 7; omega)]
          show ([105, 109, 40] ++ (pcT t).1 ++ [41]).length + p ≤ q + 1
          simp; omega
    · intro h; simp [addD, closeD, h41] at h
theorem got_sign {r : Rs} {o : Int} (ho : o = 7 ∨ o = 8) (hi : Got (p + 1) cs 6 r) : Got p cs 6 (addD o r) := by
  obtain ⟨b, q, cs'⟩ := r
  cases b
  · intro h; simp [addD] at h
  · have e : addD o (true, q, cs') = (true, q, cs' ++ [opC o]) := by simp [addD]
    rw [e]
    obtain ⟨t, h1, h2, h3⟩ := hi rfl
    simp only at h2 h3
    intro _
    refine ⟨.un o t, ⟨by omega, by omega, h1⟩, ?_, ?_⟩
    · show cs' ++ [opC o] = cs ++ (post t ++ [opC o])
      rw [h2, List.append_assoc]
    · rcases ho with rfl | rfl
      · rw [txt_own (by show (6 : Int) ≤ 6; omega)]
        show ([45] ++ txt 6 t).length + p ≤ q
        simp; omega
      · rw [txt_own (by show (6 : Int) ≤ 6; omega)]
        show ([33] ++ txt 6 t).length + p ≤ q
        simp; omega
theorem got_paren {r : Rs} (hi : Got (p + 1) cs 1 r) : Got p cs 6 (closeD s r) := by
  obtain ⟨b, q, cs'⟩ := r
  cases b
  · intro h; simp [closeD] at h
  · by_cases h41 : nx s q = 41
    · have e : closeD s (true, q, cs') = (true, q + 1, cs') := by simp [closeD, h41]
      rw [e]
      obtain ⟨t, h1, h2, h3⟩ := hi rfl
      simp only at h2 h3
      intro _
      have hs := strength h1
      rw [txt_own (by omega)] at h3
      have h4 := txt_top t 6
      exact ⟨t, h1, h2, by simp only; omega⟩
    · intro h; simp [closeD, h41] at h
theorem got_state : Got p cs 6 (stateD s p cs) := by
  unfold stateD
  split
  · rename_i hn
    by_cases h41 : nx s (p + 3 + (wordP s (p + 3)).length) = 41
    · have e : closeD s (true, p + 3 + (wordP s (p + 3)).length, cs ++ [⟨6, 0, wordP s (p + 3)⟩]) = (true, p + 3 + (wordP s (p + 3)).length + 1, cs ++ [⟨6, 0, wordP s (p + 3)⟩]) := by simp [closeD, h41]
      rw [e]
      refine got_leaf (by unfold formedB; simp [hn]) rfl ?_
      show ([105, 110, 40] ++ wordP s (p + 3) ++ [41]).length + p ≤ _
      simp; omega
    · intro h; simp [closeD, h41] at h
  · exact got_no
theorem got_word {inner : Rs} (hi : Got (p + 3) cs 1 inner) : Got p cs 6 (wordD s p cs (wordP s p) inner) := by
  unfold wordD
  split
  · refine got_leaf (c := opC 3) (by decide) (by decide) ?_
    show 4 + p ≤ p + 4
    omega
  · split
    · refine got_leaf (c := opC 4) (by decide) (by decide) ?_
      show 5 + p ≤ p + 5
      omega
    · split
      · rename_i hn
        refine got_leaf (c := ⟨5, 0, wordP s p⟩) (by unfold formedB; simp [hn]) rfl ?_
        show (wordP s p).length + p ≤ p + (wordP s p).length
        omega
      · split
        · exact got_no
        · split
          · exact got_state
          · split
            · exact got_hold (Or.inl rfl) hi
            · split
              · exact got_hold (Or.inr rfl) hi
              · exact got_no

theorem num_all : ∀ c ∈ numT s p, isD c = true := by
  intro c hc
  unfold numT at hc
  split at hc
  · simp at hc; subst hc; decide
  · exact List.all_eq_true.1 List.all_takeWhile c hc
theorem num_head (hp : p < s.length) (h : (numT s p).head? = some 48) : (numT s p).length = 1 := by
  unfold numT at h ⊢
  split at h
  · rename_i e; rw [if_pos e]; rfl
  · rename_i e
    rw [List.drop_eq_getElem_cons hp] at h
    rw [nx_at hp] at e
    rw [List.takeWhile_cons] at h
    split at h
    · simp at h; exact absurd h e
    · simp at h
theorem num_back (hp : p < s.length) (hd : isD (nx s p) = true) (h : (numP (numT s p)).2 = 0) : ∃ u : Nat, (numP (numT s p)).1 = u ∧ u ≤ 1099511627776 ∧ numT s p = Lib.decDigits u := by
  have hpos := num_pos hp hd
  have hne : numT s p ≠ [] := by intro e; rw [e] at hpos; simp at hpos
  have hdec := dec_unique _ (numT s p) rfl num_all hne (num_head hp)
  have h45 : (numT s p).head? ≠ some 45 := by
    intro e
    have := num_all (s := s) (p := p) 45 (List.mem_of_mem_head? e)
    exact absurd this (by decide)
  have hf0 : fOf (numT s p) = 0 := by unfold fOf; rw [if_neg h45]
  have hv : valN (numT s p) = valD 0 (numT s p) := by unfold valN; rw [hf0, List.drop_zero]
  unfold numP at h
  split at h
  · split at h
    · cases h
    · rename_i hok hle
      exact ⟨valD 0 (numT s p), by rw [numP_pos hok hle h45, hv], by omega, hdec.symm⟩
  · cases h
theorem got_num (hp : p < s.length) (hd : isD (nx s p) = true) : Got p cs 6 (numD s p cs) := by
  unfold numD
  split
  · exact got_no
  · rename_i h0
    obtain ⟨u, h1, h2, h3⟩ := num_back hp hd (Decidable.not_not.1 h0)
    have hit : Lib.itoa (u : Int) = numT s p := by rw [itoa_nat (by omega), h3]; rfl
    rw [h1]
    split
    · split
      · rename_i hle
        refine got_leaf (c := ⟨2, (u : Int), []⟩) (by unfold formedB; simp; omega) rfl ?_
        show (Lib.itoa (u : Int) ++ [105]).length + p ≤ _
        rw [hit]; simp; omega
      · exact got_no
    · refine got_leaf (c := ⟨1, (u : Int), []⟩) (by unfold formedB; simp; omega) rfl ?_
      show (Lib.itoa (u : Int)).length + p ≤ _
      rw [hit]; omega
end

theorem sound (s : List UInt8) : ∀ n : Nat, (∀ (k p : Nat) (cs : List CM), 1 ≤ k → k ≤ 6 → Got p cs k (D s n (.joins k) p cs)) ∧
    (∀ (k : Nat) (cmp : Bool) (p : Nat) (cs : List CM), 1 ≤ k → k ≤ 5 → ∀ (t0 : T) (cs0 : List CM) (p0 : Nat), OkT t0 → cs = cs0 ++ post t0 → (txt (loK k cmp) t0).length + p0 ≤ p → Got p0 cs0 k (D s n (.loop k cmp) p cs)) ∧
    (∀ (p : Nat) (cs : List CM), Got p cs 6 (D s n .ahead p cs)) := by
  intro n
  induction n with
  | zero =>
    refine ⟨?_, ?_, ?_⟩
    · intro k p cs _ _; exact got_no
    · intro k cmp p cs _ _ t0 cs0 p0 _ _ _ h; simp [D] at h
    · intro p cs; exact got_no
  | succ n ih =>
    obtain ⟨ihj, ihl, iha⟩ := ih
    refine ⟨?_, ?_, ?_⟩
    · intro k p cs h1 h6
      rw [D_joins]
      by_cases hk : k = 6
      · rw [if_pos hk]; subst hk; exact iha p cs
      · rw [if_neg hk]
        have hj := ihj (k + 1) p cs (by omega) (by omega)
        by_cases hr : (D s n (.joins (k + 1)) p cs).1 = true
        · rw [if_pos hr]
          obtain ⟨t, g1, g2, g3⟩ := hj hr
          refine ihl k false _ _ h1 (by omega) t cs p g1 g2 ?_
          have : (txt (loK k false) t).length ≤ (txt ((k + 1 : Nat) : Int) t).length := txt_mono (by unfold loK; split <;> omega)
          omega
        · rw [if_neg hr]; exact fun h => absurd h hr
    · intro k cmp p cs h1 h5 t0 cs0 p0 ho hc hl
      rw [D_loop]
      by_cases hk : (opAt s p).2.2 ≠ k
      · rw [if_pos hk]
        intro _
        have : (txt (k : Int) t0).length ≤ (txt (loK k cmp) t0).length := txt_mono (by unfold loK; split <;> omega)
        exact ⟨t0, ho, hc, by simp only; omega⟩
      · rw [if_neg hk]
        by_cases hcm : cmp = true
        · rw [if_pos hcm]; intro h; cases h
        · rw [if_neg hcm]
          have hk' : (opAt s p).2.2 = k := Decidable.not_not.1 hk
          have hj := ihj (k + 1) (p + (opAt s p).2.1) cs (by omega) (by omega)
          by_cases hr : (D s n (.joins (k + 1)) (p + (opAt s p).2.1) cs).1 = true
          · rw [if_pos hr]
            obtain ⟨t, g1, g2, g3⟩ := hj hr
            obtain ⟨o1, o2, o3, o4⟩ := opOf_tab (c := nx s p) (d := nx s (p + 1)) (by show (opAt s p).2.2 ≠ 0; omega)
            have o1 : 11 ≤ (opAt s p).1 := o1
            have o2 : (opAt s p).1 ≤ 23 := o2
            have o3 : (tabAt ((opAt s p).1 - 11).toNat).2.1.length = (opAt s p).2.1 := o3
            have o4 : (tabAt ((opAt s p).1 - 11).toNat).2.2 = ((opAt s p).2.2 : Int) := o4
            rw [hk'] at o4
            refine ihl k (k == 3) _ _ h1 h5 (.bin (opAt s p).1 t0 t) cs0 p0 ⟨o1, o2, ho, g1⟩ ?_ ?_
            · rw [g2, hc]
              simp only [post, List.append_assoc]
            · have e1 : loK k (k == 3) = k := by
                unfold loK
                by_cases h3 : k = 3
                · subst h3; rfl
                · rw [if_neg (fun h => h3 h.1)]
              have e0 : loK k cmp = if (k : Int) = 3 then 4 else k := by
                unfold loK
                cases cmp
                · by_cases h3 : k = 3
                  · subst h3; rfl
                  · rw [if_neg (fun h => h3 h.1), if_neg (by omega)]
                · exact absurd rfl hcm
              have e2 : pcT (.bin (opAt s p).1 t0 t) = (txt (loK k cmp) t0 ++ (tabAt ((opAt s p).1 - 11).toNat).2.1 ++ txt ((k + 1 : Nat) : Int) t, (k : Int)) := by
                show joinP (opC (opAt s p).1) (pcT t0) (pcT t) = _
                rw [joinP_bin o1, e0]
                unfold betP txt
                rw [o4]
                by_cases h3 : (k : Int) = 3
                · rw [if_pos h3, if_pos h3]
                  have hk3 : k = 3 := by omega
                  subst hk3
                  rfl
                · rw [if_neg h3, if_neg h3]; rfl
              rw [e1, txt_own (by rw [e2]; exact Int.le_refl _), e2]
              simp only [List.length_append]
              omega
          · rw [if_neg hr]; exact fun h => absurd h hr
    · intro p cs
      rw [D_ahead]
      split
      · exact got_sign (Or.inl rfl) (iha (p + 1) cs)
      · split
        · exact got_sign (Or.inr rfl) (iha (p + 1) cs)
        · split
          · exact got_paren (ihj 1 (p + 1) cs (by omega) (by omega))
          · split
            · rename_i hd
              exact got_num (nx_lt (by intro e; rw [e] at hd; exact absurd hd (by decide))) hd
            · exact got_word (ihj 1 (p + 3) cs (by omega) (by omega))

theorem parse_sound {s : List UInt8} (h : (parseP s).2.2 = 0) : (parseP s).2.1 = 0 ∧ ∃ t, OkT t ∧ (parseP s).1 = post t ∧ (post t).length ≤ 32 ∧ (pcT t).1.length ≤ s.length := by
  have hg := goes s (s.length * 10 + 8) (.joins 1) 0 [] (by omega)
  have hs := (sound s (s.length * 10 + 8)).1 1 0 [] (by omega) (by omega)
  unfold parseP at h ⊢
  split at h
  · cases h
  · rename_i h6
    rw [if_neg h6]
    split at h
    · cases h
    · rename_i h1
      rw [if_neg h1]
      split at h
      · cases h
      · rename_i h2
        rw [if_neg h2]
        have hb : (D s (s.length * 10 + 8) (.joins 1) 0 []).1 = true := by
          cases hb : (D s (s.length * 10 + 8) (.joins 1) 0 []).1
          · exact absurd (Or.inl hb) h1
          · rfl
        obtain ⟨t, g1, g2, g3⟩ := hs hb
        have hst := strength g1
        rw [show ((1 : Nat) : Int) = 1 from rfl, txt_own (by omega)] at g3
        rw [List.nil_append] at g2
        have := hg.le
        exact ⟨rfl, t, g1, g2, by rw [← g2]; omega, by omega⟩
theorem parse_err (s : List UInt8) : (parseP s).2.2 = 0 ∨ (parseP s).2.2 = 1 ∨ (parseP s).2.2 = 4 := by
  unfold parseP
  split
  · exact Or.inr (Or.inr rfl)
  · split
    · exact Or.inr (Or.inl rfl)
    · split
      · exact Or.inr (Or.inr rfl)
      · exact Or.inl rfl
theorem parse_none {s : List UInt8} (h : (parseP s).2.2 ≠ 0) : (parseP s).1 = [] := by
  unfold parseP at h ⊢
  split
  · rfl
  · rename_i h6
    rw [if_neg h6] at h
    split
    · rfl
    · rename_i h1
      rw [if_neg h1] at h
      split
      · rfl
      · rename_i h2
        rw [if_neg h2] at h
        exact absurd rfl h
end Go.Proofs.YtfgocdeaanalgaaDoor
