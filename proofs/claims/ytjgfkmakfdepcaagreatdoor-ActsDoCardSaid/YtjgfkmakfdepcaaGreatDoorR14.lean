/- Own texts, joined: Oq, F9, Ev, A1, A2, Vh. -/
import Derived.Test.YtjgfkmakfdepcaaGreatDoorR3
import Derived.Test.YtjgfkmakfdepcaaGreatDoorR4
import Derived.Test.YtjgfkmakfdepcaaGreatDoorR8
import Derived.Test.YtjgfkmakfdepcaaGreatDoorR9
import Derived.Test.YtjgfkmakfdepcaaGreatDoorR10
import Derived.Test.YtjgfkmakfdepcaaGreatDoorR13
import Derived.Lib.SplitLaws
import Derived.Lib.Split
import Derived.Lib.IndexBytes
import Derived.Lib.Join
namespace Go.Proofs.YtjgfkmakfdepcaaGreatDoor
open Go.RowKit Go.ChangeShapes Go.WideShapes Go.ChangeAt

section
variable {H : Type} {enc : TypeId × Value → H} {P : Program} {W : World}
theorem flat_len {size : Nat} : ∀ (rows : List (List Value)), (∀ r ∈ rows, r.length = size) → rows.flatten.length = rows.length * size
  | [], _ => by simp
  | x :: rs, h => by
    rw [List.flatten_cons, List.length_append, h x (by simp), flat_len rs (fun r hr => h r (by simp [hr]))]
    simp [Nat.succ_mul]; omega
/-- the rows of a slice that comes in, and its elements -/
theorem open_rows {t e : TypeId} {size n : Nat} {v : Value} {y : DataW H × List MemPlace} (ht : P.underlying t = some (.slice e)) (hC : P.cellsOf e = size) (h0 : 0 < size)
    (h : DataW.trod enc P W 0 (fun _ => true) true n t [v] = some y) :
    ∃ rows : List (List Value), Inn W size v rows.length rows.flatten ∧
      ((y.1 = .nil ∧ rows = []) ∨ ∃ es sp, y.1 = .slice es sp ∧ rows.length = es.length ∧ ∀ (i : Nat) r, rows[i]? = some r → ∃ (k : Nat) (d : DataW H) (q : List MemPlace), es[i]? = some d ∧ DataW.trod enc P W 0 (fun _ => true) true k e r = some (d, q)) ∧ ∀ A m c, v = .slice A m c → m ≤ c := by
  rcases Go.Deep.open_slice ht h with ⟨hcs, hx⟩ | ⟨a, len, cap, m, k, D, Pl, hcs, _, hl, hm, hmm, hx, hi⟩
  · simp at hcs
    subst hcs
    exact ⟨[], Inn.nil _ _, Or.inl ⟨by rw [hx], rfl⟩, fun A m c e => by injection e; omega⟩
  · simp at hcs
    subst hcs
    rw [if_pos rfl] at hmm
    subst hmm
    rw [hC] at hi
    have hall : ∀ q, q ≤ len → ∃ rows : List (List Value), rows.length = q ∧ (∀ (i : Nat) r, rows[i]? = some r → r.length = size ∧ DataW.trod enc P W 0 (fun _ => true) true k e r = some (D i, Pl i)) ∧ ∀ j u, rows.flatten[j]? = some u → W.cell? (a.add j) = some u := by
      intro q
      induction q with
      | zero => intro _; exact ⟨[], rfl, (by intro i r hr; simp at hr), fun j u hu => by simp at hu⟩
      | succ q ih =>
        intro hq
        obtain ⟨rows, h1, h2, h3⟩ := ih (by omega)
        obtain ⟨r, hr1, hr2⟩ := hi q (by omega)
        obtain ⟨_, hrl, hat⟩ := World.cells?_some hr1
        have hfl : rows.flatten.length = q * size := by
          rw [flat_len rows (fun r hr => by obtain ⟨i, hi'⟩ := List.getElem?_of_mem hr; exact (h2 i r hi').1), h1]
        refine ⟨rows ++ [r], by simp [h1], fun i r' hr' => ?_, fun j u hu => ?_⟩
        · by_cases hi' : i < rows.length
          · rw [List.getElem?_append_left hi'] at hr'
            exact h2 i r' hr'
          · rw [List.getElem?_append_right (by omega)] at hr'
            have h0 : i - rows.length = 0 := by
              have := (List.getElem?_eq_some_iff.1 hr').1
              simp at this; omega
            rw [h0] at hr'
            simp at hr'
            subst hr'
            have : i = q := by omega
            subst this
            exact ⟨hrl, hr2⟩
        · rw [List.flatten_append] at hu
          by_cases hj : j < q * size
          · rw [List.getElem?_append_left (by omega)] at hu
            exact h3 j u hu
          · rw [List.getElem?_append_right (by omega), hfl] at hu
            simp only [List.flatten_cons, List.flatten_nil, List.append_nil] at hu
            have hjl := (List.getElem?_eq_some_iff.1 hu).1
            have h4 := hat (j - q * size) (by omega)
            rw [Go.Deep.add_add, hu] at h4
            rw [show q * size + (j - q * size) = j by omega] at h4
            exact h4
    obtain ⟨rows, h1, h2, h3⟩ := hall len (Nat.le_refl _)
    have hfl : rows.flatten.length = len * size := by
      rw [flat_len rows (fun r hr => by obtain ⟨i, hi'⟩ := List.getElem?_of_mem hr; exact (h2 i r hi').1), h1]
    refine ⟨rows, Or.inr ⟨a, m, by rw [h1], by rw [hfl, h1], fun hn => ?_⟩, Or.inr ⟨_, _, by rw [hx], by simp [h1], fun i r hr => ?_⟩, fun A q c e => by injection e; omega⟩
    · rw [h1] at hn
      have hlt : 0 < rows.flatten.length := by rw [hfl]; exact Nat.mul_pos hn h0
      have hc0 := h3 0 _ (List.getElem?_eq_getElem hlt)
      obtain ⟨bl, off, spot⟩ := a
      have hc0' : W.cell? ⟨bl, off, spot⟩ = some (rows.flatten[0]'hlt) := by simpa [Addr.add] using hc0
      have := Go.Proofs.cell_spot hc0'
      subst this
      exact ⟨bl, off, rfl, cell_lt hc0', fun j u hu => by have := h3 j u hu; rw [add_lit'] at this; exact this⟩
    · have hil : i < len := by rw [← h1]; exact (List.getElem?_eq_some_iff.1 hr).1
      exact ⟨k, D i, Pl i, by simp [hil], (h2 i r hr).2⟩
/-- rows as a list of things, each by its place -/
theorem rows_at {α : Type} (f : α → List Value) (q : Nat → α → Prop) : ∀ (rows : List (List Value)) (o : Nat), (∀ (i : Nat) r, rows[i]? = some r → ∃ a, r = f a ∧ q (o + i) a) → ∃ l : List α, rows = l.map f ∧ ∀ (i : Nat) a, l[i]? = some a → q (o + i) a
  | [], _, _ => ⟨[], rfl, fun i a h => by simp at h⟩
  | r :: rs, o, h => by
    obtain ⟨a, ha, hq⟩ := h 0 r rfl
    obtain ⟨l, hl, hql⟩ := rows_at f q rs (o + 1) (fun i r hr => by
      obtain ⟨a, h1, h2⟩ := h (i + 1) r hr
      exact ⟨a, h1, by rw [show o + 1 + i = o + (i + 1) by omega]; exact h2⟩)
    refine ⟨a :: l, by rw [ha, hl]; rfl, fun i b hb => ?_⟩
    cases i with
    | zero => simp at hb; subst hb; exact hq
    | succ i => have := hql i b (by simpa using hb); rw [show o + (i + 1) = o + 1 + i by omega]; exact this
theorem weights_all {e : TypeId} : ∀ (es : List (DataW H)) (i : Nat) (d : DataW H), es[i]? = some d → ∀ x ∈ d.weights P e, x ∈ DataW.weightsAll P e es
  | [], i, d, h, _, _ => by simp at h
  | d0 :: r, 0, d, h, x, hx => by
    simp at h; subst h
    simp only [DataW.weightsAll, List.mem_append]; exact Or.inl hx
  | d0 :: r, i + 1, d, h, x, hx => by
    simp only [DataW.weightsAll, List.mem_append]
    exact Or.inr (weights_all r i d (by simpa using h) x hx)
end
end Go.Proofs.YtjgfkmakfdepcaaGreatDoor
namespace Go.Proofs.YtjgfkmakfdepcaaGreatDoor
open Go.RowKit

theorem inP_mono (x : List UInt8) {st a b : Int} (h : a ≤ b) : (inP x st a).length ≤ (inP x st b).length := by
  unfold inP
  by_cases h1 : st < a
  · rw [if_pos h1, if_pos (by omega)]; exact Nat.le_refl _
  · rw [if_neg h1]
    split
    · simp; omega
    · exact Nat.le_refl _
theorem txt_mono {t : T} {a b : Int} (h : a ≤ b) : (txt a t).length ≤ (txt b t).length := inP_mono _ h
theorem txt_top (t : T) (k : Int) : (txt k t).length ≤ (pcT t).1.length + 2 := inP_len _ _ _
theorem txt_own {t : T} {k : Int} (h : k ≤ (pcT t).2) : txt k t = (pcT t).1 := by unfold txt inP; rw [if_neg (by omega)]

def loK (k : Nat) (cmp : Bool) : Int := if k = 3 ∧ cmp = false then 4 else k

/-- a reading that went well gave a tree's cells, and its text has room in what was read -/
def Got (p : Nat) (cs : List CM) (k : Int) (r : Rs) : Prop := r.1 = true → ∃ t, OkT t ∧ r.2.2 = cs ++ post t ∧ (txt k t).length + p ≤ r.2.1

theorem opOf_tab {c d : UInt8} (h : (opOf c d).2.2 ≠ 0) : 11 ≤ (opOf c d).1 ∧ (opOf c d).1 ≤ 23 ∧ (tabAt ((opOf c d).1 - 11).toNat).2.1.length = (opOf c d).2.1 ∧ (tabAt ((opOf c d).1 - 11).toNat).2.2 = ((opOf c d).2.2 : Int) := by
  revert h
  unfold opOf
  repeat' split
  all_goals first | (intro h; exact absurd rfl h) | (intro _; decide)

theorem leaf_top {c : CM} (h : OkT (.leaf c)) : (pcT (.leaf c)).2 = 7 := by
  have h16 : 1 ≤ c.op ∧ c.op ≤ 6 := by
    have h1 := formed_op h.1
    have ho := h.2
    unfold operN at ho
    split at ho
    · assumption
    · split at ho <;> omega
  have hc : c.op = 1 ∨ c.op = 2 ∨ c.op = 3 ∨ c.op = 4 ∨ c.op = 5 ∨ c.op = 6 := by omega
  show (joinP c none0 none0).2 = 7
  unfold joinP
  rcases hc with e | e | e | e | e | e <;> simp [e]

section
variable {s : List UInt8} {p q : Nat} {cs : List CM}
theorem got_no {k : Int} : Got p cs k (false, q, cs) := by intro h; cases h
theorem got_leaf {c : CM} (hf : formedB c = true) (ho : operN c.op = 0) (hl : (joinP c none0 none0).1.length + p ≤ q) : Got p cs 6 (true, q, cs ++ [c]) := by
  intro _
  refine ⟨.leaf c, ⟨hf, ho⟩, rfl, ?_⟩
  rw [txt_own (by rw [leaf_top ⟨hf, ho⟩]; omega)]
  exact hl
theorem got_hold {inner : Rs} {o : Int} (ho : o = 9 ∨ o = 10) (hi : Got (p + 3) cs 1 inner) : Got p cs 6 (addD o (closeD s inner)) := by
  obtain ⟨b, q, cs'⟩ := inner
  cases b
  · intro h; simp [addD, closeD] at h
  · by_cases h41 : nx s q = 41
    · have e : addD o (closeD s (true, q, cs')) = (true, q + 1, cs' ++ [opC o]) := by simp [addD, closeD, h41]
      rw [e]
      obtain ⟨t, h1, h2, h3⟩ := hi rfl
      simp only at h2 h3
      intro _
      have hs := strength h1
      rw [txt_own (by omega)] at h3
      refine ⟨.un o t, ⟨by omega, by omega, h1⟩, ?_, ?_⟩
      · show cs' ++ [opC o] = cs ++ (post t ++ [opC o])
        rw [h2, List.append_assoc]
      · rcases ho with rfl | rfl
        · rw [txt_own (by show (6 : Int) ≤ 7; omega)]
          show ([114, 101, 40] ++ (pcT t).1 ++ [41]).length + p ≤ q + 1
          simp; omega
        · rw [txt_own (by show (6 : Int) ≤ 7; omega)]
          show ([105, 109, 40] ++ (pcT t).1 ++ [41]).length + p ≤ q + 1
          simp; omega
    · intro h; simp [addD, closeD, h41] at h
theorem got_sign {r : Rs} {o : Int} (ho : o = 7 ∨ o = 8) (hi : Got (p + 1) cs 6 r) : Got p cs 6 (addD o r) := by
  obtain ⟨b, q, cs'⟩ := r
  cases b
  · intro h; simp [addD] at h
  · have e : addD o (true, q, cs') = (true, q, cs' ++ [opC o]) := by simp [addD]
    rw [e]
    obtain ⟨t, h1, h2, h3⟩ := hi rfl
    simp only at h2 h3
    intro _
    refine ⟨.un o t, ⟨by omega, by omega, h1⟩, ?_, ?_⟩
    · show cs' ++ [opC o] = cs ++ (post t ++ [opC o])
      rw [h2, List.append_assoc]
    · rcases ho with rfl | rfl
      · rw [txt_own (by show (6 : Int) ≤ 6; omega)]
        show ([45] ++ txt 6 t).length + p ≤ q
        simp; omega
      · rw [txt_own (by show (6 : Int) ≤ 6; omega)]
        show ([33] ++ txt 6 t).length + p ≤ q
        simp; omega
theorem got_paren {r : Rs} (hi : Got (p + 1) cs 1 r) : Got p cs 6 (closeD s r) := by
  obtain ⟨b, q, cs'⟩ := r
  cases b
  · intro h; simp [closeD] at h
  · by_cases h41 : nx s q = 41
    · have e : closeD s (true, q, cs') = (true, q + 1, cs') := by simp [closeD, h41]
      rw [e]
      obtain ⟨t, h1, h2, h3⟩ := hi rfl
      simp only at h2 h3
      intro _
      have hs := strength h1
      rw [txt_own (by omega)] at h3
      have h4 := txt_top t 6
      exact ⟨t, h1, h2, by simp only; omega⟩
    · intro h; simp [closeD, h41] at h
theorem got_state : Got p cs 6 (stateD s p cs) := by
  unfold stateD
  split
  · rename_i hn
    by_cases h41 : nx s (p + 3 + (wordP s (p + 3)).length) = 41
    · have e : closeD s (true, p + 3 + (wordP s (p + 3)).length, cs ++ [⟨6, 0, wordP s (p + 3)⟩]) = (true, p + 3 + (wordP s (p + 3)).length + 1, cs ++ [⟨6, 0, wordP s (p + 3)⟩]) := by simp [closeD, h41]
      rw [e]
      refine got_leaf (by unfold formedB; simp [hn]) rfl ?_
      show ([105, 110, 40] ++ wordP s (p + 3) ++ [41]).length + p ≤ _
      simp; omega
    · intro h; simp [closeD, h41] at h
  · exact got_no
theorem got_word {inner : Rs} (hi : Got (p + 3) cs 1 inner) : Got p cs 6 (wordD s p cs (wordP s p) inner) := by
  unfold wordD
  split
  · refine got_leaf (c := opC 3) (by decide) (by decide) ?_
    show 4 + p ≤ p + 4
    omega
  · split
    · refine got_leaf (c := opC 4) (by decide) (by decide) ?_
      show 5 + p ≤ p + 5
      omega
    · split
      · rename_i hn
        refine got_leaf (c := ⟨5, 0, wordP s p⟩) (by unfold formedB; simp [hn]) rfl ?_
        show (wordP s p).length + p ≤ p + (wordP s p).length
        omega
      · split
        · exact got_no
        · split
          · exact got_state
          · split
            · exact got_hold (Or.inl rfl) hi
            · split
              · exact got_hold (Or.inr rfl) hi
              · exact got_no

theorem num_all : ∀ c ∈ numT s p, isD c = true := by
  intro c hc
  unfold numT at hc
  split at hc
  · simp at hc; subst hc; decide
  · exact List.all_eq_true.1 List.all_takeWhile c hc
theorem num_head (hp : p < s.length) (h : (numT s p).head? = some 48) : (numT s p).length = 1 := by
  unfold numT at h ⊢
  split at h
  · rename_i e; rw [if_pos e]; rfl
  · rename_i e
    rw [List.drop_eq_getElem_cons hp] at h
    rw [nx_at hp] at e
    rw [List.takeWhile_cons] at h
    split at h
    · simp at h; exact absurd h e
    · simp at h
theorem num_back (hp : p < s.length) (hd : isD (nx s p) = true) (h : (numP (numT s p)).2 = 0) : ∃ u : Nat, (numP (numT s p)).1 = u ∧ u ≤ 1099511627776 ∧ numT s p = Lib.decDigits u := by
  have hpos := num_pos hp hd
  have hne : numT s p ≠ [] := by intro e; rw [e] at hpos; simp at hpos
  have hdec := dec_unique _ (numT s p) rfl num_all hne (num_head hp)
  have h45 : (numT s p).head? ≠ some 45 := by
    intro e
    have := num_all (s := s) (p := p) 45 (List.mem_of_mem_head? e)
    exact absurd this (by decide)
  have hf0 : fOf (numT s p) = 0 := by unfold fOf; rw [if_neg h45]
  have hv : valN (numT s p) = valD 0 (numT s p) := by unfold valN; rw [hf0, List.drop_zero]
  unfold numP at h
  split at h
  · split at h
    · cases h
    · rename_i hok hle
      exact ⟨valD 0 (numT s p), by rw [numP_pos hok hle h45, hv], by omega, hdec.symm⟩
  · cases h
theorem got_num (hp : p < s.length) (hd : isD (nx s p) = true) : Got p cs 6 (numD s p cs) := by
  unfold numD
  split
  · exact got_no
  · rename_i h0
    obtain ⟨u, h1, h2, h3⟩ := num_back hp hd (Decidable.not_not.1 h0)
    have hit : Lib.itoa (u : Int) = numT s p := by rw [itoa_nat (by omega), h3]; rfl
    rw [h1]
    split
    · split
      · rename_i hle
        refine got_leaf (c := ⟨2, (u : Int), []⟩) (by unfold formedB; simp; omega) rfl ?_
        show (Lib.itoa (u : Int) ++ [105]).length + p ≤ _
        rw [hit]; simp; omega
      · exact got_no
    · refine got_leaf (c := ⟨1, (u : Int), []⟩) (by unfold formedB; simp; omega) rfl ?_
      show (Lib.itoa (u : Int)).length + p ≤ _
      rw [hit]; omega
end

theorem sound (s : List UInt8) : ∀ n : Nat, (∀ (k p : Nat) (cs : List CM), 1 ≤ k → k ≤ 6 → Got p cs k (D s n (.joins k) p cs)) ∧
    (∀ (k : Nat) (cmp : Bool) (p : Nat) (cs : List CM), 1 ≤ k → k ≤ 5 → ∀ (t0 : T) (cs0 : List CM) (p0 : Nat), OkT t0 → cs = cs0 ++ post t0 → (txt (loK k cmp) t0).length + p0 ≤ p → Got p0 cs0 k (D s n (.loop k cmp) p cs)) ∧
    (∀ (p : Nat) (cs : List CM), Got p cs 6 (D s n .ahead p cs)) := by
  intro n
  induction n with
  | zero =>
    refine ⟨?_, ?_, ?_⟩
    · intro k p cs _ _; exact got_no
    · intro k cmp p cs _ _ t0 cs0 p0 _ _ _ h; simp [D] at h
    · intro p cs; exact got_no
  | succ n ih =>
    obtain ⟨ihj, ihl, iha⟩ := ih
    refine ⟨?_, ?_, ?_⟩
    · intro k p cs h1 h6
      rw [D_joins]
      by_cases hk : k = 6
      · rw [if_pos hk]; subst hk; exact iha p cs
      · rw [if_neg hk]
        have hj := ihj (k + 1) p cs (by omega) (by omega)
        by_cases hr : (D s n (.joins (k + 1)) p cs).1 = true
        · rw [if_pos hr]
          obtain ⟨t, g1, g2, g3⟩ := hj hr
          refine ihl k false _ _ h1 (by omega) t cs p g1 g2 ?_
          have : (txt (loK k false) t).length ≤ (txt ((k + 1 : Nat) : Int) t).length := txt_mono (by unfold loK; split <;> omega)
          omega
        · rw [if_neg hr]; exact fun h => absurd h hr
    · intro k cmp p cs h1 h5 t0 cs0 p0 ho hc hl
      rw [D_loop]
      by_cases hk : (opAt s p).2.2 ≠ k
      · rw [if_pos hk]
        intro _
        have : (txt (k : Int) t0).length ≤ (txt (loK k cmp) t0).length := txt_mono (by unfold loK; split <;> omega)
        exact ⟨t0, ho, hc, by simp only; omega⟩
      · rw [if_neg hk]
        by_cases hcm : cmp = true
        · rw [if_pos hcm]; intro h; cases h
        · rw [if_neg hcm]
          have hk' : (opAt s p).2.2 = k := Decidable.not_not.1 hk
          have hj := ihj (k + 1) (p + (opAt s p).2.1) cs (by omega) (by omega)
          by_cases hr : (D s n (.joins (k + 1)) (p + (opAt s p).2.1) cs).1 = true
          · rw [if_pos hr]
            obtain ⟨t, g1, g2, g3⟩ := hj hr
            obtain ⟨o1, o2, o3, o4⟩ := opOf_tab (c := nx s p) (d := nx s (p + 1)) (by show (opAt s p).2.2 ≠ 0; omega)
            have o1 : 11 ≤ (opAt s p).1 := o1
            have o2 : (opAt s p).1 ≤ 23 := o2
            have o3 : (tabAt ((opAt s p).1 - 11).toNat).2.1.length = (opAt s p).2.1 := o3
            have o4 : (tabAt ((opAt s p).1 - 11).toNat).2.2 = ((opAt s p).2.2 : Int) := o4
            rw [hk'] at o4
            refine ihl k (k == 3) _ _ h1 h5 (.bin (opAt s p).1 t0 t) cs0 p0 ⟨o1, o2, ho, g1⟩ ?_ ?_
            · rw [g2, hc]
              simp only [post, List.append_assoc]
            · have e1 : loK k (k == 3) = k := by
                unfold loK
                by_cases h3 : k = 3
                · subst h3; rfl
                · rw [if_neg (fun h => h3 h.1)]
              have e0 : loK k cmp = if (k : Int) = 3 then 4 else k := by
                unfold loK
                cases cmp
                · by_cases h3 : k = 3
                  · subst h3; rfl
                  · rw [if_neg (fun h => h3 h.1), if_neg (by omega)]
                · exact absurd rfl hcm
              have e2 : pcT (.bin (opAt s p).1 t0 t) = (txt (loK k cmp) t0 ++ (tabAt ((opAt s p).1 - 11).toNat).2.1 ++ txt ((k + 1 : Nat) : Int) t, (k : Int)) := by
                show joinP (opC (opAt s p).1) (pcT t0) (pcT t) = _
                rw [joinP_bin o1, e0]
                unfold betP txt
                rw [o4]
                by_cases h3 : (k : Int) = 3
                · rw [if_pos h3, if_pos h3]
                  have hk3 : k = 3 := by omega
                  subst hk3
                  rfl
                · rw [if_neg h3, if_neg h3]; rfl
              rw [e1, txt_own (by rw [e2]; exact Int.le_refl _), e2]
              simp only [List.length_append]
              omega
          · rw [if_neg hr]; exact fun h => absurd h hr
    · intro p cs
      rw [D_ahead]
      split
      · exact got_sign (Or.inl rfl) (iha (p + 1) cs)
      · split
        · exact got_sign (Or.inr rfl) (iha (p + 1) cs)
        · split
          · exact got_paren (ihj 1 (p + 1) cs (by omega) (by omega))
          · split
            · rename_i hd
              exact got_num (nx_lt (by intro e; rw [e] at hd; exact absurd hd (by decide))) hd
            · exact got_word (ihj 1 (p + 3) cs (by omega) (by omega))

theorem parse_sound {s : List UInt8} (h : (parseP s).2.2 = 0) : (parseP s).2.1 = 0 ∧ ∃ t, OkT t ∧ (parseP s).1 = post t ∧ (post t).length ≤ 32 ∧ (pcT t).1.length ≤ s.length := by
  have hg := goes s (s.length * 10 + 8) (.joins 1) 0 [] (by omega)
  have hs := (sound s (s.length * 10 + 8)).1 1 0 [] (by omega) (by omega)
  unfold parseP at h ⊢
  split at h
  · cases h
  · rename_i h6
    rw [if_neg h6]
    split at h
    · cases h
    · rename_i h1
      rw [if_neg h1]
      split at h
      · cases h
      · rename_i h2
        rw [if_neg h2]
        have hb : (D s (s.length * 10 + 8) (.joins 1) 0 []).1 = true := by
          cases hb : (D s (s.length * 10 + 8) (.joins 1) 0 []).1
          · exact absurd (Or.inl hb) h1
          · rfl
        obtain ⟨t, g1, g2, g3⟩ := hs hb
        have hst := strength g1
        rw [show ((1 : Nat) : Int) = 1 from rfl, txt_own (by omega)] at g3
        rw [List.nil_append] at g2
        have := hg.le
        exact ⟨rfl, t, g1, g2, by rw [← g2]; omega, by omega⟩
theorem parse_none {s : List UInt8} (h : (parseP s).2.2 ≠ 0) : (parseP s).1 = [] := by
  unfold parseP at h ⊢
  split
  · rfl
  · rename_i h6
    rw [if_neg h6] at h
    split
    · rfl
    · rename_i h1
      rw [if_neg h1] at h
      split
      · rfl
      · rename_i h2
        rw [if_neg h2] at h
        exact absurd rfl h
end Go.Proofs.YtjgfkmakfdepcaaGreatDoor
namespace Go.Proofs.YtjgfkmakfdepcaaGreatDoor
open Go.RowKit

def eventB (l : List UInt8) : Bool := nameB (Lib.trimPrefix l [100, 111, 110, 101, 46])

theorem event_any (s : ByteArray) (w : World) :
    Calls Tryz.prog 51 #[.string s] w fun e w' => e = .returned (.bool (eventB s.data.toList)) ∧ w = w' := by
  go_enter Tryz.func51, Tryz.ntmps51
  go_wp2_with fail
  refine (Tryz.strings_TrimPrefix s ⟨#[100, 111, 110, 101, 46]⟩ w).mono ?_
  rintro e w' ⟨rfl, rfl⟩
  go_wp2_with fail
  refine (name_any _ _).mono ?_
  rintro e w' ⟨rfl, rfl⟩
  go_wp2
  go_ret
  exact ⟨rfl, rfl⟩

end Go.Proofs.YtjgfkmakfdepcaaGreatDoor
namespace Go.Proofs.YtjgfkmakfdepcaaGreatDoor

structure AM where
  kd : Int
  nm : List UInt8
  ex : List CM

def isIn (c : CM) : Bool := decide (c.op = 6)
def asksB (cs : List CM) : Bool := cs.any isIn
def oneB (a : AM) : Bool :=
  if a.kd = 1 then nameB a.nm && rightB a.ex && !asksB a.ex else if a.kd = 2 ∨ a.kd = 3 then eventB a.nm && decide (a.ex.length = 0) else false
def wRaise : List UInt8 := [114, 97, 105, 115, 101, 58]
def wSend : List UInt8 := [115, 101, 110, 100, 58]
def textA (a : AM) : List UInt8 := if a.kd = 2 then wRaise ++ a.nm else if a.kd = 3 then wSend ++ a.nm else a.nm ++ [61] ++ (showP a.ex).1
/-- the semis between semicolons -/
def semis : List UInt8 → List (List UInt8)
  | [] => [[]]
  | c :: r => if c = 59 then [] :: semis r else match semis r with
    | [] => [[c]]
    | p :: ps => (c :: p) :: ps

def readA (s : List UInt8) : AM :=
  if Lib.hasPrefix s wRaise = true then ⟨2, s.drop 6, []⟩ else if Lib.hasPrefix s wSend = true then ⟨3, s.drop 5, []⟩ else ⟨1, (Lib.cut s [61]).1, (parseP (Lib.cut s [61]).2.1).1⟩
def parseA (s : List UInt8) : List AM × Int :=
  if 6000 < s.length ∨ 8 ≤ Lib.countByte s 59 then ([], 4) else if ((semis s).map readA).all oneB = true then ((semis s).map readA, 0) else ([], 1)

theorem semis_ne (s : List UInt8) : semis s ≠ [] := by
  cases s with
  | nil => simp [semis]
  | cons c r =>
    unfold semis
    split
    · simp
    · split <;> simp
theorem semis_len (s : List UInt8) : (semis s).length = Lib.countByte s 59 + 1 := by
  induction s with
  | nil => rfl
  | cons c r ih =>
    unfold semis
    by_cases h : c = 59
    · subst h
      simp only [if_true, List.length_cons, ih, Lib.countByte, List.count_cons_self]
    · rw [if_neg h]
      have e : Lib.countByte (c :: r) 59 = Lib.countByte r 59 := by unfold Lib.countByte; rw [List.count_cons_of_ne h]
      rw [e, ← ih]
      cases hp : semis r with
      | nil => exact absurd hp (semis_ne r)
      | cons p ps => rfl
theorem semis_none {s : List UInt8} (h : ∀ c ∈ s, c ≠ 59) : semis s = [s] := by
  induction s with
  | nil => rfl
  | cons c r ih =>
    unfold semis
    rw [if_neg (h c (by simp)), ih (fun x hx => h x (by simp [hx]))]
theorem semis_cut {p : List UInt8} (h : ∀ c ∈ p, c ≠ 59) (r : List UInt8) : semis (p ++ 59 :: r) = p :: semis r := by
  induction p with
  | nil => rfl
  | cons c q ih =>
    show semis (c :: (q ++ 59 :: r)) = _
    conv => lhs; unfold semis
    rw [if_neg (h c (by simp)), ih (fun x hx => h x (by simp [hx]))]
theorem at_index : ∀ {s : List UInt8} {c : UInt8} {i : Nat}, Lib.indexByte s c = i → s = s.take i ++ c :: s.drop (i + 1) ∧ ∀ x ∈ s.take i, x ≠ c
  | [], c, i, h => by simp [Lib.indexByte] at h
  | b :: l, c, i, h => by
    unfold Lib.indexByte at h
    split at h
    · rename_i hb
      have : i = 0 := by omega
      subst this
      have := beq_iff_eq.1 hb
      subst this
      exact ⟨rfl, by simp⟩
    · rename_i hb
      split at h
      · omega
      · rename_i hn
        have hg := Lib.indexByte_ge l c
        have hn' : Lib.indexByte l c ≠ -1 := fun e => hn (by rw [e]; rfl)
        obtain ⟨k, hk⟩ : ∃ k : Nat, Lib.indexByte l c = k := ⟨(Lib.indexByte l c).toNat, by omega⟩
        have : i = k + 1 := by omega
        subst this
        obtain ⟨h1, h2⟩ := at_index hk
        refine ⟨?_, ?_⟩
        · show b :: l = b :: (l.take k ++ c :: l.drop (k + 1))
          rw [← h1]
        · intro x hx
          rw [List.take_succ_cons] at hx
          rcases List.mem_cons.1 hx with rfl | hx
          · intro e; subst e; exact hb (by simp)
          · exact h2 x hx
theorem index_no : ∀ {s : List UInt8} {c : UInt8}, Lib.indexByte s c = -1 → ∀ x ∈ s, x ≠ c
  | [], c, h => by simp
  | b :: l, c, h => by
    unfold Lib.indexByte at h
    split at h
    · omega
    · rename_i hb
      split at h
      · rename_i hn
        have hn := beq_iff_eq.1 hn
        intro x hx
        rcases List.mem_cons.1 hx with rfl | hx
        · intro e; subst e; exact hb (by simp)
        · exact index_no hn x hx
      · have := Lib.indexByte_ge l c; omega
theorem split_pieces : ∀ (k : Nat) (s : List UInt8), Lib.countByte s 59 = k → Lib.splitK [59] 0 k s = semis s
  | 0, s, h => by
    have : ∀ c ∈ s, c ≠ 59 := by
      intro c hc e
      subst e
      exact absurd h (by unfold Lib.countByte; have := List.count_pos_iff.2 hc; omega)
    rw [semis_none this]; rfl
  | k + 1, s, h => by
    unfold Lib.splitK
    rw [Lib.index_one]
    have hg := Lib.indexByte_ge s 59
    by_cases hn : Lib.indexByte s 59 = -1
    · have := index_no hn
      exfalso
      have h0 : Lib.countByte s 59 = 0 := List.count_eq_zero.2 (fun hm => this _ hm rfl)
      omega
    · obtain ⟨i, hi⟩ : ∃ i : Nat, Lib.indexByte s 59 = i := ⟨(Lib.indexByte s 59).toNat, by omega⟩
      obtain ⟨h1, h2⟩ := at_index hi
      rw [hi, if_neg (by simp <;> omega)]
      have hc : Lib.countByte (s.drop (i + 1)) 59 = k := by
        have e : Lib.countByte s 59 = Lib.countByte (s.take i ++ 59 :: s.drop (i + 1)) 59 := by rw [← h1]
        rw [h] at e
        unfold Lib.countByte at e ⊢
        rw [List.count_append, List.count_eq_zero.2 (fun hm => h2 _ hm rfl), List.count_cons_self] at e
        omega
      have ih := split_pieces k _ hc
      have e2 : semis s = s.take i :: semis (s.drop (i + 1)) := by
        conv => lhs; rw [h1]
        exact semis_cut h2 _
      rw [e2, ← ih]
      rfl
theorem split_is (s : ByteArray) : (Lib.splitB ⟨#[59]⟩ 0 (Lib.countB s ⟨#[59]⟩) s).map (·.data.toList) = semis s.data.toList := by
  rw [Lib.splitB_data]
  have e : Lib.countB s ⟨#[59]⟩ = Lib.countByte s.data.toList 59 := Lib.count_one 59 s.data.toList
  rw [e]
  exact split_pieces _ _ rfl

end Go.Proofs.YtjgfkmakfdepcaaGreatDoor
namespace Go.Proofs.YtjgfkmakfdepcaaGreatDoor

def wErr : List UInt8 := [101, 114, 114, 111, 114]
/-- may a variable hold a value? -/
def mayB (v : VM) (x : VA) : Bool := decide (x.kd = v.kd) && decide (v.lo ≤ x.a ∧ x.a ≤ v.hi) && (decide (x.kd ≠ 3) || decide (v.lo ≤ x.b ∧ x.b ≤ v.hi))
/-- where the first variable of a name stands -/
def atP (vs : List VM) (n : List UInt8) : Int := ixP (isV n) vs 0
/-- the values when a variable was set, if it may be -/
def setP (vs : List VM) (xs : List VA) (a : AM) : Option (List VA) :=
  match vs[(atP vs a.nm).toNat]? with
  | some v => if 0 ≤ atP vs a.nm ∧ (evP vs xs [] a.ex).2 = 0 ∧ mayB v (evP vs xs [] a.ex).1 = true then some (xs.set (atP vs a.nm).toNat (evP vs xs [] a.ex).1) else none
  | none => none

/-- what a block leaves -/
structure DM where
  xs : List VA
  r : List (List UInt8)
  s : List (List UInt8)
  ok : Bool
def doP (vs : List VM) : List AM → List VA → List (List UInt8) → List (List UInt8) → DM
  | [], xs, r, s => ⟨xs, r, s, true⟩
  | a :: al, xs, r, s =>
    if a.kd = 1 then (match setP vs xs a with | some ys => doP vs al ys r s | none => ⟨xs, r ++ [wErr], s, false⟩)
    else if a.kd = 2 then doP vs al xs (r ++ [a.nm]) s
    else if a.kd = 3 then doP vs al xs r (s ++ [a.nm])
    else ⟨xs, r ++ [wErr], s, false⟩

section
variable {vs : List VM}
theorem set_at {xs ys : List VA} {a : AM} (h : setP vs xs a = some ys) : ∃ (i : Nat) (v : VM), atP vs a.nm = i ∧ vs[i]? = some v ∧ (evP vs xs [] a.ex).2 = 0 ∧ mayB v (evP vs xs [] a.ex).1 = true ∧ ys = xs.set i (evP vs xs [] a.ex).1 := by
  unfold setP at h
  split at h
  · rename_i v hv
    split at h
    · rename_i hh
      have e : atP vs a.nm = ((atP vs a.nm).toNat : Nat) := by omega
      exact ⟨_, v, e, hv, hh.2.1, hh.2.2, (Option.some.inj h).symm⟩
    · cases h
  · cases h
theorem set_len {xs ys : List VA} {a : AM} (h : setP vs xs a = some ys) : ys.length = xs.length := by
  obtain ⟨i, v, _, _, _, _, rfl⟩ := set_at h
  rw [List.length_set]
theorem do_len : ∀ (l : List AM) (xs : List VA) (r s : List (List UInt8)), (doP vs l xs r s).xs.length = xs.length
  | [], _, _, _ => rfl
  | a :: l, xs, r, s => by
    unfold doP
    split
    · split
      · rename_i ys h; rw [do_len l ys r s, set_len h]
      · rfl
    · split
      · exact do_len l _ _ _
      · split
        · exact do_len l _ _ _
        · rfl
theorem ev_fin {xs : List VA} {ss : List (List UInt8)} (hx : ∀ x ∈ xs, inL x.a = true) (cs : List CM) : Fin (evP vs xs ss cs) ∧ ((evP vs xs ss cs).2 = 0 → xs.length = vs.length) := by
  unfold evP
  by_cases hr : rightB cs = true
  · rw [if_pos hr]
    by_cases hw : worldB vs xs = true
    · rw [if_pos hw]
      have hw' := hw
      unfold worldB at hw'
      simp only [Bool.and_eq_true, decide_eq_true_eq] at hw'
      obtain ⟨t, h1, rfl⟩ := right_tree hr
      rw [ev_tree (fun v hv => ⟨List.all_eq_true.1 hw'.2 v hv, hx v hv⟩) hw'.1.symm h1]
      exact ⟨fin_eT (fun v hv => ⟨List.all_eq_true.1 hw'.2 v hv, hx v hv⟩) hw'.1.symm h1, fun _ => hw'.1⟩
    · rw [if_neg hw]; exact ⟨fin_er (by decide), fun h => absurd h (by decide)⟩
  · rw [if_neg hr]; exact ⟨fin_er (by decide), fun h => absurd h (by decide)⟩
theorem ev_in {xs : List VA} {ss : List (List UInt8)} (hx : ∀ x ∈ xs, inL x.a = true) (cs : List CM) : inL (evP vs xs ss cs).1.a = true := by
  rcases (ev_fin (vs := vs) (ss := ss) hx cs).1 with ⟨_, h⟩ | ⟨_, h⟩
  · exact h.2
  · rw [h]; rfl
theorem set_in {xs ys : List VA} {a : AM} (hx : ∀ x ∈ xs, inL x.a = true) (h : setP vs xs a = some ys) : ∀ x ∈ ys, inL x.a = true := by
  obtain ⟨i, v, _, _, _, _, rfl⟩ := set_at h
  intro x hm
  rcases List.mem_or_eq_of_mem_set hm with h | rfl
  · exact hx x h
  · exact ev_in hx _
/-- what variables hold that held what they may -/
def FitP (vs : List VM) (xs ys : List VA) : Prop := ∀ (i : Nat) v x y, vs[i]? = some v → xs[i]? = some x → ys[i]? = some y → mayB v x = true → mayB v y = true
theorem FitP.refl (xs : List VA) : FitP vs xs xs := fun i v x y _ h2 h3 h => by rw [h2] at h3; cases h3; exact h
theorem FitP.trans {xs ys zs : List VA} (hl : xs.length = ys.length) (h1 : FitP vs xs ys) (h2 : FitP vs ys zs) : FitP vs xs zs := by
  intro i v x z a b c d
  have hi : i < ys.length := by rw [← hl]; exact (List.getElem?_eq_some_iff.1 b).1
  exact h2 i v ys[i] z a (List.getElem?_eq_getElem hi) c (h1 i v x ys[i] a b (List.getElem?_eq_getElem hi) d)
end
end Go.Proofs.YtjgfkmakfdepcaaGreatDoor
namespace Go.Proofs.YtjgfkmakfdepcaaGreatDoor
open Go.RowKit

theorem called_any (x : VM) (X N : ByteArray) (g : Nat) (w : World) (hg : g < w.heap.size) (hN : w.cell? ⟨g, 0, none⟩ = some (.string N)) :
    Calls Tryz.prog 165 #[.agg #[.string X, .int .i64 x.kd, .int .i64 x.lo, .int .i64 x.hi, .int .i64 x.ik, .int .i64 x.ia, .int .i64 x.ib], .pointer (some ⟨g, 0, none⟩)] w fun e w' => e = .returned (.bool (decide (X.data.toList = N.data.toList))) ∧ Below w.heap.size w w' := by
  have HB : Hid (∀ W : World, ∀ o : Obj, Below W.heap.size W (W.alloc o)) := fun W o => (Below.refl _ _).alloc (Nat.le_refl _) o
  have hne0 : w.heap.size ≠ g := by omega
  by_cases he : X.data.toList = N.data.toList
  · obtain rfl := str_eq he
    rw [decide_eq_true he]
    clear he
    go_enter Tryz.func165, Tryz.ntmps165
    go_wp2
    go_ret
    exact ⟨rfl, HB.out _ _⟩
  · have hne := str_ne he
    have hne' := str_ne (Ne.symm he)
    rw [decide_eq_false he]
    clear he
    go_enter Tryz.func165, Tryz.ntmps165
    go_wp2
    go_ret
    exact ⟨rfl, HB.out _ _⟩

set_option maxHeartbeats 1000000 in
theorem varIndex_any (v : Value) (vs : List VM) (N : ByteArray) (g : Nat) (w : World) (hR : RdV w v vs) (hl : vs.length ≤ 4611686018427387904) (hg : g < w.heap.size) (hN : w.cell? ⟨g, 0, none⟩ = some (.string N)) :
    Calls Tryz.prog 64 #[v, .func (.func 165) #[] #[.pointer (some ⟨g, 0, none⟩)]] w fun e w' => e = .returned (.int .i64 (ixP (isV N.data.toList) vs 0)) ∧ Below w.heap.size w w' := by
  obtain ⟨A, c, rfl⟩ := hR.form
  have HR := Lib.hid hR; clear hR
  obtain ⟨n, hn⟩ : ∃ n, vs.length = n := ⟨_, rfl⟩
  have HN := Lib.hid hn
  rw [hn] at hl HR ⊢
  clear hn
  have HNM := Lib.hid hN; clear hN
  go_enter Tryz.func64, Tryz.ntmps64
  go_wp2
  go_loopw [4, 5, 8] (fun x4 x5 i wr => x4 = .int .i64 0 ∧ (x5 = .int .i64 0 ∨ True) ∧ ∃ k : Nat, k ≤ n ∧ i = .int .i64 k ∧ Hid (ixP (isV N.data.toList) (vs.drop k) k = ixP (isV N.data.toList) vs 0) ∧ Below w.heap.size w wr) (fun _ _ i _ => n - (intOf i).toNat)
  case atStart => exact ⟨rfl, Or.inr trivial, 0, by omega, rfl, rfl, Below.refl _ _⟩
  case round =>
    obtain ⟨rfl, _, k, hk, rfl, HI, hb⟩ := hrel
    have HBL := Lib.hid hb
    by_cases hkn : k < n
    · have HR' := HR.out.below hb
      obtain ⟨b, o, rfl, _, hc0, hc1, hc2, hc3, hc4, hc5, hc6⟩ := HR'.at_ (k := k) (by rw [HN.out]; exact hkn)
      have hst := ix_step (p := isV N.data.toList) (l := vs) (k := k) (by rw [HN.out]; exact hkn)
      rw [HI.out] at hst
      obtain ⟨X, hX, hXl⟩ := bstr_some (vs[k]'(by rw [HN.out]; exact hkn)).nm
      have hiv : isV N.data.toList (vs[k]'(by rw [HN.out]; exact hkn)) = decide (X.data.toList = N.data.toList) := by rw [hXl]; rfl
      rw [hiv] at hst
      rw [hX] at hc0
      generalize vs[k]'(by rw [HN.out]; exact hkn) = x at *
      have HC := Lib.hid (called_any x X N g wr (by have := HBL.out.size; omega) ((hb.cell hg).trans HNM.out))
      clear hX hXl hb HR' hiv
      by_cases he : X.data.toList = N.data.toList
      · have hr : ixP (isV N.data.toList) vs 0 = k := by rw [hst, if_pos (by simp [he])]
        have HRR := Lib.hid hr
        have HE := Lib.hid (decide_eq_true he)
        clear hst hr he HI
        go_wp2_with fail
        refine HC.out.mono ?_
        rintro e w1 ⟨rfl, hb1⟩
        rw [HE.out]
        have HB1 := Lib.hid (HBL.out.trans (hb1.mono HBL.out.size)); clear hb1
        go_wp2
        go_ret
        exact ⟨ret_int HRR.out.symm, HB1.out⟩
      · have hr : ixP (isV N.data.toList) (vs.drop (k + 1)) (k + 1) = ixP (isV N.data.toList) vs 0 := by rw [hst, if_neg (by simp [he])]
        have HRR := Lib.hid hr
        have HE := Lib.hid (decide_eq_false he)
        clear hst hr he HI
        go_wp2_with fail
        refine HC.out.mono ?_
        rintro e w1 ⟨rfl, hb1⟩
        rw [HE.out]
        have HB1 := Lib.hid (HBL.out.trans (hb1.mono HBL.out.size)); clear hb1
        go_wp2
        go_roundw
        case rel => exact ⟨rfl, Or.inr trivial, k + 1, by omega, by go_num, HRR.out, HB1.out⟩
        case measure => simp [intOf]; omega
    · have hr : ixP (isV N.data.toList) vs 0 = -1 := by rw [← HI.out, ix_end (by rw [HN.out]; exact hkn)]
      have HRR := Lib.hid hr
      clear hr HI
      go_wp2
      go_ret
      exact ⟨ret_int HRR.out.symm, HBL.out⟩
set_option maxHeartbeats 1000000 in
theorem refFind_any (v : Value) (vs : List VM) (N : ByteArray) (w : World) (hR : RdV w v vs) (hl : vs.length ≤ 4611686018427387904) :
    Calls Tryz.prog 38 #[v, .string N] w fun e w' => e = .returned (.int .i64 (ixP (isV N.data.toList) vs 0)) ∧ w = w' := by
  obtain ⟨A, c, rfl⟩ := hR.form
  have HR := Lib.hid hR; clear hR
  obtain ⟨n, hn⟩ : ∃ n, vs.length = n := ⟨_, rfl⟩
  have HN := Lib.hid hn
  rw [hn] at hl HR ⊢
  clear hn
  go_enter Tryz.func38, Tryz.ntmps38
  go_wp2
  go_loop [4, 5] (fun x4 i => x4 = .int .i64 0 ∧ ∃ k : Nat, k ≤ n ∧ i = .int .i64 k ∧ Hid (ixP (isV N.data.toList) (vs.drop k) k = ixP (isV N.data.toList) vs 0)) (fun _ i => n - (intOf i).toNat)
  case atStart => exact ⟨rfl, 0, by omega, rfl, rfl⟩
  case round =>
    obtain ⟨rfl, k, hk, rfl, HI⟩ := hrel
    by_cases hkn : k < n
    · obtain ⟨b, o, rfl, _, hc, _⟩ := HR.out.at_ (k := k) (by rw [HN.out]; exact hkn)
      have hst := ix_step (p := isV N.data.toList) (l := vs) (k := k) (by rw [HN.out]; exact hkn)
      rw [HI.out] at hst
      obtain ⟨X, hX, hXl⟩ := bstr_some (vs[k]'(by rw [HN.out]; exact hkn)).nm
      have hiv : isV N.data.toList (vs[k]'(by rw [HN.out]; exact hkn)) = decide (X.data.toList = N.data.toList) := by rw [hXl]; rfl
      rw [hiv] at hst
      rw [hX] at hc
      clear hX hXl hiv
      by_cases he : X.data.toList = N.data.toList
      · have hr : ixP (isV N.data.toList) vs 0 = k := by rw [hst, if_pos (by simp [he])]
        obtain rfl := str_eq he
        have HRR := Lib.hid hr
        clear hst hr he HI
        go_wp2
        go_ret
        exact ⟨ret_int HRR.out.symm, rfl⟩
      · have hr : ixP (isV N.data.toList) (vs.drop (k + 1)) (k + 1) = ixP (isV N.data.toList) vs 0 := by rw [hst, if_neg (by simp [he])]
        have HRR := Lib.hid hr
        have hne := str_ne he
        have hne' := str_ne (Ne.symm he)
        clear hst hr he HI
        go_wp2
        go_round
        case rel => exact ⟨rfl, k + 1, by omega, by go_num, HRR.out⟩
        case measure => simp [intOf]; omega
    · have hr : ixP (isV N.data.toList) vs 0 = -1 := by rw [← HI.out, ix_end (by rw [HN.out]; exact hkn)]
      have HRR := Lib.hid hr
      clear hr HI
      go_wp2
      go_ret
      exact ⟨ret_int HRR.out.symm, rfl⟩

end Go.Proofs.YtjgfkmakfdepcaaGreatDoor
